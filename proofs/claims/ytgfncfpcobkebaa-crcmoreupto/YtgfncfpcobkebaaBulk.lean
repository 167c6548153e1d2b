/-
  What the bound on the bulk of the arguments gives of a slice: how many values it has.
-/
import Derived.Test.YtgfncfpcobkebaaRows
import Derived.Deep.Slices
namespace Go.Proofs.Ytgfncfpcobkebaa

theorem bulk_pos {H : Type} : ∀ d : DataW H, 0 < Rows.uptoBulk d := by
  intro d
  cases d with
  | lit l => cases l <;> simp only [Rows.uptoBulk] <;> omega
  | _ => simp only [Rows.uptoBulk] <;> omega

theorem bulk_len {H : Type} : ∀ l : List (DataW H), l.length ≤ Rows.uptoBulkAll l := by
  intro l
  induction l with
  | nil => exact Nat.zero_le _
  | cons d l ih => have := bulk_pos d; simp only [Rows.uptoBulkAll, List.length_cons]; omega

/-- A slice argument: nil, or with its places counted by the bulk of what it reads as. -/
theorem slice_bulk {H : Type} {enc : TypeId × Value → H} {W : World} {t e : TypeId} {a : Option Addr} {len cap : Nat} {d : DataW H} {p : List MemPlace} (ht : Try.prog.underlying t = some (.slice e))
    (hk : DataW.Trod enc Try.prog W 0 (fun _ => true) true t (.slice a len cap) d p) :
    len ≤ Rows.uptoBulk d ∧ (∀ elems spr, d = .slice elems spr → elems.length + spr.length ≤ Rows.uptoBulk d) ∧ (a = none → cap = 0) ∧ len ≤ cap := by
  obtain ⟨fuel, hf⟩ := hk
  have hall : ∀ elems spr, d = .slice elems spr → elems.length + spr.length ≤ Rows.uptoBulk d := by
    rintro elems spr rfl
    have h1 := bulk_len elems
    have h2 := bulk_len spr
    simp only [Rows.uptoBulk]; omega
  rcases Deep.open_slice ht hf with ⟨hcs, _⟩ | ⟨ad, len', cap', m, n, D, Pl, hcs, _, hl, _, hm, hx, _⟩
  · simp [Value.cells] at hcs
    obtain ⟨rfl, rfl, rfl⟩ := hcs
    exact ⟨Nat.zero_le _, hall, fun _ => rfl, Nat.le_refl _⟩
  · simp [Value.cells] at hcs
    obtain ⟨rfl, rfl, rfl⟩ := hcs
    simp only [Prod.mk.injEq] at hx
    have := hall _ _ hx.1
    rw [List.length_map, List.length_range] at this
    exact ⟨by omega, hall, fun h => (by cases h), hl⟩
end Go.Proofs.Ytgfncfpcobkebaa
