/-
  Two lists of values held against each other: the call answers whether they are the same, and leaves all that was there as it was.
-/
import Derived.Test.YtjddhakaebkkeaaDoorUBase
namespace Go.Proofs.YtjddhakaebkkeaaDoor
open Go.RowKit

/-- Two values are the same. -/
def sameV (v u : Val) : Bool := (v.k == u.k) && ((v.n == u.n) && (v.t.toList == u.t.toList))
def sameL : List Val → List Val → Bool
  | [], [] => true
  | v :: a, u :: b => sameV v u && sameL a b
  | _, _ => false

theorem val_eq {v u : Val} (h : sameV v u = true) : v = u := by
  simp only [sameV, Bool.and_eq_true, beq_iff_eq] at h
  obtain ⟨h1, h2, h3⟩ := h
  cases v; cases u
  simp only at h1 h2 h3
  subst h1; subst h2
  congr
  rw [ByteArray.toList_eq, ByteArray.toList_eq] at h3
  rename_i t t'
  cases t; cases t'; congr; simpa [Array.toList_inj] using h3
theorem sameV_refl (v : Val) : sameV v v = true := by simp [sameV]
theorem sameL_iff (a b : List Val) : sameL a b = true ↔ a = b := by
  induction a generalizing b with
  | nil => cases b <;> simp [sameL]
  | cons v a ih =>
    cases b with
    | nil => simp [sameL]
    | cons u b =>
      simp only [sameL, Bool.and_eq_true, ih]
      constructor
      · rintro ⟨h1, h2⟩; rw [val_eq h1, h2]
      · intro h; injection h with h1 h2; subst h1; exact ⟨sameV_refl _, h2⟩

theorem ValsAt.later {w w' : World} {b off : Nat} {vs : List Val} (h : ValsAt w b off vs) (hb : Below w.heap.size w w') : ValsAt w' b off vs := fun j hj => by
  obtain ⟨h0, h1, h2⟩ := h j hj
  exact ⟨(hb.cell (World.block_lt_of_cell? w _ h0)).trans h0, (hb.cell (World.block_lt_of_cell? w _ h1)).trans h1, (hb.cell (World.block_lt_of_cell? w _ h2)).trans h2⟩
theorem ValsIn.later {w w' : World} {v : Value} {vs : List Val} (h : ValsIn w v vs) (hb : Below w.heap.size w w') : ValsIn w' v vs := by
  obtain ⟨⟨a, cap, hv, hf⟩, hwf, hlen⟩ := h
  exact ⟨⟨a, cap, hv, fun h0 => by obtain ⟨b, off, ha, hat⟩ := hf h0; exact ⟨b, off, ha, hat.later hb⟩⟩, hwf, hlen⟩

/-- How two values are alike or not, part by part. -/
theorem parts_of (v u : Val) : (v.k == u.k) = false ∨ ((v.k == u.k) = true ∧ (v.n == u.n) = false) ∨ ((v.k == u.k) = true ∧ (v.n == u.n) = true ∧ (v.t.toList == u.t.toList) = false) ∨ ((v.k == u.k) = true ∧ (v.n == u.n) = true ∧ (v.t.toList == u.t.toList) = true) := by
  cases v.k == u.k <;> cases v.n == u.n <;> cases v.t.toList == u.t.toList <;> simp

end Go.Proofs.YtjddhakaebkkeaaDoor
