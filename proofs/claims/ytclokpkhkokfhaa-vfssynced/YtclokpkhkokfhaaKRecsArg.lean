/-
  A list of lists of bytes that came in.
-/
import Derived.Test.YtclokpkhkokfhaaKFrame
import Derived.Test.YtclokpkhkokfhaaKRecsDef
import Derived.Deep.Matrix
namespace Go.Proofs.Ytclokpkhkokfhaa
open Go.ChangeShapes Go.WideShapes Go.ChangeAt Go.RowKit

theorem add_flat (b off j : Nat) : (⟨b, off, none⟩ : Addr).add j = ⟨b, off + j, none⟩ := by unfold Addr.add; split <;> simp_all

theorem recs_in {H : Type} {enc : TypeId × Value → H} {W : World} {a : Option Addr} {len cap : Nat} {d : DataW H} {p : List MemPlace} (hk : DataW.Trod enc Try.prog W 0 (fun _ => true) true 53 (.slice a len cap) d p) :
    ∃ rs : List (List UInt8), len = rs.length ∧ RecsAt W (.slice a len cap) rs := by
  obtain ⟨fuel, hf⟩ := hk
  rcases Deep.open_int_rows Try.underlying53 Try.underlying29 Try.underlying5 (by kernel_rfl) (by kernel_rfl) hf with ⟨hcs, _⟩ | ⟨x, l', c', A, L, C, Z, hcs, _, hl, hm, _, hall⟩
  · simp [Value.cells] at hcs
    obtain ⟨rfl, rfl, rfl⟩ := hcs
    exact ⟨[], rfl, RecsAt.nil W⟩
  · simp [Value.cells] at hcs
    obtain ⟨rfl, rfl, rfl⟩ := hcs
    unfold maxLen at hm
    refine ⟨(List.range len).map fun r => ((Z r).take (L r)).map fun z => UInt8.ofNat z.toNat, by simp, some x, cap, by simp, by simp; exact hl, by omega, (fun e => by cases e), fun h0 => ?_⟩
    have hlen0 : 0 < len := by
      rcases Nat.eq_zero_or_pos len with h | h
      · subst h; exact absurd (by simp) h0
      · exact h
    obtain ⟨b, off, spot⟩ := x
    have hspot : spot = none := by simpa [Addr.add] using World.cell?_spot (hall 0 (by omega)).1
    subst hspot
    refine ⟨b, off, rfl, fun k hk => ?_⟩
    have hk' : k < len := by simpa using hk
    obtain ⟨hc, hlc, hcm, hz, hwz, hno, hin⟩ := hall k (by omega)
    unfold maxLen at hcm
    rw [add_flat] at hc
    have hll : (((List.range len).map fun r => ((Z r).take (L r)).map fun z => UInt8.ofNat z.toNat)[k]'hk).length = L k := by simp; omega
    refine ⟨_, hc, A k, C k, by rw [hll], by rw [hll]; exact hlc, by omega, hno, fun h1 => ?_⟩
    have hL0 : 0 < L k := by
      rcases Nat.eq_zero_or_pos (L k) with h | h
      · exact absurd (List.eq_nil_of_length_eq_zero (by rw [hll, h])) h1
      · exact h
    obtain ⟨y, hy⟩ : ∃ y, A k = some y := by
      cases hA : A k with
      | none => have := hno hA; omega
      | some y => exact ⟨y, rfl⟩
    obtain ⟨_, hcell⟩ := hin y hy
    obtain ⟨b', off', spot⟩ := y
    have hspot : spot = none := by simpa [Addr.add] using World.cell?_spot (hcell 0 (by omega))
    subst hspot
    refine ⟨b', off', hy, fun j hj => ?_⟩
    have hj' : j < (Z k).length := by rw [hll] at hj; omega
    have hcj := hcell j (by omega)
    rw [add_flat] at hcj
    rw [hcj]
    have hb := bounds_u8 (hwz _ (List.getElem_mem hj'))
    simp only [List.getElem_map, List.getElem_range, List.getElem_take, List.getD_eq_getElem?_getD, List.getElem?_eq_getElem hj', Option.getD_some]
    rw [UInt8.toNat_ofNat']
    congr 2
    omega
end Go.Proofs.Ytclokpkhkokfhaa
