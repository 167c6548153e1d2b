/-
  Sealed bytes: the bytes, and the four of their checksum behind them, in new memory.
-/
import Derived.Test.YtmhehohiodggcaaKMake
import Derived.Test.YtmhehohiodggcaaCMore
import Derived.Test.YtmhehohiodggcaaSeal
namespace Go.Proofs.Ytmhehohiodggcaa
open Go.RowKit

/-- The bytes, j of the four behind them, and the room of the others. -/
def fill (l : List UInt8) (s j : Nat) : List UInt8 := l ++ ((Crc.le4 s).take j ++ List.replicate (4 - j) 0)
theorem fill_length (l : List UInt8) (s j : Nat) (h : j ≤ 4) : (fill l s j).length = l.length + 4 := by
  unfold fill
  rw [List.length_append, List.length_append, List.length_take, List.length_replicate, show (Crc.le4 s).length = 4 from rfl]
  omega
theorem fill_all (l : List UInt8) : fill l (Crc.sum l) 4 = sealB l := by unfold fill sealB; simp [Crc.le4]
theorem fill_none (l : List UInt8) (s : Nat) : fill l s 0 = l.take (l.length + 4) ++ List.replicate (l.length + 4 - l.length) 0 := by
  unfold fill
  have e : l.take (l.length + 4) = l := List.take_of_length_le (by omega)
  rw [e, show l.length + 4 - l.length = 4 - 0 from by omega, List.take_zero, List.nil_append]
theorem fill_set (l : List UInt8) (s j : Nat) (h : j < 4) : (fill l s j).set (l.length + j) (UInt8.ofNat (s / 2 ^ (8 * j))) = fill l s (j + 1) := by
  unfold fill
  rw [List.set_append_right _ _ (by omega), Nat.add_sub_cancel_left]
  congr 1
  rcases (by omega : j = 0 ∨ j = 1 ∨ j = 2 ∨ j = 3) with rfl | rfl | rfl | rfl <;> simp [Crc.le4, List.replicate]

theorem bc_set (l : List UInt8) (j : Nat) (c : UInt8) : (bc l).set j (.int .u8 (c.toNat : Int)) = bc (l.set j c) := by unfold bc; rw [List.map_set]

set_option maxHeartbeats 1600000 in
theorem sealed_any (w : World) (a0 : Option Addr) (c0 : Nat) (l : List UInt8) (h : BytesIn w (.slice a0 l.length c0) l) (hl : l.length ≤ 140737488351232) :
    Calls Try.prog 31 #[.slice a0 l.length c0] w fun e w' => e = .returned (.slice (some ⟨w.heap.size, 0, none⟩) (l.length + 4) (l.length + 4)) ∧ Ext w.heap.size w (.slice none 0 0) w' (.slice (some ⟨w.heap.size, 0, none⟩) (l.length + 4) (l.length + 4)) (sealB l) := by
  have MK := make_bytes (l.length + 4) (by omega) ((l.length : Int) + 4) (by omega)
  obtain ⟨s, hs⟩ : ∃ s, s = Crc.sum l := ⟨_, rfl⟩
  have hsl : s < 4294967296 := by rw [hs]; exact Crc.sum_lt l
  have F0 : Hid (fill l s 0 = l.take (l.length + 4) ++ List.replicate (l.length + 4 - l.length) 0) := fill_none l s
  have F4 : Hid (fill l s 4 = sealB l) := by show _ = _; rw [hs]; exact fill_all l
  have SM : Hid (∀ wx, Below w.heap.size w wx → Calls Try.prog 41 #[.slice a0 l.length c0] wx fun e w' => e = .returned (.int .u32 (s : Int)) ∧ w' = wx) := fun wx hw => by rw [hs]; exact sum_any wx _ l (h.later hw)
  have FS : Hid (∀ j, j < 4 → (bc (fill l s j)).set (l.length + j) (.int .u8 ((UInt8.ofNat (s / 2 ^ (8 * j))).toNat : Int)) = bc (fill l s (j + 1))) := fun j hj => by rw [bc_set, fill_set l s j hj]
  have FL : Hid (∀ j, j ≤ 4 → l.length + 4 = (fill l s j).length) := fun j hj => (fill_length l s j hj).symm
  clear hs
  go_enter Try.func31, Try.ntmps31
  go_wp2_with (first
    | (refine wpList_copy_in _ rfl _ _ rfl w (l.length + 4) l.length c0 l (fill l s 0) rfl rfl a0 rfl rfl h F0.out (by omega) ?_; intro w2 r2 o2 g2; have B2 : Below w.heap.size w w2 := ⟨g2.os, g2.tape, g2.output, g2.size, fun i hi => g2.block i hi (by simp)⟩; clear h F0)
    | (go_at_call 41; refine (SM.out _ B2).mono ?_; rintro e w3 ⟨rfl, rfl⟩; clear SM))
  clear MK
  go_loopw [15] (fun i wr => ∃ j : Nat, j ≤ 4 ∧ i = .int .i64 j ∧ wr.ownsRow w.heap.size 5 1 (.slice (some ⟨w.heap.size, 0, none⟩) (l.length + 4) (l.length + 4)) (l.length + 4) (bc (fill l s j)) ∧ w.grownBy wr none) (fun i _ => 4 - (intOf i).toNat)
  case atStart => exact ⟨0, by omega, rfl, o2, g2⟩
  case round =>
    obtain ⟨j, hj, rfl, ho, hg⟩ := hrel
    clear o2 g2 B2
    by_cases hlt : j < 4
    · have f0 := ho.frozenAt (l.length + j)
      obtain ⟨u0, d0⟩ : ∃ u, wr.cell? ⟨w.heap.size, l.length + j, none⟩ = some u := by
        refine ⟨_, (ho.cellAt (l.length + j) (by omega)).trans (bc_get _ _ ?_)⟩
        rw [← FL.out j (by omega)]; omega
      have HS : Hid (∀ X : Int, X = (s : Int) / 2 ^ (8 * j) % 256 → (wr.setCell ⟨w.heap.size, l.length + j, none⟩ (.int .u8 X)).ownsRow w.heap.size 5 1 (.slice (some ⟨w.heap.size, 0, none⟩) (l.length + 4) (l.length + 4)) (l.length + 4) (bc (fill l s (j + 1))) ∧ w.grownBy (wr.setCell ⟨w.heap.size, l.length + j, none⟩ (.int .u8 X)) none) := fun X hX => by
        obtain ⟨s1, s2⟩ := ho.stored (l.length + j) (.int .u8 X)
        rw [hX, ← ofNat_cell_div, FS.out j hlt] at s1
        rw [hX, ← ofNat_cell_div] at s2 ⊢
        exact ⟨s1, grownBy_trans hg s2 (.inr ⟨_, rfl, Nat.le_refl _⟩)⟩
      clear ho FS FL F4
      rcases (by omega : j = 0 ∨ j = 1 ∨ j = 2 ∨ j = 3) with rfl | rfl | rfl | rfl
      · rw [Nat.add_zero] at d0 f0 HS
        go_wp2_with (fail)
        exact ⟨⟨1, by omega, rfl, (HS.out _ (by simp)).1, (HS.out _ (by simp)).2⟩, by simp [intOf]⟩
      · go_wp2_with (fail)
        exact ⟨⟨2, by omega, rfl, (HS.out _ (by simp)).1, (HS.out _ (by simp)).2⟩, by simp [intOf]⟩
      · go_wp2_with (fail)
        exact ⟨⟨3, by omega, rfl, (HS.out _ (by simp)).1, (HS.out _ (by simp)).2⟩, by simp [intOf]⟩
      · go_wp2_with (fail)
        exact ⟨⟨4, by omega, rfl, (HS.out _ (by simp; omega)).1, (HS.out _ (by simp; omega)).2⟩, by simp [intOf]⟩
    · have e4 : j = 4 := by omega
      subst e4
      rw [F4.out] at ho
      have HL : Hid (l.length + 4 = (sealB l).length) := (sealB_length l).symm
      go_wp2_with (fail)
      go_ret
      exact ⟨rfl, ext_of_own ho HL.out hg⟩
end Go.Proofs.Ytmhehohiodggcaa
