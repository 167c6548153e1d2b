/-
  ApartEntries of no list, beside no list.
-/
import Derived.Test.YtanhmebjfockjaaBApart
namespace Go.Proofs.Ytanhmebjfockjaa
open Go.RowKit

set_option maxRecDepth 100000 in
set_option maxHeartbeats 4000000 in
theorem apartE_nil (w : World) (B : Nat) (hB : w.cell? ⟨B, 0, none⟩ = some (.slice none 0 0)) :
    Calls Try.prog 24 #[.slice none 0 0, .slice (some ⟨B, 0, none⟩) 1 1] w fun e w' => e = .returned (.bool true) ∧ Below w.heap.size w w' := by
  have SE : Hid (∀ wx u u2, EntsAt wx u [] → EntsAt wx u2 [] → Calls Try.prog 21 #[u, u2] wx fun e w' => e = .returned (.bool true) ∧ Below wx.heap.size wx w') := fun wx u u2 h1 h2 => samee_any wx u u2 [] h1 h2 (by simp)
  have hmk := make_one
  obtain ⟨W0, hW0⟩ : ∃ W0, W0 = w.alloc (.cells (madeCells #[.slice none 0 0] 1) 23) := ⟨_, rfl⟩
  have z0 : W0.heap.size = w.heap.size + 1 := by rw [hW0]; simp
  have b0 : Below w.heap.size w W0 := by rw [hW0]; exact (Below.refl _ _).alloc (Nat.le_refl _) _
  have q0 : W0.cell? ⟨w.heap.size, 0, none⟩ = some (.slice none 0 0) := by
    rw [hW0, cell_of_row _ _ 0 _ _ (0, 0) (heap_alloc_new w (.cells (madeCells #[.slice none 0 0] 1) 23)), ← Array.getElem?_toList, toList_madeCells_one, List.getElem?_replicate, if_pos (by omega)]
  have q1 : W0.frozen? ⟨w.heap.size, 0, none⟩ = false := by rw [hW0]; exact frozen_of_row _ _ 0 _ _ (heap_alloc_new w (.cells (madeCells #[.slice none 0 0] 1) 23))
  have L0 : (W0.alloc (.cells #[] 38)).ownsRow W0.heap.size 38 4 (.slice (some ⟨W0.heap.size, 0, none⟩) 0 0) 0 (ecs []) := World.ownsRow_lit (size := 4) (e := 38) (base := W0.heap.size) W0 #[] 0 (Nat.le_refl _) (by unfold maxLen; omega) rfl
  have b1 : Below W0.heap.size W0 (W0.alloc (.cells #[] 38)) := (Below.refl _ _).alloc (Nat.le_refl _) _
  have b2 : Below w.heap.size w (W0.alloc (.cells #[] 38)) := b0.trans (b1.mono b0.size)
  have hB2 := keepC b2 hB
  have HL0 := hide L0
  have Z0 := hide z0
  have B0 := hide b0
  have Q0 := hide q0
  have Q1 := hide q1
  have HW := hide hW0
  have HB := hide hB
  clear L0 b1 b2 b0 z0 q0 q1 hW0 hB
  go_enter Try.func24, Try.ntmps24
  go_wp2_with (fail)
  rw [← HW.out]
  refine wp_loop_rounds 2 ?_
  rw [rounds_succ]
  go_wp2_with (first
    | (at_builtin; refine wpList_app_ents _ rfl _ _ rfl W0.heap.size W0.heap.size 0 [] [] 0 0 0 rfl rfl rfl HL0.out none rfl (EntsAt.nil _ _ _) (fun _ => rfl) (by omega) (by simp) ?_; intro g1 cap1 w1 o1 h1; have B1 : Below W0.heap.size W0 w1 := ((Below.refl _ _).alloc (Nat.le_refl _) _).grown h1 (by simp) (fun k hk => by cases hk; exact Nat.le_refl _); have m0 := keepC B1 Q0.out; have m1 := (B1.frozen (p := ⟨w.heap.size, 0, none⟩) (by have := Z0.out; show w.heap.size < _; omega)).trans Q1.out))
  obtain ⟨w2, hw2⟩ : ∃ w2, w2 = w1.setCell ⟨w.heap.size, 0, none⟩ (.slice (some ⟨g1, 0, none⟩) 0 cap1) := ⟨_, rfl⟩
  have B2 : Below w.heap.size w w2 := by rw [hw2]; exact (B0.out.trans (B1.mono B0.out.size)).setCell (Nat.le_refl _) _
  have hc2 : w2.cell? ⟨w.heap.size, 0, none⟩ = some (.slice (some ⟨g1, 0, none⟩) 0 cap1) := by rw [hw2]; simp [go_sem, m0]
  have hb2 := keepC B2 HB.out
  rw [← hw2]
  clear m0 m1 o1 h1 B1 hB2 HL0 hw2 Q0 Q1 HW B0 hmk HB Z0
  go_wp2_with (fail)
  rw [rounds_succ]
  go_wp2_with (fail)
  refine wp_loop_rounds 1 ?_
  rw [rounds_succ]
  go_wp2_with (fail)
  refine wp_loop_rounds 1 ?_
  rw [rounds_succ]
  go_wp2_with (fail)
  refine wp_loop_rounds 2 ?_
  rw [rounds_succ]
  go_wp2_with (fail)
  have PK : Hid (∀ wx, Below w2.heap.size w2 wx → wx.cell? ⟨B, 0, none⟩ = some (.slice none 0 0) ∧ wx.cell? ⟨w.heap.size, 0, none⟩ = some (.slice (some ⟨g1, 0, none⟩) 0 cap1)) := fun wx hx => ⟨keepC hx hb2, keepC hx hc2⟩
  have P0 := PK.out w2.drew (Below.refl _ _).drew
  clear hb2 hc2
  go_region_held3 (fun wx => wx.cell? ⟨B, 0, none⟩ = some (.slice none 0 0) ∧ wx.cell? ⟨w.heap.size, 0, none⟩ = some (.slice (some ⟨g1, 0, none⟩) 0 cap1))
    (first | exact P0 | exact P1)
    (first
      | (go_at_call 21; refine (SE.out _ _ _ (EntsAt.nil _ _ _) (EntsAt.nil _ _ _)).mono ?_; rintro e w3 ⟨rfl, b3⟩; have B3 : Below w2.heap.size w2 w3 := (Below.refl _ _).drew.trans b3; have P1 := PK.out _ B3))
  go_wp2_with (fail)
  rw [rounds_succ]
  go_wp2_with (fail)
  go_ret
  exact ⟨rfl, B2.trans (B3.mono B2.size)⟩
end Go.Proofs.Ytanhmebjfockjaa
