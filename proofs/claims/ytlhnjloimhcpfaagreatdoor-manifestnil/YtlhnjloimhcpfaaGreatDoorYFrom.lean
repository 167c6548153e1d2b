/-
  The edit that makes a version of the first one.
-/
import Derived.Test.YtlhnjloimhcpfaaGreatDoorYBounds
namespace Go.Proofs.YtlhnjloimhcpfaaGreatDoor
open Go.RowKit

theorem store5 {w : World} {B : Nat} {x y z u v : Value} {t : TypeId} (h : w.heap[B]? = some (.cells #[x, y, z, u, v] t (0, 0))) (x' y' z' u' v' : Value) :
    (((((w.setCell ⟨B, 0, none⟩ x').setCell ⟨B, 1, none⟩ y').setCell ⟨B, 2, none⟩ z').setCell ⟨B, 3, none⟩ u').setCell ⟨B, 4, none⟩ v').heap[B]? = some (.cells #[x', y', z', u', v'] t (0, 0)) ∧ w.grownBy (((((w.setCell ⟨B, 0, none⟩ x').setCell ⟨B, 1, none⟩ y').setCell ⟨B, 2, none⟩ z').setCell ⟨B, 3, none⟩ u').setCell ⟨B, 4, none⟩ v') (some B) :=
  ⟨(Joins.block_setCell (Joins.block_setCell (Joins.block_setCell (Joins.block_setCell (Joins.block_setCell h _) _) _) _) _).trans rfl, grownBy_trans (grownBy_trans (grownBy_trans (grownBy_trans (grown_setc _ B _ _) (grown_setc _ B _ _) (.inl rfl)) (grown_setc _ B _ _) (.inl rfl)) (grown_setc _ B _ _) (.inl rfl)) (grown_setc _ B _ _) (.inl rfl)⟩
theorem slot5 {w : World} {B : Nat} {x y z u v : Value} {t : TypeId} (h : w.heap[B]? = some (.cells #[x, y, z, u, v] t (0, 0))) : w.cell? ⟨B, 0, none⟩ = some x ∧ w.cell? ⟨B, 1, none⟩ = some y ∧ w.cell? ⟨B, 2, none⟩ = some z ∧ w.cell? ⟨B, 3, none⟩ = some u ∧ w.cell? ⟨B, 4, none⟩ = some v ∧ w.frozen? ⟨B, 0, none⟩ = false ∧ w.frozen? ⟨B, 1, none⟩ = false ∧ w.frozen? ⟨B, 2, none⟩ = false ∧ w.frozen? ⟨B, 3, none⟩ = false ∧ w.frozen? ⟨B, 4, none⟩ = false ∧ B < w.heap.size :=
  ⟨Joins.cell_of_block h 0, Joins.cell_of_block h 1, Joins.cell_of_block h 2, Joins.cell_of_block h 3, Joins.cell_of_block h 4, Joins.unfrozen_of_block h 0, Joins.unfrozen_of_block h 1, Joins.unfrozen_of_block h 2, Joins.unfrozen_of_block h 3, Joins.unfrozen_of_block h 4, (Array.getElem?_eq_some_iff.1 h).1⟩

set_option maxRecDepth 100000 in
set_option maxHeartbeats 4000000 in
theorem from_any (w : World) (a : Option Addr) (cap : Nat) (v : Mf.Vn) (h : MtsAt w (.slice a v.tabs.length cap) v.tabs) (hlen : v.tabs.length ≤ 1000000) (hs : ∀ x ∈ v.tabs, x.first.length ≤ 1000000 ∧ x.last.length ≤ 1000000) :
    Calls Tryz.prog 31 #[vv (.slice a v.tabs.length cap) v.log v.seq v.next] w fun r w' => ∃ ta tc, r = .returned (ev (.slice none 0 0) (.slice ta v.tabs.length tc) v.log v.seq v.next) ∧ Hid (w'.ownsRow (w.heap.size + 2) 45 5 (.slice ta v.tabs.length tc) v.tabs.length (mcs v.tabs)) ∧ Below w.heap.size w w' := by
  obtain ⟨L, hL⟩ : ∃ L, L = v.tabs.length := ⟨_, rfl⟩
  obtain ⟨W, hW⟩ : ∃ W, W = (w.alloc (vO (.slice a L cap) v.log v.seq v.next)).alloc (eO (.slice none 0 0) (.slice none 0 0) 0 0 0) := ⟨_, rfl⟩
  have HW := hide hW
  have WZ : W.heap.size = w.heap.size + 2 := by rw [hW]; simp
  have B0 : Hid (Below w.heap.size w W) := by rw [hW]; exact ((Below.refl _ _).alloc (Nat.le_refl _) _).alloc (by simp) _
  have P0 : Hid (W.heap[w.heap.size]? = some (vO (.slice a L cap) v.log v.seq v.next)) := by
    show _ = _
    rw [hW]
    exact (Below.heap_alloc _ _ _ (by simp)).trans (World.alloc_heap_new w _)
  have P1 : Hid (W.heap[w.heap.size + 1]? = some (eO (.slice none 0 0) (.slice none 0 0) 0 0 0)) := by
    show _ = _
    rw [hW]
    have := World.alloc_heap_new (w.alloc (vO (.slice a L cap) v.log v.seq v.next)) (eO (.slice none 0 0) (.slice none 0 0) 0 0 0)
    rw [World.size_alloc] at this
    exact this
  have CP : Hid (∀ wx, Below W.heap.size W wx → Calls Tryz.prog 54 #[.slice a L cap] wx fun r w' => ∃ ta tc, r = .returned (.slice ta L tc) ∧ Hid (w'.ownsRow (w.heap.size + 2) 45 5 (.slice ta L tc) L (mcs v.tabs)) ∧ Below wx.heap.size wx w') := fun wx hx => by
    have := copied_any wx a cap v.tabs (h.later (B0.out.trans (hx.mono B0.out.size))) hlen hs
    rw [← hL] at this
    refine this.mono ?_
    rintro r w' ⟨u, rfl, o, b⟩
    obtain ⟨ta, tc, rfl⟩ := row_shp o
    exact ⟨ta, tc, rfl, own_lift o (by have := hx.size; omega), b⟩
  have KS : Hid (∀ wx, Below W.heap.size W wx → (wx.cell? ⟨w.heap.size, 0, none⟩ = some (.slice a L cap) ∧ wx.cell? ⟨w.heap.size, 1, none⟩ = some (.int .i64 v.log) ∧ wx.cell? ⟨w.heap.size, 2, none⟩ = some (.int .i64 v.seq) ∧ wx.cell? ⟨w.heap.size, 3, none⟩ = some (.int .i64 v.next)) ∧ wx.heap[w.heap.size + 1]? = some (eO (.slice none 0 0) (.slice none 0 0) 0 0 0)) := fun wx hx => by
    have h0 := (hx.block _ (by omega)).trans P0.out
    exact ⟨⟨Joins.cell_of_block h0 0, Joins.cell_of_block h0 1, Joins.cell_of_block h0 2, Joins.cell_of_block h0 3⟩, (hx.block _ (by omega)).trans P1.out⟩
  rw [← hL]
  clear h hs hlen hW P1 hL
  go_enter Tryz.func31, Tryz.ntmps31
  go_wp2_with (fail)
  rw [← HW.out]
  have Q1 := (KS.out _ (Below.refl _ W).drew).1
  refine wp_region_held_drew (S := (fun wx => wx.cell? ⟨w.heap.size, 0, none⟩ = some (.slice a L cap) ∧ wx.cell? ⟨w.heap.size, 1, none⟩ = some (.int .i64 v.log) ∧ wx.cell? ⟨w.heap.size, 2, none⟩ = some (.int .i64 v.seq) ∧ wx.cell? ⟨w.heap.size, 3, none⟩ = some (.int .i64 v.next))) (by kernel_rfl) Q1 (fun hHeld => ?_)
  refine takeH (oi := ?oif1) 0 3 (.pointer (some ⟨w.heap.size, 0, none⟩)) ?hif1 ?hdf1 ?hwf1 ?hyf1 (by kernel_rfl) (by kernel_rfl) (by kernel_rfl) ?hQf1 (by assumption) ?_
  case hif1 => simp only [List.getElem?_toArray, List.getElem?_cons_zero]; rfl
  case hdf1 => rfl
  case hwf1 => rfl
  case hyf1 => (intro w hSw; (try dsimp only at hSw); go_simp)
  case hQf1 => exact fun _ _ _ h => h
  simp only [Act.put, List.setIfInBounds_toArray, List.set_cons_zero, List.set_cons_succ]
  refine takeH (oi := ?oif2) 1 4 (.slice a L cap) ?hif2 ?hdf2 ?hwf2 ?hyf2 (by kernel_rfl) (by kernel_rfl) (by kernel_rfl) ?hQf2 (by assumption) ?_
  case hif2 => simp only [List.getElem?_toArray, List.getElem?_cons_zero, List.getElem?_cons_succ]; rfl
  case hdf2 => rfl
  case hwf2 => rfl
  case hyf2 => (intro w hSw; (try dsimp only at hSw); go_simp)
  case hQf2 => exact fun _ _ _ h => h
  simp only [Act.put, List.setIfInBounds_toArray, List.set_cons_zero, List.set_cons_succ]
  refine takeH (oi := ?oif3) 3 6 (.pointer (some ⟨w.heap.size, 1, none⟩)) ?hif3 ?hdf3 ?hwf3 ?hyf3 (by kernel_rfl) (by kernel_rfl) (by kernel_rfl) ?hQf3 (by assumption) ?_
  case hif3 => simp only [List.getElem?_toArray, List.getElem?_cons_zero, List.getElem?_cons_succ]; rfl
  case hdf3 => rfl
  case hwf3 => rfl
  case hyf3 => (intro w hSw; (try dsimp only at hSw); go_simp)
  case hQf3 => exact fun _ _ _ h => h
  simp only [Act.put, List.setIfInBounds_toArray, List.set_cons_zero, List.set_cons_succ]
  refine takeH (oi := ?oif4) 4 7 (.int .i64 v.log) ?hif4 ?hdf4 ?hwf4 ?hyf4 (by kernel_rfl) (by kernel_rfl) (by kernel_rfl) ?hQf4 (by assumption) ?_
  case hif4 => simp only [List.getElem?_toArray, List.getElem?_cons_zero, List.getElem?_cons_succ]; rfl
  case hdf4 => rfl
  case hwf4 => rfl
  case hyf4 => (intro w hSw; (try dsimp only at hSw); go_simp)
  case hQf4 => exact fun _ _ _ h => h
  simp only [Act.put, List.setIfInBounds_toArray, List.set_cons_zero, List.set_cons_succ]
  refine takeH (oi := ?oif5) 5 8 (.pointer (some ⟨w.heap.size, 2, none⟩)) ?hif5 ?hdf5 ?hwf5 ?hyf5 (by kernel_rfl) (by kernel_rfl) (by kernel_rfl) ?hQf5 (by assumption) ?_
  case hif5 => simp only [List.getElem?_toArray, List.getElem?_cons_zero, List.getElem?_cons_succ]; rfl
  case hdf5 => rfl
  case hwf5 => rfl
  case hyf5 => (intro w hSw; (try dsimp only at hSw); go_simp)
  case hQf5 => exact fun _ _ _ h => h
  simp only [Act.put, List.setIfInBounds_toArray, List.set_cons_zero, List.set_cons_succ]
  refine takeH (oi := ?oif6) 6 9 (.int .i64 v.seq) ?hif6 ?hdf6 ?hwf6 ?hyf6 (by kernel_rfl) (by kernel_rfl) (by kernel_rfl) ?hQf6 (by assumption) ?_
  case hif6 => simp only [List.getElem?_toArray, List.getElem?_cons_zero, List.getElem?_cons_succ]; rfl
  case hdf6 => rfl
  case hwf6 => rfl
  case hyf6 => (intro w hSw; (try dsimp only at hSw); go_simp)
  case hQf6 => exact fun _ _ _ h => h
  simp only [Act.put, List.setIfInBounds_toArray, List.set_cons_zero, List.set_cons_succ]
  refine takeH (oi := ?oif7) 7 10 (.pointer (some ⟨w.heap.size, 3, none⟩)) ?hif7 ?hdf7 ?hwf7 ?hyf7 (by kernel_rfl) (by kernel_rfl) (by kernel_rfl) ?hQf7 (by assumption) ?_
  case hif7 => simp only [List.getElem?_toArray, List.getElem?_cons_zero, List.getElem?_cons_succ]; rfl
  case hdf7 => rfl
  case hwf7 => rfl
  case hyf7 => (intro w hSw; (try dsimp only at hSw); go_simp)
  case hQf7 => exact fun _ _ _ h => h
  simp only [Act.put, List.setIfInBounds_toArray, List.set_cons_zero, List.set_cons_succ]
  refine takeH (oi := ?oif8) 8 11 (.int .i64 v.next) ?hif8 ?hdf8 ?hwf8 ?hyf8 (by kernel_rfl) (by kernel_rfl) (by kernel_rfl) ?hQf8 (by assumption) ?_
  case hif8 => simp only [List.getElem?_toArray, List.getElem?_cons_zero, List.getElem?_cons_succ]; rfl
  case hdf8 => rfl
  case hwf8 => rfl
  case hyf8 => (intro w hSw; (try dsimp only at hSw); go_simp)
  case hQf8 => exact fun _ _ _ h => h
  simp only [Act.put, List.setIfInBounds_toArray, List.set_cons_zero, List.set_cons_succ]
  refine wpAnyH_ready (rs := [2]) (by kernel_rfl) (by simp) ?_
  refine AllReadyH.cons rfl (fun KK hK => ?_) AllReadyH.nil
  go_simp
  refine (CP.out _ (Below.refl _ W).drew).mono ?_
  rintro r w2 ⟨ta, tc, rfl, HO, b2⟩
  have D2 := (Below.refl W.heap.size W).drew.trans b2
  have Q2 := (KS.out _ D2).1
  have R2 := (KS.out _ D2).2
  obtain ⟨r0, r1, r2, r3, r4, u0, u1, u2, u3, u4, rl⟩ := slot5 R2
  have HR2 := hide R2
  clear R2
  go_wp2_with (fail)
  refine hK.out _ _ Q2 (fun hHeld => ?_)
  clear hK KK
  refine takeH (oi := ?oif9) 9 12 (.agg #[.slice none 0 0, .slice ta L tc, .int .i64 v.log, .int .i64 v.seq, .int .i64 v.next]) ?hif9 ?hdf9 ?hwf9 ?hyf9 (by kernel_rfl) (by kernel_rfl) (by kernel_rfl) ?hQf9 (by assumption) ?_
  case hif9 => simp only [List.getElem?_toArray, List.getElem?_cons_zero, List.getElem?_cons_succ]; rfl
  case hdf9 => rfl
  case hwf9 => rfl
  case hyf9 => (intro w hSw; (try dsimp only at hSw); go_simp)
  case hQf9 => exact fun _ _ _ h => h
  simp only [Act.put, List.setIfInBounds_toArray, List.set_cons_zero, List.set_cons_succ]
  refine wpAnyH_ready (rs := [10]) (by kernel_rfl) (by simp) ?_
  refine AllReadyH.cons rfl (fun KK hK => ?_) AllReadyH.nil
  go_simp
  go_wp2_with (fail)
  obtain ⟨P5, G5⟩ := store5 HR2.out (.slice none 0 0) (.slice ta L tc) (.int .i64 v.log) (.int .i64 v.seq) (.int .i64 v.next)
  have C5 : w2.heap[w.heap.size]? = some (vO (.slice a L cap) v.log v.seq v.next) := (D2.block _ (by omega)).trans P0.out
  have V5 := (G5.block _ (Array.getElem?_eq_some_iff.1 C5).1 (by simp)).trans C5
  have S5 : _ ∧ _ ∧ _ ∧ _ := ⟨Joins.cell_of_block V5 0, Joins.cell_of_block V5 1, Joins.cell_of_block V5 2, Joins.cell_of_block V5 3⟩
  refine hK.out _ _ S5 (fun hHeld => ?_)
  clear hK KK
  refine wpAnyH_done (by kernel_rfl) ?_ _
  have D5 := B0.out.trans (D2.mono B0.out.size)
  have B5 : Below w.heap.size w _ := D5.grown G5 D5.size (fun k hk => by cases hk; omega)
  have O5 := hide (HO.out.kept G5 (by
    cases ho : (Value.slice ta L tc).ownBlock with
    | none => exact .inl rfl
    | some g => exact .inr (by have := (HO.out.lt g ho).1; simp; omega)))
  clear HO V5 S5 C5 G5 r0 r1 r2 r3 r4 u0 u1 u2 u3 u4 Q1 Q2 hHeld CP KS
  generalize (((((w2.setCell ⟨w.heap.size + 1, 0, none⟩ (.slice none 0 0)).setCell ⟨w.heap.size + 1, 1, none⟩ (.slice ta L tc)).setCell ⟨w.heap.size + 1, 2, none⟩ (.int .i64 v.log)).setCell ⟨w.heap.size + 1, 3, none⟩ (.int .i64 v.seq)).setCell ⟨w.heap.size + 1, 4, none⟩ (.int .i64 v.next)) = W5 at P5 B5 O5 ⊢
  obtain ⟨q0, q1, q2, q3, q4, _⟩ := slot5 P5
  go_wp2_with (fail)
  refine bodyPost_ret (v := ev (.slice none 0 0) (.slice ta L tc) v.log v.seq v.next) (by simp [results, Tryz.results31, go_sem, q0, q1, q2, q3, q4]) rfl ?_
  exact ⟨ta, tc, rfl, O5, B5⟩
end Go.Proofs.YtlhnjloimhcpfaaGreatDoor
