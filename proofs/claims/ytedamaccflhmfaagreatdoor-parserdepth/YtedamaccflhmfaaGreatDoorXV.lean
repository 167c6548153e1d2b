/-
  Package parser: order, assign. .. and what follows from it.
-/
import Derived.Test.YtedamaccflhmfaaGreatDoorXQ
namespace Go.Proofs.YtedamaccflhmfaaGreatDoor
open Go.RowKit
attribute [local go_sem ↓] Go.wp_at_zero Go.wp_at_succ

abbrev put9_1 (w : World) (R : Nat) (v0 v1 v2 v3 v4 v5 v6 v7 v8 : Value) : World := (((((((((w.setCell ⟨R, 1, none⟩ v0).setCell ⟨R, 2, none⟩ v1).setCell ⟨R, 3, none⟩ v2).setCell ⟨R, 4, none⟩ v3).setCell ⟨R, 5, none⟩ v4).setCell ⟨R, 6, none⟩ v5).setCell ⟨R, 7, none⟩ v6).setCell ⟨R, 8, none⟩ v7).setCell ⟨R, 9, none⟩ v8)
theorem put9_1_heap {w : World} {R : Nat} {c0 c1 c2 c3 c4 c5 c6 c7 c8 c9 c10 : Value} {T : TypeId} (Z : w.heap[R]? = some (.cells #[c0, c1, c2, c3, c4, c5, c6, c7, c8, c9, c10] T (0, 0))) (v0 v1 v2 v3 v4 v5 v6 v7 v8 : Value) : (put9_1 w R v0 v1 v2 v3 v4 v5 v6 v7 v8).heap[R]? = some (.cells #[c0, v0, v1, v2, v3, v4, v5, v6, v7, v8, c10] T (0, 0)) := by
  have h0 : (w.setCell ⟨R, 1, none⟩ v0).heap[R]? = some (.cells #[c0, v0, c2, c3, c4, c5, c6, c7, c8, c9, c10] T (0, 0)) := heap_set Z v0
  have h1 : ((w.setCell ⟨R, 1, none⟩ v0).setCell ⟨R, 2, none⟩ v1).heap[R]? = some (.cells #[c0, v0, v1, c3, c4, c5, c6, c7, c8, c9, c10] T (0, 0)) := heap_set h0 v1
  have h2 : (((w.setCell ⟨R, 1, none⟩ v0).setCell ⟨R, 2, none⟩ v1).setCell ⟨R, 3, none⟩ v2).heap[R]? = some (.cells #[c0, v0, v1, v2, c4, c5, c6, c7, c8, c9, c10] T (0, 0)) := heap_set h1 v2
  have h3 : ((((w.setCell ⟨R, 1, none⟩ v0).setCell ⟨R, 2, none⟩ v1).setCell ⟨R, 3, none⟩ v2).setCell ⟨R, 4, none⟩ v3).heap[R]? = some (.cells #[c0, v0, v1, v2, v3, c5, c6, c7, c8, c9, c10] T (0, 0)) := heap_set h2 v3
  have h4 : (((((w.setCell ⟨R, 1, none⟩ v0).setCell ⟨R, 2, none⟩ v1).setCell ⟨R, 3, none⟩ v2).setCell ⟨R, 4, none⟩ v3).setCell ⟨R, 5, none⟩ v4).heap[R]? = some (.cells #[c0, v0, v1, v2, v3, v4, c6, c7, c8, c9, c10] T (0, 0)) := heap_set h3 v4
  have h5 : ((((((w.setCell ⟨R, 1, none⟩ v0).setCell ⟨R, 2, none⟩ v1).setCell ⟨R, 3, none⟩ v2).setCell ⟨R, 4, none⟩ v3).setCell ⟨R, 5, none⟩ v4).setCell ⟨R, 6, none⟩ v5).heap[R]? = some (.cells #[c0, v0, v1, v2, v3, v4, v5, c7, c8, c9, c10] T (0, 0)) := heap_set h4 v5
  have h6 : (((((((w.setCell ⟨R, 1, none⟩ v0).setCell ⟨R, 2, none⟩ v1).setCell ⟨R, 3, none⟩ v2).setCell ⟨R, 4, none⟩ v3).setCell ⟨R, 5, none⟩ v4).setCell ⟨R, 6, none⟩ v5).setCell ⟨R, 7, none⟩ v6).heap[R]? = some (.cells #[c0, v0, v1, v2, v3, v4, v5, v6, c8, c9, c10] T (0, 0)) := heap_set h5 v6
  have h7 : ((((((((w.setCell ⟨R, 1, none⟩ v0).setCell ⟨R, 2, none⟩ v1).setCell ⟨R, 3, none⟩ v2).setCell ⟨R, 4, none⟩ v3).setCell ⟨R, 5, none⟩ v4).setCell ⟨R, 6, none⟩ v5).setCell ⟨R, 7, none⟩ v6).setCell ⟨R, 8, none⟩ v7).heap[R]? = some (.cells #[c0, v0, v1, v2, v3, v4, v5, v6, v7, c9, c10] T (0, 0)) := heap_set h6 v7
  have h8 : (((((((((w.setCell ⟨R, 1, none⟩ v0).setCell ⟨R, 2, none⟩ v1).setCell ⟨R, 3, none⟩ v2).setCell ⟨R, 4, none⟩ v3).setCell ⟨R, 5, none⟩ v4).setCell ⟨R, 6, none⟩ v5).setCell ⟨R, 7, none⟩ v6).setCell ⟨R, 8, none⟩ v7).setCell ⟨R, 9, none⟩ v8).heap[R]? = some (.cells #[c0, v0, v1, v2, v3, v4, v5, v6, v7, v8, c10] T (0, 0)) := heap_set h7 v8
  exact h8
theorem put9_1_below (w : World) {b R : Nat} (hR : b ≤ R) (v0 v1 v2 v3 v4 v5 v6 v7 v8 : Value) : Below b w (put9_1 w R v0 v1 v2 v3 v4 v5 v6 v7 v8) := ((((((((((Below.refl b w).setCell (p := ⟨R, 1, none⟩) hR v0).setCell (p := ⟨R, 2, none⟩) hR v1).setCell (p := ⟨R, 3, none⟩) hR v2).setCell (p := ⟨R, 4, none⟩) hR v3).setCell (p := ⟨R, 5, none⟩) hR v4).setCell (p := ⟨R, 6, none⟩) hR v5).setCell (p := ⟨R, 7, none⟩) hR v6).setCell (p := ⟨R, 8, none⟩) hR v7).setCell (p := ⟨R, 9, none⟩) hR v8)
theorem put9_1_steps {a w : World} {B R : Nat} (h : Steps B a w) (hR : a.heap.size ≤ R) (v0 v1 v2 v3 v4 v5 v6 v7 v8 : Value) : Steps B a (put9_1 w R v0 v1 v2 v3 v4 v5 v6 v7 v8) :=
  ⟨(put9_1_below w (Nat.le_refl _) v0 v1 v2 v3 v4 v5 v6 v7 v8).os.trans h.os, (put9_1_below w (Nat.le_refl _) v0 v1 v2 v3 v4 v5 v6 v7 v8).tape.trans h.tape, (put9_1_below w (Nat.le_refl _) v0 v1 v2 v3 v4 v5 v6 v7 v8).output.trans h.output, Nat.le_trans h.size (put9_1_below w (Nat.le_refl R) v0 v1 v2 v3 v4 v5 v6 v7 v8).size, fun k hk hn => ((put9_1_below w hR v0 v1 v2 v3 v4 v5 v6 v7 v8).block k hk).trans (h.block k hk hn)⟩
theorem put9_1_other {w : World} {R k : Nat} {o : Obj} (h : w.heap[k]? = some o) (hn : k ≠ R) (v0 v1 v2 v3 v4 v5 v6 v7 v8 : Value) : (put9_1 w R v0 v1 v2 v3 v4 v5 v6 v7 v8).heap[k]? = some o := by
  refine Eq.trans ?_ h
  simp only [put9_1, World.setCell, Array.getElem?_modify]
  simp only [if_neg (show ¬ R = k from fun e => hn e.symm)]
theorem put9_1_kept (w : World) {P : Nat → Prop} {R : Nat} (hR : ¬ P R) (v0 v1 v2 v3 v4 v5 v6 v7 v8 : Value) : Kept P w (put9_1 w R v0 v1 v2 v3 v4 v5 v6 v7 v8) := fun k hl _ => by
  have hn : ¬ R = k := fun e => hR (e ▸ hl)
  simp only [put9_1, World.setCell, Array.getElem?_modify]
  simp only [if_neg hn]

set_option maxRecDepth 100000 in
set_option maxHeartbeats 1600000 in
theorem order_any (w : World) (B : Nat) (l : List Lx.Tk) (p len : Nat) (h : Rd w B l p len 0) : Calls Tryz.prog 127 #[.pointer (some ⟨B, 0, none⟩)] w fun e w' => LaidE_ord B l len 0 w p (Ps.order (l.drop p)) e w' := by
  have EX := hide (expr_all B l len)
  have TK := hide (takes_any B l len 0)
  have NM := hide (named_any B l len 0)
  have WN := hide (wanted_any B l len 0)
  have AS := hide (fun wx q hx => as_any wx B l q len 0 hx)
  have H0 := hide h
  have hne : w.heap.size ≠ B := ne_of_lt' h.lt
  have HB := hide h.lt
  clear h
  go_enter Tryz.func127, Tryz.ntmps127
  go_wp2_with (first
    | (go_at_call 54; refine (EX.out _ _ (H0.out.alloc _)).mono ?_; rintro e w2 hA; rcases hA.laid with (⟨o1, k1, n1, t1, tb1, nm1, sl1, kd1, ag1, sa1, sc1, q1, hq, rfl, hx1, hp1, hr1, hs1⟩ | ⟨c1, ts1, hq, rfl, hs1⟩) <;> (have HQ2 := hide hq; clear hq hA); have HR2 := hide hr1; have HX := hide (fr_alloc hx1); have Z2 := hs1.keeps (heap_new rfl) hne; have hlt2 := size_alloc hs1; clear hr1 hx1)
    | (go_at_call 50; refine (TK.out _ _ _ (HR3.out.alloc _)).mono ?_; rintro e w4 (⟨h4, rfl, hr4, hs4⟩ | ⟨h4, rfl, hr4, hs4⟩) <;> (have HR4 := hide hr4; have HQ4 := hide h4; have X4 := hs4.keeps (heap_new rfl) (ne_of_lt' HR3.out.lt); have Z4 := hs4.keeps (alloc_keeps Z3 _) hne; clear hr4 h4))
    | (go_at_call 50; refine (TK.out _ _ _ HR2.out).mono ?_; rintro e w3 (⟨h3, rfl, hr3, hs3⟩ | ⟨h3, rfl, hr3, hs3⟩) <;> (have HR3 := hide hr3; have HQ3 := hide h3; have Z3 := hs3.keeps Z2 hne; clear hr3 h3))
    | (refine wpList_load_row rfl 108 (.tmp 3) rfl w3.heap.size rfl _ _ _ _ X4 Tryz.underlying108 rfl ?hi ?_; (case hi => exact info_ord10))
    | (refine wpList_store_row rfl 108 (.tmp 2) (.tmp 14) rfl w.heap.size _ rfl rfl 108 _ Z4 ?hi ?ho ?h1 ?_; (case hi => exact info_ord10); (case ho => rfl); (case h1 => simp [Value.oneCell']))
    | (refine wpList_store_row rfl 108 (.tmp 2) (.tmp 14) rfl w.heap.size _ rfl rfl 108 _ (alloc_keeps Z3 _) ?hi ?ho ?h1 ?_; (case hi => exact info_ord10); (case ho => rfl); (case h1 => simp [Value.oneCell'])))
  · have e : Ps.order (l.drop p) = .ok (Ps.Ord.mk (Ps.Ex.mk o1 ⟨k1, n1, t1⟩ tb1 nm1 sl1 kd1 ag1) true) (l.drop (q1 + 1)) := by rw [Ps.order, HQ2.out]; show (if Ps.has [100, 101, 115, 99] (l.drop q1) = true then _ else _) = _; rw [if_pos HQ3.out, List.tail_drop]
    refine bodyPost_ret (results_cell_row rfl _ _ w.heap.size _ _ (0, 0) _ rfl (setRow_heap _ _ _ _ _ _ (alloc_keeps Z3 _)) Tryz.underlying108 rfl info_ord10) rfl (.inl ⟨o1, k1, n1, t1, tb1, nm1, sl1, kd1, ag1, true, sa1, sc1, q1 + 1, e, rfl, ?_, by omega, row_rd (HR3.out.alloc _) HB.out _, (((step_alloc B w _).trans (hs1.trans hs3)).alloc _).row (Nat.le_refl _) _⟩)
    have hB := HB.out
    exact ExAt.keep (P := Fr (w.heap.size + 1)) (row_kept _ (Nat.not_succ_le_self _) _) (fun k hk _ => Nat.le_of_succ_le hk) _ _ (fr_keep HX.out (hs3.alloc _) (by omega))
  · have e : Ps.order (l.drop p) = .ok (Ps.Ord.mk (Ps.Ex.mk o1 ⟨k1, n1, t1⟩ tb1 nm1 sl1 kd1 ag1) false) (l.drop (q1 + 1)) := by rw [Ps.order, HQ2.out]; show (if Ps.has [100, 101, 115, 99] (l.drop q1) = true then _ else _) = _; rw [if_neg (by rw [show Ps.has [100, 101, 115, 99] (l.drop q1) = false from HQ3.out]; decide)]; rw [if_pos HQ4.out, List.tail_drop]
    refine bodyPost_ret (results_cell_row rfl _ _ w.heap.size _ _ (0, 0) _ rfl (setRow_heap _ _ _ _ _ _ Z4) Tryz.underlying108 rfl info_ord10) rfl (.inl ⟨o1, k1, n1, t1, tb1, nm1, sl1, kd1, ag1, false, sa1, sc1, q1 + 1, e, rfl, ?_, by omega, row_rd HR4.out HB.out _, ((step_alloc B w _).trans (hs1.trans (hs3.trans ((step_alloc B w3 _).trans hs4)))).row (Nat.le_refl _) _⟩)
    have hB := HB.out
    exact ExAt.keep (P := Fr (w.heap.size + 1)) (row_kept _ (Nat.not_succ_le_self _) _) (fun k hk _ => Nat.le_of_succ_le hk) _ _ (fr_keep HX.out (hs3.trans ((step_alloc B w3 _).trans hs4)) (by omega))
  · have e : Ps.order (l.drop p) = .ok (Ps.Ord.mk (Ps.Ex.mk o1 ⟨k1, n1, t1⟩ tb1 nm1 sl1 kd1 ag1) false) (l.drop q1) := by rw [Ps.order, HQ2.out]; show (if Ps.has [100, 101, 115, 99] (l.drop q1) = true then _ else _) = _; rw [if_neg (by rw [show Ps.has [100, 101, 115, 99] (l.drop q1) = false from HQ3.out]; decide)]; rw [if_neg (by rw [show Ps.has [97, 115, 99] (l.drop q1) = false from HQ4.out]; decide)]
    refine bodyPost_ret (results_cell_row rfl _ _ w.heap.size _ _ (0, 0) _ rfl (setRow_heap _ _ _ _ _ _ Z4) Tryz.underlying108 rfl info_ord10) rfl (.inl ⟨o1, k1, n1, t1, tb1, nm1, sl1, kd1, ag1, false, sa1, sc1, q1, e, rfl, ?_, by omega, row_rd HR4.out HB.out _, ((step_alloc B w _).trans (hs1.trans (hs3.trans ((step_alloc B w3 _).trans hs4)))).row (Nat.le_refl _) _⟩)
    have hB := HB.out
    exact ExAt.keep (P := Fr (w.heap.size + 1)) (row_kept _ (Nat.not_succ_le_self _) _) (fun k hk _ => Nat.le_of_succ_le hk) _ _ (fr_keep HX.out (hs3.trans ((step_alloc B w3 _).trans hs4)) (by omega))
  · exact bodyPost_thrown rfl (.inr ⟨c1, ts1, by rw [Ps.order, HQ2.out]; rfl, rfl, (step_alloc B w _).trans hs1⟩)

set_option maxRecDepth 100000 in
set_option maxHeartbeats 1600000 in
theorem assign_any (w : World) (B : Nat) (l : List Lx.Tk) (p len : Nat) (h : Rd w B l p len 0) : Calls Tryz.prog 133 #[.pointer (some ⟨B, 0, none⟩)] w fun e w' => LaidE_asg B l len 0 w p (Ps.assign (l.drop p)) e w' := by
  have EX := hide (expr_all B l len)
  have TK := hide (takes_any B l len 0)
  have NM := hide (named_any B l len 0)
  have WN := hide (wanted_any B l len 0)
  have AS := hide (fun wx q hx => as_any wx B l q len 0 hx)
  have H0 := hide h
  have hne : w.heap.size ≠ B := ne_of_lt' h.lt
  have HB := hide h.lt
  clear h
  go_enter Tryz.func133, Tryz.ntmps133
  go_upto_region 4 with (first
    | (go_at_call 80; refine (NM.out _ _ (H0.out.alloc _)).mono ?_; rintro e w2 hA; rcases hA.elim with ⟨n2, q2, V, hq, rfl, rfl, hp2, hr2, hs2⟩ | ⟨c2, ts2, hq, rfl, hs2⟩ <;> (have HQ2 := hide hq; clear hq hA); have HR2 := hide hr2; have Z2 := hs2.keeps (heap_new rfl) hne; have hlt2 := size_alloc hs2; clear hr2)
    | (go_at_call 79; refine (WN.out _ _ _ _ ((HR2.out.alloc _).alloc _) (heap_new (by simp))).mono ?_; rintro e w3 hA; rcases hA.elim with ⟨u, q3, V, hq, rfl, rfl, hp3, hr3, hs3⟩ | ⟨c3, ts3, hq, rfl, hs3⟩ <;> (have HQ3 := hide hq; clear hq hA); have HR3 := hide hr3; have X3 := hs3.keeps (alloc_keeps (heap_new rfl) _) (ne_of_lt' HR2.out.lt); have Z3 := hs3.keeps (alloc_keeps (alloc_keeps Z2 _) _) hne; have hneX : w2.heap.size ≠ B := ne_of_lt' HR2.out.lt; have hlt3 : w2.heap.size < w3.heap.size := (by have := hs3.size; simp at this; omega); have ne3 : ¬ w2.heap.size = w.heap.size := (by omega); have ne4 : ¬ w.heap.size = w2.heap.size := (by omega); clear hr3)
    | (go_at_call 54; refine (EX.out _ _ HR3.out).mono ?_; rintro e w4 hA; rcases hA.laid with (⟨o1, k1, n1, t1, tb1, nm1, sl1, kd1, ag1, sa1, sc1, q1, hq, rfl, hx1, hp1, hr1, hs1⟩ | ⟨c1, ts1, hq, rfl, hs1⟩) <;> (have HQ4 := hide hq; clear hq hA); have HR4 := hide hr1; have HX := hide hx1; have X4 := hs1.keeps X3 hneX; have Z4 := hs1.keeps Z3 hne; have xc0 := Joins.cell_of_block X4 0; have xf0 := Joins.unfrozen_of_block X4 0; have xc1 := Joins.cell_of_block X4 1; have xf1 := Joins.unfrozen_of_block X4 1; have xc2 := Joins.cell_of_block X4 2; have xf2 := Joins.unfrozen_of_block X4 2; have xc3 := Joins.cell_of_block X4 3; have xf3 := Joins.unfrozen_of_block X4 3; have xc4 := Joins.cell_of_block X4 4; have xf4 := Joins.unfrozen_of_block X4 4; have xc5 := Joins.cell_of_block X4 5; have xf5 := Joins.unfrozen_of_block X4 5; have xc6 := Joins.cell_of_block X4 6; have xf6 := Joins.unfrozen_of_block X4 6; have xc7 := Joins.cell_of_block X4 7; have xf7 := Joins.unfrozen_of_block X4 7; have xc8 := Joins.cell_of_block X4 8; have xf8 := Joins.unfrozen_of_block X4 8; have xc9 := Joins.cell_of_block X4 9; have xf9 := Joins.unfrozen_of_block X4 9; have xc10 := Joins.cell_of_block X4 10; have xf10 := Joins.unfrozen_of_block X4 10; clear hr1 hx1))
  · go_wp2_with (refine wpList_store_row rfl 112 (.tmp 2) (.tmp 13) rfl w.heap.size _ rfl rfl 112 _ (put9_1_other Z4 (Nat.ne_of_lt hlt2) _ _ _ _ _ _ _ _ _) ?hi ?ho ?h1 ?_; (case hi => exact info_asg11); (case ho => rfl); (case h1 => simp [Value.oneCell']))
    have e : Ps.assign (l.drop p) = .ok (Ps.Asg.mk n2 (Ps.Ex.mk o1 ⟨k1, n1, t1⟩ tb1 nm1 sl1 kd1 ag1) 0) (l.drop q1) := by rw [Ps.assign, HQ2.out]; show (Ps.want [61] (l.drop q2)).bind _ = _; rw [show Ps.want [61] (l.drop q2) = _ from HQ3.out]; show (Ps.exprT (l.drop q3)).map _ = _; rw [HQ4.out]; rfl
    have hB := HB.out
    have hX4 : w3.heap.size ≤ w4.heap.size := hs1.size
    refine bodyPost_ret (results_cell_row rfl _ _ w.heap.size _ _ (0, 0) _ rfl (setRow_heap _ _ _ _ _ _ (put9_1_other Z4 (Nat.ne_of_lt hlt2) _ _ _ _ _ _ _ _ _)) Tryz.underlying112 rfl info_asg11) rfl (.inl ⟨n2, o1, k1, n1, t1, tb1, nm1, sl1, kd1, ag1, 0, sa1, sc1, q1, e, rfl, ?_, by omega, row_rd (HR4.out.keep (put9_1_below _ (Nat.lt_of_lt_of_le HB.out (Nat.le_of_lt hlt2)) _ _ _ _ _ _ _ _ _)) HB.out _, (put9_1_steps ((step_alloc B w _).trans (hs2.trans ((((Steps.refl B w2).alloc _).alloc _).trans (hs3.trans hs1)))) (Nat.le_of_lt hlt2) _ _ _ _ _ _ _ _ _).row (Nat.le_refl _) _⟩)
    exact ExAt.keep (P := Fr (w.heap.size + 1)) (row_kept _ (Nat.not_succ_le_self _) _) (fun k hk _ => Nat.le_of_succ_le hk) _ _ (ExAt.keep (P := Fr w3.heap.size) (put9_1_kept w4 (show ¬ w3.heap.size ≤ w2.heap.size by omega) _ _ _ _ _ _ _ _ _) (fun k hk _ => Nat.le_trans (show w.heap.size + 1 ≤ w3.heap.size by omega) hk) _ _ HX.out)
  · exact bodyPost_thrown rfl (.inr ⟨c1, ts1, by rw [Ps.assign, HQ2.out]; show (Ps.want [61] (l.drop q2)).bind _ = _; rw [show Ps.want [61] (l.drop q2) = _ from HQ3.out]; show (Ps.exprT (l.drop q3)).map _ = _; rw [HQ4.out]; rfl, rfl, (step_alloc B w _).trans (hs2.trans ((((Steps.refl B w2).alloc _).alloc _).trans (hs3.trans hs1)))⟩)
  · exact bodyPost_thrown rfl (.inr ⟨c3, ts3, by rw [Ps.assign, HQ2.out]; show (Ps.want [61] (l.drop q2)).bind _ = _; rw [show Ps.want [61] (l.drop q2) = _ from HQ3.out]; rfl, rfl, (step_alloc B w _).trans (hs2.trans ((((Steps.refl B w2).alloc _).alloc _).trans hs3))⟩)
  · exact bodyPost_thrown rfl (.inr ⟨c2, ts2, by rw [Ps.assign, HQ2.out]; rfl, rfl, (step_alloc B w _).trans hs2⟩)
end Go.Proofs.YtedamaccflhmfaaGreatDoor
namespace Go.Proofs.YtedamaccflhmfaaGreatDoor
open Go.RowKit
attribute [local go_sem ↓] Go.wp_at_zero Go.wp_at_succ

def kindsA : Value := .agg #[.int .u8 2, .string ⟨#[105, 110, 116]⟩, .int .u8 3, .string ⟨#[116, 101, 120, 116]⟩, .int .u8 1, .string ⟨#[98, 111, 111, 108]⟩]
set_option maxRecDepth 100000 in
theorem kinds_index (j : Nat) (hj : j < 3) : ∃ (o : Int) (s : List UInt8), kindL[j]? = some (o, s) ∧ ∀ w, (Instr.index 228 kindsA (.int .i64 j)).run Tryz.prog w = .ok (.agg #[.int .u8 o, .string ⟨s.toArray⟩]) w := by
  match j, hj with
  | 0, _ => exact ⟨_, _, rfl, fun _ => rfl⟩
  | 1, _ => exact ⟨_, _, rfl, fun _ => rfl⟩
  | 2, _ => exact ⟨_, _, rfl, fun _ => rfl⟩
  | n + 3, h => omega
theorem info_kinds : (Tryz.prog.info? 228).map (·.size) = some kindsC.toArray.size := by kernel_rfl
theorem kind_is (l : List Lx.Tk) (p : Nat) : Ps.kindK (l.drop p) = match kindL.find? fun a => Ps.has a.2 (l.drop p) with
    | some a => .ok a.1 (l.drop (p + 1))
    | none => .no 240 (l.drop p) := by
  unfold Ps.kindK kindL
  rw [List.tail_drop]
  simp only [List.find?_cons, List.find?_nil]
  cases Ps.has [105, 110, 116] (l.drop p) <;> cases Ps.has [116, 101, 120, 116] (l.drop p) <;> cases Ps.has [98, 111, 111, 108] (l.drop p) <;> rfl

set_option maxRecDepth 100000 in
set_option maxHeartbeats 3200000 in
theorem kind_any (w : World) (B : Nat) (l : List Lx.Tk) (p len d : Nat) (h : Rd w B l p len d) : Calls Tryz.prog 185 #[.pointer (some ⟨B, 0, none⟩)] w (Ans opIs B l len d w p (Ps.kindK (l.drop p))) := by
  have HT := hide h.tab.kinds
  have TH := hide (thrown_any B l p len d)
  have TK := hide (takes_any B l len d)
  have H0 := hide h
  have HP := hide (kind_is l p)
  clear h
  go_enter Tryz.func185, Tryz.ntmps185
  go_wp2_with (refine wpList_load_row rfl 228 (.global 6) rfl 6 rfl _ _ _ _ HT.out Tryz.underlying228 rfl info_kinds ?_)
  rw [show Value.agg kindsC.toArray = kindsA from rfl]
  obtain ⟨A, hA⟩ : ∃ A, A = kindsA := ⟨_, rfl⟩
  rw [← hA]
  have HA := hide hA
  clear hA HT
  go_loopw [6] (fun i wr => ∃ j : Nat, i = .int .i64 j ∧ j ≤ 3 ∧ Rd wr B l p len d ∧ Steps B w wr ∧ Hid (((kindL.drop j).find? fun a => Ps.has a.2 (l.drop p)) = kindL.find? fun a => Ps.has a.2 (l.drop p))) (fun i _ => 3 - (intOf i).toNat)
  case atStart => exact ⟨0, rfl, by omega, H0.out, Steps.refl _ _, rfl⟩
  case round =>
    clear H0
    obtain ⟨j, rfl, hj, hR, hS, HF⟩ := hrel
    have HR := hide hR
    have HSR := hide hS
    clear hR hS
    by_cases hlt : j < 3
    · obtain ⟨o, s, hg, hix⟩ := kinds_index j hlt
      rw [← HA.out] at hix
      have hd : kindL.drop j = (o, s) :: kindL.drop (j + 1) := by
        obtain ⟨h1, h2⟩ := List.getElem?_eq_some_iff.1 hg
        rw [List.drop_eq_getElem_cons h1, h2]
      have HF2 := HF.out
      rw [hd, List.find?_cons] at HF2
      have F1 : Hid (Ps.has s (l.drop p) = true → (kindL.find? fun a => Ps.has a.2 (l.drop p)) = some (o, s)) := fun e => by rw [← HF2, e]
      have F2 : Hid (Ps.has s (l.drop p) = false → ((kindL.drop (j + 1)).find? fun a => Ps.has a.2 (l.drop p)) = kindL.find? fun a => Ps.has a.2 (l.drop p)) := fun e => by rw [← HF2, e]
      have TK2 : Hid (∀ wx, Rd wx B l p len d → Calls Tryz.prog 50 #[.pointer (some ⟨B, 0, none⟩), .string ⟨s.toArray⟩] wx fun e w' => (Ps.has s (l.drop p) = true ∧ e = .returned (.bool true) ∧ Rd w' B l (p + 1) len d ∧ Steps B wx w') ∨ (Ps.has s (l.drop p) = false ∧ e = .returned (.bool false) ∧ Rd w' B l p len d ∧ Steps B wx w')) := fun wx hx => TK.out wx p ⟨s.toArray⟩ hx
      obtain ⟨ss, hss⟩ : ∃ ss : ByteArray, ss = ⟨s.toArray⟩ := ⟨_, rfl⟩
      rw [← hss] at hix TK2
      have hneT : wr.heap.size ≠ B := ne_of_lt' HR.out.lt
      clear hg hd HF2 hss HF TK
      go_wp2_with (go_at_call 50; refine (TK2.out _ (HR.out.alloc _)).mono ?_; rintro e w8 (⟨h8, rfl, hr8, hs8⟩ | ⟨h8, rfl, hr8, hs8⟩) <;> (have HQ8 := hide h8; have HR8 := hide hr8; have T8 := hs8.keeps (heap_new (w := wr) rfl) hneT; obtain ⟨t0, t1, tl⟩ := slTwo T8; clear h8 hr8))
      · go_ret
        rw [HP.out, F1.out HQ8.out]
        exact Ans.ok (p + 1) (HSR.out.trans ((step_alloc B wr _).trans hs8)) rfl (by omega) HR8.out
      · exact ⟨⟨j + 1, rfl, by omega, HR8.out, HSR.out.trans ((step_alloc B wr _).trans hs8), F2.out HQ8.out⟩, by simp [intOf]; omega⟩
    · have e3 : j = 3 := by omega
      subst e3
      go_wp2_with (go_at_call 83; refine (TH.out _ _ HR.out).mono ?_; rintro e w4 ⟨rfl, hy⟩)
      refine bodyPost_thrown (P := Tryz.prog) (fn := Tryz.f185) (R := Ans opIs B l len d w p (Ps.kindK (l.drop p))) rfl ?_
      have e := HF.out
      rw [HP.out, ← e]
      exact Ans.no (HSR.out.then hy)

set_option maxRecDepth 100000 in
set_option maxHeartbeats 1600000 in
theorem define_any (w : World) (B : Nat) (l : List Lx.Tk) (p len : Nat) (h : Rd w B l p len 0) : Calls Tryz.prog 169 #[.pointer (some ⟨B, 0, none⟩)] w fun e w' => LaidE_col B l len 0 w p (Ps.define (l.drop p)) e w' := by
  have EX := hide (expr_all B l len)
  have TK := hide (takes_any B l len 0)
  have NM := hide (named_any B l len 0)
  have WN := hide (wanted_any B l len 0)
  have KD := hide (fun wx q hx => kind_any wx B l q len 0 hx)
  have H0 := hide h
  have hne : w.heap.size ≠ B := ne_of_lt' h.lt
  have HB := hide h.lt
  clear h
  go_enter Tryz.func169, Tryz.ntmps169
  go_upto_region 5 with (first
    | (go_at_call 80; refine (NM.out _ _ (H0.out.alloc _)).mono ?_; rintro e w2 hA; rcases hA.elim with ⟨n2, q2, V, hq, rfl, rfl, hp2, hr2, hs2⟩ | ⟨c2, ts2, hq, rfl, hs2⟩ <;> (have HQ2 := hide hq; clear hq hA); have HR2 := hide hr2; have Z2 := hs2.keeps (heap_new rfl) hne; have hlt2 := size_alloc hs2; clear hr2)
    | (go_at_call 185; refine (KD.out _ _ HR2.out).mono ?_; rintro e w3 hA; rcases hA.elim with ⟨k3, q3, V, hq, rfl, rfl, hp3, hr3, hs3⟩ | ⟨c3, ts3, hq, rfl, hs3⟩ <;> (have HQ3 := hide hq; clear hq hA); have HR3 := hide hr3; have Z3 := hs3.keeps Z2 hne; have hneX : w3.heap.size ≠ B := ne_of_lt' hr3.lt; have hlt3 : w.heap.size < w3.heap.size := Nat.lt_of_lt_of_le hlt2 hs3.size; have ne3 : ¬ w3.heap.size = w.heap.size := (by omega); have ne4 : ¬ w.heap.size = w3.heap.size := (by omega); clear hr3)
    | (go_at_call 50; refine (TK.out _ _ _ (HR3.out.alloc _)).mono ?_; rintro e w4 (⟨h4, rfl, hr4, hs4⟩ | ⟨h4, rfl, hr4, hs4⟩) <;> (have HR4 := hide hr4; have HQ4 := hide h4; have X4 := hs4.keeps (heap_new rfl) hneX; have Z4 := hs4.keeps (alloc_keeps Z3 _) hne; have xc0 := Joins.cell_of_block X4 0; have xf0 := Joins.unfrozen_of_block X4 0; have xc1 := Joins.cell_of_block X4 1; have xf1 := Joins.unfrozen_of_block X4 1; have xc2 := Joins.cell_of_block X4 2; have xf2 := Joins.unfrozen_of_block X4 2; clear hr4 h4))
    | (go_at_call 79; refine (WN.out _ _ _ _ (HR4.out.alloc _) (heap_new rfl)).mono ?_; rintro e w5 hA; rcases hA.elim with ⟨u, q5, V, hq, rfl, rfl, hp5, hr5, hs5⟩ | ⟨c5, ts5, hq, rfl, hs5⟩ <;> (have HQ5 := hide hq; clear hq hA); have HR5 := hide hr5; have X5 := hs5.keeps (alloc_keeps X4 _) hneX; have Z5 := hs5.keeps (alloc_keeps Z4 _) hne; clear xc0 xf0 xc1 xf1 xc2 xf2; have xc0 := Joins.cell_of_block X5 0; have xf0 := Joins.unfrozen_of_block X5 0; have xc1 := Joins.cell_of_block X5 1; have xf1 := Joins.unfrozen_of_block X5 1; have xc2 := Joins.cell_of_block X5 2; have xf2 := Joins.unfrozen_of_block X5 2; clear hr5))
  · go_wp2_with (refine wpList_store_row rfl 97 (.tmp 2) (.tmp 15) rfl w.heap.size _ rfl rfl 97 _ (heap_set_other Z5 (Nat.ne_of_lt hlt3) _) ?hi ?ho ?h1 ?_; (case hi => exact info_col3); (case ho => rfl); (case h1 => simp [Value.oneCell']))
    have e : Ps.define (l.drop p) = .ok (Ps.Col.mk n2 k3 true) (l.drop q5) := by rw [Ps.define, HQ2.out]; show (Ps.kindK (l.drop q2)).bind _ = _; rw [HQ3.out]; show (if Ps.has [110, 111, 116] (l.drop q3) = true then _ else _) = _; rw [if_pos HQ4.out, List.tail_drop]; show (Ps.want [110, 117, 108, 108] (l.drop (q3 + 1))).map _ = _; rw [show Ps.want [110, 117, 108, 108] (l.drop (q3 + 1)) = _ from HQ5.out]; rfl
    exact bodyPost_ret (results_cell_row rfl _ _ w.heap.size _ _ (0, 0) _ rfl (setRow_heap _ _ _ _ _ _ (heap_set_other Z5 (Nat.ne_of_lt hlt3) _)) Tryz.underlying97 rfl info_col3) rfl (.inl ⟨n2, k3, true, none, 0, q5, e, rfl, trivial, by omega, row_rd (HR5.out.keep ((Below.refl _ _).setCell (p := ⟨w3.heap.size, 2, none⟩) (show B + 1 ≤ w3.heap.size from Nat.lt_of_lt_of_le HB.out (Nat.le_of_lt hlt3)) _)) HB.out _, (((step_alloc B w _).trans (hs2.trans (hs3.trans ((step_alloc B w3 _).trans (hs4.trans ((step_alloc B w4 _).trans hs5)))))).setCell (p := ⟨w3.heap.size, 2, none⟩) (.inl (Nat.le_of_lt hlt3)) _).row (Nat.le_refl _) _⟩)
  · exact bodyPost_thrown rfl (.inr ⟨c5, ts5, by rw [Ps.define, HQ2.out]; show (Ps.kindK (l.drop q2)).bind _ = _; rw [HQ3.out]; show (if Ps.has [110, 111, 116] (l.drop q3) = true then _ else _) = _; rw [if_pos HQ4.out, List.tail_drop]; show (Ps.want [110, 117, 108, 108] (l.drop (q3 + 1))).map _ = _; rw [show Ps.want [110, 117, 108, 108] (l.drop (q3 + 1)) = _ from HQ5.out]; rfl, rfl, (step_alloc B w _).trans (hs2.trans (hs3.trans ((step_alloc B w3 _).trans (hs4.trans ((step_alloc B w4 _).trans hs5)))))⟩)
  · go_wp2_with (refine wpList_store_row rfl 97 (.tmp 2) (.tmp 15) rfl w.heap.size _ rfl rfl 97 _ Z4 ?hi ?ho ?h1 ?_; (case hi => exact info_col3); (case ho => rfl); (case h1 => simp [Value.oneCell']))
    have e : Ps.define (l.drop p) = .ok (Ps.Col.mk n2 k3 false) (l.drop q3) := by rw [Ps.define, HQ2.out]; show (Ps.kindK (l.drop q2)).bind _ = _; rw [HQ3.out]; show (if Ps.has [110, 111, 116] (l.drop q3) = true then _ else _) = _; rw [if_neg (by rw [show Ps.has [110, 111, 116] (l.drop q3) = false from HQ4.out]; decide)]
    exact bodyPost_ret (results_cell_row rfl _ _ w.heap.size _ _ (0, 0) _ rfl (setRow_heap _ _ _ _ _ _ Z4) Tryz.underlying97 rfl info_col3) rfl (.inl ⟨n2, k3, false, none, 0, q3, e, rfl, trivial, by omega, row_rd HR4.out HB.out _, ((step_alloc B w _).trans (hs2.trans (hs3.trans ((step_alloc B w3 _).trans hs4)))).row (Nat.le_refl _) _⟩)
  · exact bodyPost_thrown rfl (.inr ⟨c3, ts3, by rw [Ps.define, HQ2.out]; show (Ps.kindK (l.drop q2)).bind _ = _; rw [HQ3.out]; rfl, rfl, (step_alloc B w _).trans (hs2.trans hs3)⟩)
  · exact bodyPost_thrown rfl (.inr ⟨c2, ts2, by rw [Ps.define, HQ2.out]; rfl, rfl, (step_alloc B w _).trans hs2⟩)

set_option maxRecDepth 100000 in
theorem eg_expr (args : Array Value) (w : World) : (callFunc 54 args).run Tryz.prog w = .ok (.enter 54 args) w := rfl
theorem exIs_laidE {B : Nat} {l : List Lx.Tk} {len d : Nat} {w0 : World} {q : Nat} {R : Ps.R Ps.Ex} {e : Ending} {w' : World} (h : Ans exIs B l len d w0 q R e w') : LaidE_expr B l len d w0 q R e w' := by
  rcases h.laid with ⟨o, k, n, t, tb, nm, sl, kd, ag, sa, sc, p', h1, h2, h3, h4⟩ | h
  · exact .inl ⟨o, k, n, t, tb, nm, sl, kd, ag, sa, sc, p', h1, h2, h3, h4⟩
  · exact .inr h
theorem name_laidE {B : Nat} {l : List Lx.Tk} {len d : Nat} {w0 : World} {q : Nat} {R : Ps.R (List UInt8)} {e : Ending} {w' : World} (h : Ans strIs B l len d w0 q R e w') : LaidE_str B l len d w0 q R e w' := by
  rcases h.elim with ⟨a, p', V, hq, he, hv, hp, hr, hs⟩ | h
  · have hV : V = .string ⟨a.toArray⟩ := hv
    exact .inl ⟨a, none, 0, p', hq, by rw [he, hV], trivial, hp, hr, hs⟩
  · exact .inr h
set_option maxHeartbeats 3200000 in
theorem row_any (w : World) (B : Nat) (l : List Lx.Tk) (p len : Nat) (h : Rd w B l p len 0) : Calls Tryz.prog 131 #[.pointer (some ⟨B, 0, none⟩)] w fun e w' => LaidE_row B l len 0 w p (Ps.row (l.drop p)) e w' := by
  have CL : Hid (Calls Tryz.prog 168 #[.pointer (some ⟨B, 0, none⟩), .int .i64 12, .func (.func 54) #[.pointer (some ⟨B, 0, none⟩)] #[]] w (Ans (listIs exCod) B l len 0 w p (Ps.row (l.drop p)))) := closed_expr 54 eg_expr Ps.exprT w B l p len 0 12 h (fun wx q hx => (expr_all B l len wx q hx).mono fun e w' hA => exIs_laidE hA)
  clear h
  go_enter Tryz.func131, Tryz.ntmps131
  go_wp2_with (go_at_call 168; refine CL.out.mono ?_; rintro e w2 hA; rcases hA.elim with ⟨xs, q2, V, hq, rfl, hv, hp2, hr2, hs2⟩ | ⟨c2, ts2, hq, rfl, hs2⟩ <;> (have HQ2 := hide hq; clear hq hA); have HR2 := hide hr2; obtain ⟨sa, sc, rfl, hv2⟩ := list_laid hv; have HV := hide hv2; clear hr2 hv hv2)
  · go_ret
    exact .inl ⟨xs, sa, sc, q2, HQ2.out, rfl, list_exs HV.out, hp2, HR2.out, hs2⟩
  · exact bodyPost_thrown rfl (.inr ⟨c2, ts2, HQ2.out, rfl, hs2⟩)
end Go.Proofs.YtedamaccflhmfaaGreatDoor
