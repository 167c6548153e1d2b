/-
  Package parser: update, deletion. .. and what follows from it.
-/
import Derived.Test.YtedamaccflhmfaaGreatDoorPsSa
namespace Go.Proofs.YtedamaccflhmfaaGreatDoor
open Go.RowKit
attribute [local go_sem ↓] Go.wp_at_zero Go.wp_at_succ

set_option maxRecDepth 100000 in
set_option maxHeartbeats 1600000 in
theorem update_any (w : World) (B : Nat) (l : List Lx.Tk) (p len : Nat) (h : Rd w B l p len 0) : Calls Tryz.prog 75 #[.pointer (some ⟨B, 0, none⟩)] w (Ans stIs B l len 0 w p (Ps.update (l.drop p))) := by
  have TK := hide (takes_any B l len 0)
  have HS := hide (hass_any B l len 0)
  have NM := hide (named_any B l len 0)
  have WN := hide (wanted_any B l len 0)
  have LA := hide (assigns_any B l len 12)
  have WH := hide (fun wx q hx => where_any wx B l q len hx)
  have H0 := hide h
  have hne : w.heap.size ≠ B := ne_of_lt' h.lt
  have HB := hide h.lt
  clear h
  go_enter Tryz.func75, Tryz.ntmps75
  go_upto_region 5 with (first
    | (go_at_call 123; refine (WH.out _ _ HB4s.out.rd).mono ?_; rintro e w5 hA; rcases hA.laid with (⟨o1, k1, n1, t1, tb1, nm1, sl1, kd1, ag1, sa1, sc1, q1, hq, rfl, hx1, hp1, hr1, hs1⟩ | ⟨c1, ts1, hq, rfl, hs1⟩) <;> (have HQ5 := hide hq; clear hq hA); have HB5 := hide (HB4s.out.go hs1 hr1 hp1); have HX5 := hide (ExAt.mono (fun k hk => Nat.le_trans HB4s.out.xlt hk) _ _ hx1); have HB5s := hide (HB5.out.set_wh HX5.out rfl); obtain ⟨c0, c1, c2, c3, c4, c5, c6, c7, c8, m0, m1, m2, m3, m4, m5, m6, m7, m8, f0, f1, f2, f3, f4, f5, f6, f7, f8⟩ := HB5.out.cell_wh; clear hr1 hx1)
    | (go_at_call 132; refine (LA.out _ _ HB3.out.rd).mono ?_; rintro e w4 hA; rcases hA.elim with ⟨xs4, q4, V, hq, rfl, hv, hp4, hr4, hs4⟩ | ⟨c4, ts4, hq, rfl, hs4⟩ <;> (have HQ4 := hide hq; clear hq hA); have HB4 := hide (HB3.out.go hs4 hr4 hp4); obtain ⟨sa4, sc4, rfl, hv2⟩ := list_laid hv; have HV4 := hide (hv2.keep (Kept.refl _ _) HB3.out.xlt cod_pos.2.2.2.2.2.2.2); have HB4s := hide (HB4.out.set_sets HV4.out); obtain ⟨yc4, yf4⟩ := HB4.out.cell_sets; clear hr4 hv hv2)
    | (go_at_call 79; refine (WN.out _ _ _ _ (HB2.out.alloc _).rd (heap_new (by simp))).mono ?_; rintro e w3 hA; rcases hA.elim with ⟨n3, q3, V, hq, rfl, rfl, hp3, hr3, hs3⟩ | ⟨c3, ts3, hq, rfl, hs3⟩ <;> (have HQ3 := hide hq; clear hq hA); have HB3 := hide ((HB2.out.alloc _).go hs3 hr3 hp3); clear hr3)
    | (go_at_call 80; refine (NM.out _ _ (H0.out.alloc _)).mono ?_; rintro e w2 hA; rcases hA.elim with ⟨n2, q2, V, hq, rfl, rfl, hp2, hr2, hs2⟩ | ⟨c2, ts2, hq, rfl, hs2⟩ <;> (have HQ2 := hide hq; clear hq hA); have HB2 := hide (Bld.start hr2 (((Steps.refl B w).alloc _).trans hs2) (show _ = some (Obj.cells (stC { kind := 0 } noSls).toArray 38 (0, 0)) from hs2.keeps (heap_new rfl) hne) hp2 HB.out (Nat.le_refl _) 3 n2 [] false 0 (cs := #[.int .u8 3, .string ⟨n2.toArray⟩, .string ⟨#[]⟩, .slice none 0 0, .slice none 0 0, .bool false, .slice none 0 0, .slice none 0 0, .slice none 0 0, .slice none 0 0, .int .u8 0, .int .u8 0, .int .i64 0, .string ⟨#[]⟩, .string ⟨#[]⟩, .string ⟨#[]⟩, .int .i64 0, .int .u8 0, .slice none 0 0, .slice none 0 0, .slice none 0 0, .int .i64 0, .slice none 0 0]) rfl rfl); clear hr2)
    | (refine wpList_store_row rfl 38 (.tmp 3) (.tmp 6) rfl w2.heap.size _ rfl rfl 38 _ (heap_new rfl) ?hi ?ho ?h1 ?_; (case hi => exact info_stmt); (case ho => rfl); (case h1 => simp [Value.oneCell']); rw [alloc_row rfl]))
  · go_wp2_with (first
      | (refine wpList_load_row rfl 38 (.tmp 3) rfl w2.heap.size rfl _ _ _ _ HB5s.out.zx Tryz.underlying38 rfl (info_st _ _) ?_)
      | (refine wpList_store_row rfl 38 (.tmp 2) (.tmp 18) rfl w.heap.size _ rfl rfl 38 _ HB5s.out.zr (info_st _ _) ?ho ?h1 ?_; (case ho => rw [stC_size, stC_size]); (case h1 => exact stC_one HB5s.out.on)))
    refine bodyPost_ret (results_cell_row rfl _ _ w.heap.size _ _ (0, 0) _ rfl (setRow_heap _ _ _ _ _ _ HB5s.out.zr) Tryz.underlying38 rfl (info_st _ _)) rfl ?_
    exact HB5s.out.done (by rw [Ps.update, HQ2.out]; show Ps.R.bind (Ps.want [115, 101, 116] (l.drop q2)) _ = _; rw [show Ps.want [115, 101, 116] (l.drop q2) = _ from HQ3.out]; show Ps.R.bind (Ps.list 12 Ps.assign (l.drop q3)) _ = _; rw [HQ4.out]; show Ps.R.map (Ps.whereX (l.drop q4)) _ = _; rw [HQ5.out]; rfl)
  · exact bodyPost_thrown rfl (by rw [show Ps.update (l.drop p) = .no c1 ts1 from by rw [Ps.update, HQ2.out]; show Ps.R.bind (Ps.want [115, 101, 116] (l.drop q2)) _ = _; rw [show Ps.want [115, 101, 116] (l.drop q2) = _ from HQ3.out]; show Ps.R.bind (Ps.list 12 Ps.assign (l.drop q3)) _ = _; rw [HQ4.out]; show Ps.R.map (Ps.whereX (l.drop q4)) _ = _; rw [HQ5.out]; rfl]; exact Ans.no (HB4s.out.st.trans hs1))
  · exact bodyPost_thrown rfl (by rw [show Ps.update (l.drop p) = .no c4 ts4 from by rw [Ps.update, HQ2.out]; show Ps.R.bind (Ps.want [115, 101, 116] (l.drop q2)) _ = _; rw [show Ps.want [115, 101, 116] (l.drop q2) = _ from HQ3.out]; show Ps.R.bind (Ps.list 12 Ps.assign (l.drop q3)) _ = _; rw [HQ4.out]; rfl]; exact Ans.no (HB3.out.st.trans hs4))
  · exact bodyPost_thrown rfl (by rw [show Ps.update (l.drop p) = .no c3 ts3 from by rw [Ps.update, HQ2.out]; show Ps.R.bind (Ps.want [115, 101, 116] (l.drop q2)) _ = _; rw [show Ps.want [115, 101, 116] (l.drop q2) = _ from HQ3.out]; rfl]; exact Ans.no ((HB2.out.alloc _).st.trans hs3))
  · exact bodyPost_thrown rfl (by rw [show Ps.update (l.drop p) = .no c2 ts2 from by rw [Ps.update, HQ2.out]; rfl]; exact Ans.no (((Steps.refl B w).alloc _).trans hs2))

set_option maxRecDepth 100000 in
set_option maxHeartbeats 1600000 in
theorem deletion_any (w : World) (B : Nat) (l : List Lx.Tk) (p len : Nat) (h : Rd w B l p len 0) : Calls Tryz.prog 76 #[.pointer (some ⟨B, 0, none⟩)] w (Ans stIs B l len 0 w p (Ps.deletion (l.drop p))) := by
  have TK := hide (takes_any B l len 0)
  have HS := hide (hass_any B l len 0)
  have NM := hide (named_any B l len 0)
  have WN := hide (wanted_any B l len 0)
  have WH := hide (fun wx q hx => where_any wx B l q len hx)
  have H0 := hide h
  have hne : w.heap.size ≠ B := ne_of_lt' h.lt
  have HB := hide h.lt
  clear h
  go_enter Tryz.func76, Tryz.ntmps76
  go_wp2_with (first
    | (go_at_call 123; refine (WH.out _ _ HR2.out).mono ?_; rintro e w3 hA; rcases hA.laid with (⟨o9, k9, n9, t9, tb9, nm9, sl9, kd9, ag9, sa9, sc9, q9, hq, rfl, hx9, hp9, hr9, hs9⟩ | ⟨c9, ts9, hq, rfl, hs9⟩) <;> (have HQ3 := hide hq; clear hq hA); have HR3 := hide hr9; have HX := hide hx9; have Z3 := hs9.keeps Z2 hne; clear hr9 hx9)
    | (go_at_call 80; refine (NM.out _ _ HR1.out).mono ?_; rintro e w2 hA; rcases hA.elim with ⟨n2, q2, V, hq, rfl, rfl, hp2, hr2, hs2⟩ | ⟨c2, ts2, hq, rfl, hs2⟩ <;> (have HQ2 := hide hq; clear hq hA); have HR2 := hide hr2; have Z2 := hs2.keeps Z1 hne; clear hr2)
    | (go_at_call 79; refine (WN.out _ _ _ _ ((H0.out.alloc _).alloc _) (heap_new (by simp))).mono ?_; rintro e w1 hA; rcases hA.elim with ⟨n1, q1, V, hq, rfl, rfl, hp1, hr1, hs1⟩ | ⟨c1, ts1, hq, rfl, hs1⟩ <;> (have HQ1 := hide hq; clear hq hA); have HR1 := hide hr1; have Z1 := hs1.keeps (alloc_keeps (heap_new rfl) _) hne; clear hr1)
    | (refine wpList_store_row rfl 38 (.tmp 2) (.tmp 10) rfl w.heap.size _ rfl rfl 38 _ Z3 ?hi ?ho ?h1 ?_; (case hi => exact info_stmt); (case ho => rfl); (case h1 => simp [Value.oneCell'])))
  · refine bodyPost_ret (results_cell_row rfl _ _ w.heap.size _ _ (0, 0) _ rfl (setRow_heap _ _ _ _ _ _ Z3) Tryz.underlying38 rfl info_stmt) rfl ?_
    rw [show Ps.deletion (l.drop p) = .ok { kind := 4, nm := n2, wh := (Ps.Ex.mk o9 ⟨k9, n9, t9⟩ tb9 nm9 sl9 kd9 ag9) } (l.drop q9) from by rw [Ps.deletion, show Ps.want [102, 114, 111, 109] (l.drop p) = _ from HQ1.out]; show Ps.R.bind (Ps.name (l.drop q1)) _ = _; rw [HQ2.out]; show Ps.R.map (Ps.whereX (l.drop q2)) _ = _; rw [HQ3.out]; rfl]
    refine Ans.ok q9 (((((Steps.refl B w).alloc _).alloc _).trans (hs1.trans (hs2.trans hs9))).row (Nat.le_refl _) _) ⟨{ noSls with wh := .slice sa9 ag9.length sc9 }, rfl, ⟨nil_list _ _ _, nil_list _ _ _, nil_list _ _ _, nil_list _ _ _, nil_list _ _ _, nil_list _ _ _, nil_list _ _ _, nil_list _ _ _, nil_list _ _ _, ?_⟩⟩ (by omega) (row_rd HR3.out HB.out _)
    have hlt : w.heap.size + 1 ≤ w2.heap.size := by have h1 := hs1.size; have h2 := hs2.size; simp at h1; omega
    exact ExAt.keep (P := Fr (w.heap.size + 1)) (row_kept _ (Nat.not_succ_le_self _) _) (fun k hk _ => Nat.le_of_succ_le hk) _ _ (ExAt.mono (fun k hk => Nat.le_trans hlt hk) _ _ HX.out)
  · exact bodyPost_thrown rfl (by rw [show Ps.deletion (l.drop p) = .no c9 ts9 from by rw [Ps.deletion, show Ps.want [102, 114, 111, 109] (l.drop p) = _ from HQ1.out]; show Ps.R.bind (Ps.name (l.drop q1)) _ = _; rw [HQ2.out]; show Ps.R.map (Ps.whereX (l.drop q2)) _ = _; rw [HQ3.out]; rfl]; exact Ans.no ((((Steps.refl B w).alloc _).alloc _).trans (hs1.trans (hs2.trans hs9))))
  · exact bodyPost_thrown rfl (by rw [show Ps.deletion (l.drop p) = .no c2 ts2 from by rw [Ps.deletion, show Ps.want [102, 114, 111, 109] (l.drop p) = _ from HQ1.out]; show Ps.R.bind (Ps.name (l.drop q1)) _ = _; rw [HQ2.out]; rfl]; exact Ans.no ((((Steps.refl B w).alloc _).alloc _).trans (hs1.trans hs2)))
  · exact bodyPost_thrown rfl (by rw [show Ps.deletion (l.drop p) = .no c1 ts1 from by rw [Ps.deletion, show Ps.want [102, 114, 111, 109] (l.drop p) = _ from HQ1.out]; rfl]; exact Ans.no ((((Steps.refl B w).alloc _).alloc _).trans hs1))

/-- What stands behind ROLLBACK. -/
def rbR (ts : List Lx.Tk) : Ps.R Ps.St := if Ps.has [116, 111] ts then (Ps.name ts.tail).map fun n => { kind := 11, nm := n } else .ok { kind := 9 } ts

set_option maxRecDepth 100000 in
set_option maxHeartbeats 1600000 in
theorem rollback_any (w : World) (B : Nat) (l : List Lx.Tk) (p len : Nat) (h : Rd w B l p len 0) : Calls Tryz.prog 78 #[.pointer (some ⟨B, 0, none⟩)] w (Ans stIs B l len 0 w p (rbR (l.drop p))) := by
  have TK := hide (takes_any B l len 0)
  have HS := hide (hass_any B l len 0)
  have NM := hide (named_any B l len 0)
  have WN := hide (wanted_any B l len 0)
  have H0 := hide h
  have hne : w.heap.size ≠ B := ne_of_lt' h.lt
  have HB := hide h.lt
  clear h
  go_enter Tryz.func78, Tryz.ntmps78
  go_wp2_with (first
    | (go_at_call 50; refine (TK.out _ _ _ (H0.out.alloc _)).mono ?_; rintro e w2 (⟨h2, rfl, hr2, hs2⟩ | ⟨h2, rfl, hr2, hs2⟩) <;> (have HR2 := hide hr2; have HQ2 := hide h2; have Z2 := hs2.keeps (heap_new rfl) hne; clear hr2 h2))
    | (go_at_call 80; refine (NM.out _ _ HR2.out).mono ?_; rintro e w3 hA; rcases hA.elim with ⟨n3, q3, V, hq, rfl, rfl, hp3, hr3, hs3⟩ | ⟨c3, ts3, hq, rfl, hs3⟩ <;> (have HQ3 := hide hq; clear hq hA); have HR3 := hide hr3; have Z3 := hs3.keeps Z2 hne; clear hr3)
    | (refine wpList_store_row rfl 38 (.tmp 2) (.tmp 7) rfl w.heap.size _ rfl rfl 38 _ Z3 ?hi ?ho ?h1 ?_; (case hi => exact info_stmt); (case ho => rfl); (case h1 => simp [Value.oneCell']))
    | (refine wpList_store_row rfl 38 (.tmp 2) (.tmp 8) rfl w.heap.size _ rfl rfl 38 _ Z2 ?hi ?ho ?h1 ?_; (case hi => exact info_stmt); (case ho => rfl); (case h1 => simp [Value.oneCell'])))
  · refine bodyPost_ret (results_cell_row rfl _ _ w.heap.size _ _ (0, 0) _ rfl (setRow_heap _ _ _ _ _ _ Z3) Tryz.underlying38 rfl info_stmt) rfl ?_
    rw [show rbR (l.drop p) = .ok { kind := 11, nm := n3 } (l.drop q3) from by rw [rbR, if_pos HQ2.out, List.tail_drop, HQ3.out]; rfl]
    exact Ans.ok q3 (((step_alloc B w _).trans (hs2.trans hs3)).row (Nat.le_refl _) _) ⟨noSls, rfl, StAt.nil _ _ 11 n3 [] false 0⟩ (by omega) (row_rd HR3.out HB.out _)
  · exact bodyPost_thrown rfl (by rw [show rbR (l.drop p) = .no c3 ts3 from by rw [rbR, if_pos HQ2.out, List.tail_drop, HQ3.out]; rfl]; exact Ans.no ((step_alloc B w _).trans (hs2.trans hs3)))
  · refine bodyPost_ret (results_cell_row rfl _ _ w.heap.size _ _ (0, 0) _ rfl (setRow_heap _ _ _ _ _ _ Z2) Tryz.underlying38 rfl info_stmt) rfl ?_
    rw [show rbR (l.drop p) = .ok { kind := 9 } (l.drop p) from by rw [rbR, if_neg (by rw [show Ps.has [116, 111] (l.drop p) = false from HQ2.out]; decide)]]
    exact Ans.ok p (((step_alloc B w _).trans hs2).row (Nat.le_refl _) _) ⟨noSls, rfl, StAt.nil _ _ 9 [] [] false 0⟩ (Nat.le_refl _) (row_rd HR2.out HB.out _)
end Go.Proofs.YtedamaccflhmfaaGreatDoor
namespace Go.Proofs.YtedamaccflhmfaaGreatDoor
open Go.RowKit
attribute [local go_sem ↓] Go.wp_at_zero Go.wp_at_succ

abbrev put9_2 (w : World) (R : Nat) (v0 v1 v2 v3 v4 v5 v6 v7 v8 : Value) : World := (((((((((w.setCell ⟨R, 2, none⟩ v0).setCell ⟨R, 3, none⟩ v1).setCell ⟨R, 4, none⟩ v2).setCell ⟨R, 5, none⟩ v3).setCell ⟨R, 6, none⟩ v4).setCell ⟨R, 7, none⟩ v5).setCell ⟨R, 8, none⟩ v6).setCell ⟨R, 9, none⟩ v7).setCell ⟨R, 10, none⟩ v8)
theorem put9_2_heap {w : World} {R : Nat} {c0 c1 c2 c3 c4 c5 c6 c7 c8 c9 c10 : Value} {T : TypeId} (Z : w.heap[R]? = some (.cells #[c0, c1, c2, c3, c4, c5, c6, c7, c8, c9, c10] T (0, 0))) (v0 v1 v2 v3 v4 v5 v6 v7 v8 : Value) : (put9_2 w R v0 v1 v2 v3 v4 v5 v6 v7 v8).heap[R]? = some (.cells #[c0, c1, v0, v1, v2, v3, v4, v5, v6, v7, v8] T (0, 0)) := by
  have h0 : (w.setCell ⟨R, 2, none⟩ v0).heap[R]? = some (.cells #[c0, c1, v0, c3, c4, c5, c6, c7, c8, c9, c10] T (0, 0)) := heap_set Z v0
  have h1 : ((w.setCell ⟨R, 2, none⟩ v0).setCell ⟨R, 3, none⟩ v1).heap[R]? = some (.cells #[c0, c1, v0, v1, c4, c5, c6, c7, c8, c9, c10] T (0, 0)) := heap_set h0 v1
  have h2 : (((w.setCell ⟨R, 2, none⟩ v0).setCell ⟨R, 3, none⟩ v1).setCell ⟨R, 4, none⟩ v2).heap[R]? = some (.cells #[c0, c1, v0, v1, v2, c5, c6, c7, c8, c9, c10] T (0, 0)) := heap_set h1 v2
  have h3 : ((((w.setCell ⟨R, 2, none⟩ v0).setCell ⟨R, 3, none⟩ v1).setCell ⟨R, 4, none⟩ v2).setCell ⟨R, 5, none⟩ v3).heap[R]? = some (.cells #[c0, c1, v0, v1, v2, v3, c6, c7, c8, c9, c10] T (0, 0)) := heap_set h2 v3
  have h4 : (((((w.setCell ⟨R, 2, none⟩ v0).setCell ⟨R, 3, none⟩ v1).setCell ⟨R, 4, none⟩ v2).setCell ⟨R, 5, none⟩ v3).setCell ⟨R, 6, none⟩ v4).heap[R]? = some (.cells #[c0, c1, v0, v1, v2, v3, v4, c7, c8, c9, c10] T (0, 0)) := heap_set h3 v4
  have h5 : ((((((w.setCell ⟨R, 2, none⟩ v0).setCell ⟨R, 3, none⟩ v1).setCell ⟨R, 4, none⟩ v2).setCell ⟨R, 5, none⟩ v3).setCell ⟨R, 6, none⟩ v4).setCell ⟨R, 7, none⟩ v5).heap[R]? = some (.cells #[c0, c1, v0, v1, v2, v3, v4, v5, c8, c9, c10] T (0, 0)) := heap_set h4 v5
  have h6 : (((((((w.setCell ⟨R, 2, none⟩ v0).setCell ⟨R, 3, none⟩ v1).setCell ⟨R, 4, none⟩ v2).setCell ⟨R, 5, none⟩ v3).setCell ⟨R, 6, none⟩ v4).setCell ⟨R, 7, none⟩ v5).setCell ⟨R, 8, none⟩ v6).heap[R]? = some (.cells #[c0, c1, v0, v1, v2, v3, v4, v5, v6, c9, c10] T (0, 0)) := heap_set h5 v6
  have h7 : ((((((((w.setCell ⟨R, 2, none⟩ v0).setCell ⟨R, 3, none⟩ v1).setCell ⟨R, 4, none⟩ v2).setCell ⟨R, 5, none⟩ v3).setCell ⟨R, 6, none⟩ v4).setCell ⟨R, 7, none⟩ v5).setCell ⟨R, 8, none⟩ v6).setCell ⟨R, 9, none⟩ v7).heap[R]? = some (.cells #[c0, c1, v0, v1, v2, v3, v4, v5, v6, v7, c10] T (0, 0)) := heap_set h6 v7
  have h8 : (((((((((w.setCell ⟨R, 2, none⟩ v0).setCell ⟨R, 3, none⟩ v1).setCell ⟨R, 4, none⟩ v2).setCell ⟨R, 5, none⟩ v3).setCell ⟨R, 6, none⟩ v4).setCell ⟨R, 7, none⟩ v5).setCell ⟨R, 8, none⟩ v6).setCell ⟨R, 9, none⟩ v7).setCell ⟨R, 10, none⟩ v8).heap[R]? = some (.cells #[c0, c1, v0, v1, v2, v3, v4, v5, v6, v7, v8] T (0, 0)) := heap_set h7 v8
  exact h8
theorem put9_2_below (w : World) {b R : Nat} (hR : b ≤ R) (v0 v1 v2 v3 v4 v5 v6 v7 v8 : Value) : Below b w (put9_2 w R v0 v1 v2 v3 v4 v5 v6 v7 v8) := ((((((((((Below.refl b w).setCell (p := ⟨R, 2, none⟩) hR v0).setCell (p := ⟨R, 3, none⟩) hR v1).setCell (p := ⟨R, 4, none⟩) hR v2).setCell (p := ⟨R, 5, none⟩) hR v3).setCell (p := ⟨R, 6, none⟩) hR v4).setCell (p := ⟨R, 7, none⟩) hR v5).setCell (p := ⟨R, 8, none⟩) hR v6).setCell (p := ⟨R, 9, none⟩) hR v7).setCell (p := ⟨R, 10, none⟩) hR v8)
theorem put9_2_steps {a w : World} {B R : Nat} (h : Steps B a w) (hR : a.heap.size ≤ R) (v0 v1 v2 v3 v4 v5 v6 v7 v8 : Value) : Steps B a (put9_2 w R v0 v1 v2 v3 v4 v5 v6 v7 v8) :=
  ⟨(put9_2_below w (Nat.le_refl _) v0 v1 v2 v3 v4 v5 v6 v7 v8).os.trans h.os, (put9_2_below w (Nat.le_refl _) v0 v1 v2 v3 v4 v5 v6 v7 v8).tape.trans h.tape, (put9_2_below w (Nat.le_refl _) v0 v1 v2 v3 v4 v5 v6 v7 v8).output.trans h.output, Nat.le_trans h.size (put9_2_below w (Nat.le_refl R) v0 v1 v2 v3 v4 v5 v6 v7 v8).size, fun k hk hn => ((put9_2_below w hR v0 v1 v2 v3 v4 v5 v6 v7 v8).block k hk).trans (h.block k hk hn)⟩
theorem put9_2_other {w : World} {R k : Nat} {o : Obj} (h : w.heap[k]? = some o) (hn : k ≠ R) (v0 v1 v2 v3 v4 v5 v6 v7 v8 : Value) : (put9_2 w R v0 v1 v2 v3 v4 v5 v6 v7 v8).heap[k]? = some o := by
  refine Eq.trans ?_ h
  simp only [put9_2, World.setCell, Array.getElem?_modify]
  simp only [if_neg (show ¬ R = k from fun e => hn e.symm)]
theorem put9_2_kept (w : World) {P : Nat → Prop} {R : Nat} (hR : ¬ P R) (v0 v1 v2 v3 v4 v5 v6 v7 v8 : Value) : Kept P w (put9_2 w R v0 v1 v2 v3 v4 v5 v6 v7 v8) := fun k hl _ => by
  have hn : ¬ R = k := fun e => hR (e ▸ hl)
  simp only [put9_2, World.setCell, Array.getElem?_modify]
  simp only [if_neg hn]

theorem join_stop {ts : List Lx.Tk} (h : Ps.has [106, 111, 105, 110] ts = false) (xs : List Ps.Src) : ∀ f, Ps.joins f xs ts = .ok xs ts
  | 0 => rfl
  | f + 1 => by rw [Ps.joins, if_neg (by rw [h]; decide)]
theorem join_go {l : List Lx.Tk} {q : Nat} {xs : List Ps.Src} {res : Ps.R (List Ps.Src)} (h : Ps.has [106, 111, 105, 110] (l.drop q) = true) : (∃ f, l.length - q ≤ f ∧ Ps.joins f xs (l.drop q) = res) → ∃ f, l.length - (q + 1) ≤ f ∧ (if Ps.room xs.length 4 (l.drop (q + 1)) then (Ps.source (l.drop (q + 1))).bind (fun s ts => (Ps.want [111, 110] ts).bind fun _ ts => (Ps.exprT ts).bind fun x ts => Ps.joins f (xs ++ [{ s with on' := x }]) ts) else .no 3 (l.drop (q + 1))) = res := by
  rintro ⟨f, hf, e⟩
  have hlt := has_lt h
  match f, hf with
  | 0, hf => omega
  | f + 1, hf =>
    rw [Ps.joins, if_pos h] at e
    simp only [List.tail_drop] at e
    exact ⟨f, by omega, e⟩
/-- The sources on their way. -/
structure SrS (w : World) (B : Nat) (l : List Lx.Tk) (len : Nat) (res : Ps.R (List Ps.Src)) (p : Nat) (wr : World) (q g cap n : Nat) (xs : List Ps.Src) : Prop where
  rd : Rd wr B l q len 0
  st : Steps B w wr
  ow : Own srcCod 104 11 w.heap.size wr xs g cap n
  pq : p ≤ q
  nq : n ≤ q + 1
  eq : ∃ f, l.length - q ≤ f ∧ Ps.joins f xs (l.drop q) = res

set_option maxRecDepth 100000 in
set_option maxHeartbeats 3200000 in
theorem sources_any (w : World) (B : Nat) (l : List Lx.Tk) (p len : Nat) (h : Rd w B l p len 0) : Calls Tryz.prog 122 #[.pointer (some ⟨B, 0, none⟩)] w (Ans (listIs srcCod) B l len 0 w p (Ps.sources (l.drop p))) := by
  have SO := hide (fun wx q hx => source_any wx B l q len hx)
  have EX := hide (expr_all B l len)
  have WN := hide (wanted_any B l len 0)
  have TK := hide (takes_any B l len 0)
  have RM : Hid (∀ (wx : World) (q n : Nat), Rd wx B l q len 0 → Calls Tryz.prog 164 #[.pointer (some ⟨B, 0, none⟩), .int .i64 n, .int .i64 4] wx (Ans unitIs B l len 0 wx q (if Ps.room n 4 (l.drop q) then .ok () (l.drop q) else .no 3 (l.drop q)))) := fun wx q n hx => room_any wx B l q len 0 hx n 4 _ rfl
  have H0 := hide h
  have HB := hide h.lt
  have hll := h.ll
  obtain ⟨res, hres⟩ : ∃ res, res = Ps.sources (l.drop p) := ⟨_, rfl⟩
  rw [← hres]
  have HRES : Hid (∀ x q, Ps.source (l.drop p) = .ok x (l.drop q) → Ps.joins (l.drop q).length [x] (l.drop q) = res) := fun x q e => by rw [hres, Ps.sources, e]; rfl
  have HNO : Hid (∀ c ts, Ps.source (l.drop p) = .no c ts → res = .no c ts) := fun c ts e => by rw [hres, Ps.sources, e]; rfl
  clear h hres
  go_enter Tryz.func122, Tryz.ntmps122
  go_wp2_with (go_at_call 166; refine (SO.out _ _ H0.out).mono ?_; rintro e w2 (⟨ta, as', o, k, n, t, tb, nm, sl, kd, ag, sa, sc, q, hq, rfl, hx, hpq, hr2, hs⟩ | ⟨c, ts, hq, rfl, hs⟩) <;> (have HQ := hide hq; clear hq))
  · have S0 : SrS w B l len res p (w2.alloc (.cells #[.string ⟨ta.toArray⟩, .string ⟨as'.toArray⟩, .int .u8 o, .int .u8 k, .int .i64 n, .string t, .string ⟨tb.toArray⟩, .string ⟨nm.toArray⟩, .int .i64 sl, .int .u8 kd, .slice sa ag.length sc] 104)) q w2.heap.size 1 1 [(Ps.Src.mk ta as' (Ps.Ex.mk o ⟨k, n, t⟩ tb nm sl kd ag))] :=
      ⟨hr2.alloc _, hs.alloc _, Own.one (S := .slice sa ag.length sc) rfl rfl hs.size hx, hpq, by omega, _, Nat.le_of_eq (List.length_drop).symm, HRES.out _ _ HQ.out⟩
    obtain ⟨G, hG⟩ : ∃ G, G = w2.heap.size := ⟨_, rfl⟩
    rw [← hG] at S0 ⊢
    have HS0 := hide S0
    clear hG hx hr2 hs HQ S0 HRES HNO H0
    go_loopw [3] (fun v wr => ∃ (q g cap ne : Nat) (xs : List Ps.Src), v = .slice (some ⟨g, 0, none⟩) ne cap ∧ SrS w B l len res p wr q g cap ne xs) (fun _ wr => l.length - placeOf wr B)
    case atStart => exact ⟨_, _, _, _, _, rfl, HS0.out⟩
    case round =>
      clear HS0
      obtain ⟨q, g, cap, ne, xs, rfl, LS⟩ := hrel
      have HL := hide LS
      clear LS
      have hnq : ne ≤ q + 1 := HL.out.nq
      have hqp : placeOf wr B = q := HL.out.rd.place
      have HQP := hide hqp
      clear hqp
      go_upto_region 7 with (first
        | (go_at_call 50; refine (TK.out _ _ _ HL.out.rd).mono ?_; rintro e w3 (⟨h3, rfl, hr3, hs3⟩ | ⟨h3, rfl, hr3, hs3⟩) <;> (have HR3 := hide hr3; have HQ3 := hide h3; clear h3 hr3; have HW3 := hide (HL.out.ow.steps hs3 HB.out)))
        | (go_at_call 164; refine (RM.out _ _ ne HR3.out).mono ?_; rintro e w4 hA; rcases hA.elim with ⟨u, q4, V, hq, rfl, rfl, hp4, hr4, hs4⟩ | ⟨c4, ts4, hq, rfl, hs4⟩ <;> (have HQ4 := hide hq; clear hq hA); have HR4 := hide hr4; have HW4 := hide (HW3.out.steps hs4 HB.out); clear hr4)
        | (go_at_call 166; refine (SO.out _ _ HR4.out).mono ?_; rintro e w5 (⟨ta, as', o, k, n, t, tb, nm, sl, kd, ag, sa, sc, q5, hq, rfl, hx, hpq5, hr5, hs5⟩ | ⟨c5, ts5, hq, rfl, hs5⟩) <;> (have HQ5 := hide hq; clear hq); have HR5 := hide hr5; have HW5 := hide (HW4.out.steps hs5 HB.out); have hneX : w5.heap.size ≠ B := ne_of_lt' hr5.lt; clear hx hr5)
        | (go_at_call 79; refine (WN.out _ _ _ _ ((HR5.out.alloc _).alloc _) (heap_new (by simp))).mono ?_; rintro e w6 hA; rcases hA.elim with ⟨n6, q6, V, hq, rfl, rfl, hp6, hr6, hs6⟩ | ⟨c6, ts6, hq, rfl, hs6⟩ <;> (have HQ6 := hide hq; clear hq hA); have HR6 := hide hr6; have X6 := hs6.keeps (alloc_keeps (heap_new rfl) _) hneX; clear hr6)
        | (go_at_call 54; refine (EX.out _ _ HR6.out).mono ?_; rintro e w7 hA; rcases hA.laid with (⟨o1, k1, n1, t1, tb1, nm1, sl1, kd1, ag1, sa1, sc1, q1, hq, rfl, hx1, hp1, hr1, hs1⟩ | ⟨c1, ts1, hq, rfl, hs1⟩) <;> (have HQ7 := hide hq; clear hq hA); have HR7 := hide hr1; have HX7 := hide hx1; have X7 := hs1.keeps X6 hneX; have xc0 := Joins.cell_of_block X7 0; have xf0 := Joins.unfrozen_of_block X7 0; have xc1 := Joins.cell_of_block X7 1; have xf1 := Joins.unfrozen_of_block X7 1; have xc2 := Joins.cell_of_block X7 2; have xf2 := Joins.unfrozen_of_block X7 2; have xc3 := Joins.cell_of_block X7 3; have xf3 := Joins.unfrozen_of_block X7 3; have xc4 := Joins.cell_of_block X7 4; have xf4 := Joins.unfrozen_of_block X7 4; have xc5 := Joins.cell_of_block X7 5; have xf5 := Joins.unfrozen_of_block X7 5; have xc6 := Joins.cell_of_block X7 6; have xf6 := Joins.unfrozen_of_block X7 6; have xc7 := Joins.cell_of_block X7 7; have xf7 := Joins.unfrozen_of_block X7 7; have xc8 := Joins.cell_of_block X7 8; have xf8 := Joins.unfrozen_of_block X7 8; have xc9 := Joins.cell_of_block X7 9; have xf9 := Joins.unfrozen_of_block X7 9; have xc10 := Joins.cell_of_block X7 10; have xf10 := Joins.unfrozen_of_block X7 10; clear hr1 hx1))
      · have hB := HB.out
        have hg5 := HW5.out.lt
        have hz5 := (((HL.out.st.trans hs3).trans hs4).trans hs5).size
        have hz6 : w5.heap.size < w6.heap.size := by have := hs6.size; simp at this; omega
        have HSW : Steps B w5 (put9_2 w7 w5.heap.size (.int .u8 o1) (.int .u8 k1) (.int .i64 n1) (.string t1) (.string ⟨tb1.toArray⟩) (.string ⟨nm1.toArray⟩) (.int .i64 sl1) (.int .u8 kd1) (.slice sa1 ag1.length sc1)) := put9_2_steps ((((Steps.refl B w5).alloc _).alloc _).trans (hs6.trans hs1)) (Nat.le_refl _) _ _ _ _ _ _ _ _ _
        have HWW := hide ((HW5.out.steps HSW HB.out).steps (step_alloc B _ (.cells #[.string ⟨ta.toArray⟩, .string ⟨as'.toArray⟩, .int .u8 o1, .int .u8 k1, .int .i64 n1, .string t1, .string ⟨tb1.toArray⟩, .string ⟨nm1.toArray⟩, .int .i64 sl1, .int .u8 kd1, .slice sa1 ag1.length sc1] 104)) HB.out)
        have HXW : Hid (srcCod.at' (fun b => w.heap.size ≤ b ∧ b ≠ g) ((put9_2 w7 w5.heap.size (.int .u8 o1) (.int .u8 k1) (.int .i64 n1) (.string t1) (.string ⟨tb1.toArray⟩) (.string ⟨nm1.toArray⟩) (.int .i64 sl1) (.int .u8 kd1) (.slice sa1 ag1.length sc1)).alloc (.cells #[.string ⟨ta.toArray⟩, .string ⟨as'.toArray⟩, .int .u8 o1, .int .u8 k1, .int .i64 n1, .string t1, .string ⟨tb1.toArray⟩, .string ⟨nm1.toArray⟩, .int .i64 sl1, .int .u8 kd1, .slice sa1 ag1.length sc1] 104)) (Ps.Src.mk ta as' (Ps.Ex.mk o1 ⟨k1, n1, t1⟩ tb1 nm1 sl1 kd1 ag1)) (.slice sa1 ag1.length sc1)) := ExAt.keep (P := fun b => w.heap.size ≤ b ∧ b ≠ g) (Kept.of ((Below.refl _ _).alloc (Nat.le_refl _) _)) (fun _ h _ => h) _ _ (ExAt.keep (P := Fr w6.heap.size) (put9_2_kept w7 (show ¬ w6.heap.size ≤ w5.heap.size by omega) _ _ _ _ _ _ _ _ _) (fun k hk _ => by have h1 : w6.heap.size ≤ k := hk; exact ⟨by omega, by omega⟩) _ _ HX7.out)
        have HSZ : Hid (w.heap.size ≤ ((put9_2 w7 w5.heap.size (.int .u8 o1) (.int .u8 k1) (.int .i64 n1) (.string t1) (.string ⟨tb1.toArray⟩) (.string ⟨nm1.toArray⟩) (.int .i64 sl1) (.int .u8 kd1) (.slice sa1 ag1.length sc1)).alloc (.cells #[.string ⟨ta.toArray⟩, .string ⟨as'.toArray⟩, .int .u8 o1, .int .u8 k1, .int .i64 n1, .string t1, .string ⟨tb1.toArray⟩, .string ⟨nm1.toArray⟩, .int .i64 sl1, .int .u8 kd1, .slice sa1 ag1.length sc1] 104)).heap.size) := ((((HL.out.st.trans hs3).trans hs4).trans hs5).trans (HSW.alloc _)).size
        have HQL := hide HL.out.rd.pl
        have HSW2 := hide HSW
        clear HSW
        go_wp2_with (at_builtin; refine wpList_el 104 27 11 144 (.agg #[.string ⟨#[]⟩, .string ⟨#[]⟩, .int .u8 0, .int .u8 0, .int .i64 0, .string ⟨#[]⟩, .string ⟨#[]⟩, .string ⟨#[]⟩, .int .i64 0, .int .u8 0, .slice none 0 0]) Tryz.underlying27 infoE_src rfl (by decide) (by decide) rfl _ _ rfl w.heap.size xs g cap ne rfl HWW.out w7.heap.size 1 (Ps.Src.mk ta as' (Ps.Ex.mk o1 ⟨k1, n1, t1⟩ tb1 nm1 sl1 kd1 ag1)) (.slice sa1 ag1.length sc1) #[.string ⟨ta.toArray⟩, .string ⟨as'.toArray⟩, .int .u8 o1, .int .u8 k1, .int .i64 n1, .string t1, .string ⟨tb1.toArray⟩, .string ⟨nm1.toArray⟩, .int .i64 sl1, .int .u8 kd1, .slice sa1 ag1.length sc1] rfl ?hhb rfl rfl ?h1 HXW.out ?hn HSZ.out ?go; (case hhb => exact heap_new (by simp)); (case h1 => (intro u hu; simp only [List.mem_toArray, List.mem_cons, List.not_mem_nil, or_false] at hu; rcases hu with rfl | rfl | rfl | rfl | rfl | rfl | rfl | rfl | rfl | rfl | rfl <;> rfl)); (case hn => (have := HQL.out; omega)); intro g8 cap8 w8 hO hG8; have HO := hide hO; clear hO)
        have hnq5 := HL.out.nq
        have HR8 := (((HR7.out.keep (put9_2_below w7 (b := B + 1) (R := w5.heap.size) (by omega) (.int .u8 o1) (.int .u8 k1) (.int .i64 n1) (.string t1) (.string ⟨tb1.toArray⟩) (.string ⟨nm1.toArray⟩) (.int .i64 sl1) (.int .u8 kd1) (.slice sa1 ag1.length sc1))).alloc (.cells #[.string ⟨ta.toArray⟩, .string ⟨as'.toArray⟩, .int .u8 o1, .int .u8 k1, .int .i64 n1, .string t1, .string ⟨tb1.toArray⟩, .string ⟨nm1.toArray⟩, .int .i64 sl1, .int .u8 kd1, .slice sa1 ag1.length sc1] 104)).by hG8 (Nat.lt_of_lt_of_le HB.out HL.out.ow.ge))
        refine ⟨⟨q1, g8, cap8, ne + 1, _, rfl, HR8, (((((HL.out.st.trans hs3).trans hs4).trans hs5).trans HSW2.out).alloc _).by hG8 HL.out.ow.ge, HO.out, by have := HL.out.pq; omega, by omega, ?_⟩, ?_⟩
        · obtain ⟨f', hf', e⟩ := join_go HQ3.out HL.out.eq
          obtain ⟨e1, e2⟩ := room_ok HQ4.out
          refine ⟨f', by omega, ?_⟩
          rw [← HL.out.ow.len, e1, if_pos rfl, ← e2, HQ5.out] at e
          rw [← e]
          show _ = (Ps.want [111, 110] (l.drop q5)).bind _
          rw [show Ps.want [111, 110] (l.drop q5) = _ from HQ6.out]
          show _ = (Ps.exprT (l.drop q6)).bind _
          rw [HQ7.out]
          rfl
        · rw [HR8.place, HQP.out]
          have := has_lt HQ3.out
          omega
      · refine bodyPost_thrown (P := Tryz.prog) (fn := Tryz.f122) (R := Ans (listIs srcCod) B l len 0 w p res) rfl ?_
        obtain ⟨f', hf', e⟩ := join_go HQ3.out HL.out.eq
        obtain ⟨e1, e2⟩ := room_ok HQ4.out
        rw [← HL.out.ow.len, e1, if_pos rfl, ← e2, HQ5.out] at e
        rw [show res = .no c1 ts1 from by rw [← e]; show (Ps.want [111, 110] (l.drop q5)).bind _ = _; rw [show Ps.want [111, 110] (l.drop q5) = _ from HQ6.out]; show (Ps.exprT (l.drop q6)).bind _ = _; rw [HQ7.out]; rfl]
        exact Ans.no ((((HL.out.st.trans hs3).trans hs4).trans hs5).trans ((((Steps.refl B w5).alloc _).alloc _).trans (hs6.trans hs1)))
      · refine bodyPost_thrown (P := Tryz.prog) (fn := Tryz.f122) (R := Ans (listIs srcCod) B l len 0 w p res) rfl ?_
        obtain ⟨f', hf', e⟩ := join_go HQ3.out HL.out.eq
        obtain ⟨e1, e2⟩ := room_ok HQ4.out
        rw [← HL.out.ow.len, e1, if_pos rfl, ← e2, HQ5.out] at e
        rw [show res = .no c6 ts6 from by rw [← e]; show (Ps.want [111, 110] (l.drop q5)).bind _ = _; rw [show Ps.want [111, 110] (l.drop q5) = _ from HQ6.out]; rfl]
        exact Ans.no ((((HL.out.st.trans hs3).trans hs4).trans hs5).trans ((((Steps.refl B w5).alloc _).alloc _).trans hs6))
      · refine bodyPost_thrown (P := Tryz.prog) (fn := Tryz.f122) (R := Ans (listIs srcCod) B l len 0 w p res) rfl ?_
        obtain ⟨f', hf', e⟩ := join_go HQ3.out HL.out.eq
        obtain ⟨e1, e2⟩ := room_ok HQ4.out
        rw [← HL.out.ow.len, e1, if_pos rfl, ← e2, HQ5.out] at e
        rw [← e]
        exact Ans.no (((HL.out.st.trans hs3).trans hs4).trans hs5)
      · refine bodyPost_thrown (P := Tryz.prog) (fn := Tryz.f122) (R := Ans (listIs srcCod) B l len 0 w p res) rfl ?_
        obtain ⟨f', hf', e⟩ := join_go HQ3.out HL.out.eq
        obtain ⟨e1, e2, e3⟩ := room_no HQ4.out
        rw [← HL.out.ow.len, e1, if_neg (by decide), ← e3] at e
        rw [← e, e2]
        exact Ans.no ((HL.out.st.trans hs3).trans hs4)
      · go_ret
        obtain ⟨f', _, e⟩ := HL.out.eq
        rw [join_stop HQ3.out] at e
        rw [← e]
        exact Ans.ok q (HL.out.st.trans hs3) HW3.out.list HL.out.pq HR3.out
  · exact bodyPost_thrown rfl (by rw [HNO.out _ _ HQ.out]; exact Ans.no hs)
end Go.Proofs.YtedamaccflhmfaaGreatDoor
