/-
  Package parser: insert.
-/
import Derived.Test.YtedamaccflhmfaaGreatDoorPsW
namespace Go.Proofs.YtedamaccflhmfaaGreatDoor
open Go.RowKit
attribute [local go_sem ↓] Go.wp_at_zero Go.wp_at_succ

theorem info_stmt : (Tryz.prog.info? 38).map (·.size) = some 23 := by kernel_rfl
theorem info_st (s : Ps.St) (S : Sls) : (Tryz.prog.info? 38).map (·.size) = some (stC s S).toArray.size := by rw [stC_size]; exact info_stmt
theorem Bld.done {w : World} {B : Nat} {l : List Lx.Tk} {len p R X : Nat} {wc : World} {q : Nat} {s : Ps.St} {S : Sls} (h : Bld w B l len p R X wc q s S) {r : Ps.R Ps.St} (hr : r = .ok s (l.drop q)) : Ans stIs B l len 0 w p r (.returned (.agg (stC s S).toArray)) (wc.setRow R (stC s S).toArray) := by
  subst hr
  have h1 := h.br; have h2 := h.rx; have h3 := h.wr
  exact Ans.ok q (h.st.row h3 _) ⟨S, rfl, h.on.keep (row_kept wc (show ¬ X + 1 ≤ R by omega) _) (by omega)⟩ h.pq (row_rd h.rd h1 _)
set_option maxRecDepth 100000 in
theorem eg_name (args : Array Value) (w : World) : (callFunc 80 args).run Tryz.prog w = .ok (.enter 80 args) w := rfl
set_option maxRecDepth 100000 in
theorem eg_row (args : Array Value) (w : World) : (callFunc 131 args).run Tryz.prog w = .ok (.enter 131 args) w := rfl
set_option maxRecDepth 100000 in
theorem eg_item (args : Array Value) (w : World) : (callFunc 121 args).run Tryz.prog w = .ok (.enter 121 args) w := rfl
set_option maxRecDepth 100000 in
theorem eg_column (args : Array Value) (w : World) : (callFunc 125 args).run Tryz.prog w = .ok (.enter 125 args) w := rfl
set_option maxRecDepth 100000 in
theorem eg_order (args : Array Value) (w : World) : (callFunc 127 args).run Tryz.prog w = .ok (.enter 127 args) w := rfl
set_option maxRecDepth 100000 in
theorem eg_assign (args : Array Value) (w : World) : (callFunc 133 args).run Tryz.prog w = .ok (.enter 133 args) w := rfl
theorem alloc_row {w : World} {z cs : Array Value} {T : TypeId} {k : Nat} (h : k = w.heap.size) : (w.alloc (.cells z T)).setRow k cs = w.alloc (.cells cs T) := by
  subst h
  unfold World.setRow World.alloc
  simp only
  congr 1
  apply Array.ext_getElem?
  intro i
  rw [Array.getElem?_modify]
  split
  · rename_i e
    subst e
    simp
  · rename_i e
    rw [Array.getElem?_push, Array.getElem?_push, if_neg (fun h => e h.symm), if_neg (fun h => e h.symm)]
/-- Lists as the statements read them. -/
abbrev CallsL (fn : FuncId) (f : FuncId) (most : Int) {α : Type} (C : Cod α) (B : Nat) (l : List Lx.Tk) (len : Nat) (r : List Lx.Tk → Ps.R (List α)) : Prop := ∀ (wx : World) (q : Nat), Rd wx B l q len 0 → Calls Tryz.prog fn #[.pointer (some ⟨B, 0, none⟩), .int .i64 most, .func (.func f) #[.pointer (some ⟨B, 0, none⟩)] #[]] wx (Ans (listIs C) B l len 0 wx q (r (l.drop q)))
theorem names_any (B : Nat) (l : List Lx.Tk) (len most : Nat) : CallsL 129 80 most strCod B l len (Ps.closed most Ps.name) := fun wx q h => closed_str 80 eg_name Ps.name wx B l q len 0 most h fun wy z hz => (name_any wy B l z len 0 hz).mono fun _ _ hA => name_laidE hA
theorem rows_any (B : Nat) (l : List Lx.Tk) (len most : Nat) : CallsL 130 131 most rowCod B l len (Ps.list most Ps.row) := fun wx q h => list_row 131 eg_row Ps.row wx B l q len 0 most h fun wy z hz => row_any wy B l z len hz
theorem items_any (B : Nat) (l : List Lx.Tk) (len most : Nat) : CallsL 120 121 most itemCod B l len (Ps.list most Ps.item) := fun wx q h => list_item 121 eg_item Ps.item wx B l q len 0 most h fun wy z hz => item_any wy B l z len hz
theorem group_any (B : Nat) (l : List Lx.Tk) (len most : Nat) : CallsL 124 125 most exCod B l len (Ps.list most Ps.column) := fun wx q h => list_expr 125 eg_column Ps.column wx B l q len 0 most h fun wy z hz => (column_any wy B l z len 0 hz).mono fun _ _ hA => exIs_laidE hA
theorem orders_any (B : Nat) (l : List Lx.Tk) (len most : Nat) : CallsL 126 127 most ordCod B l len (Ps.list most Ps.order) := fun wx q h => list_ord 127 eg_order Ps.order wx B l q len 0 most h fun wy z hz => order_any wy B l z len hz
theorem assigns_any (B : Nat) (l : List Lx.Tk) (len most : Nat) : CallsL 132 133 most asgCod B l len (Ps.list most Ps.assign) := fun wx q h => list_asg 133 eg_assign Ps.assign wx B l q len 0 most h fun wy z hz => assign_any wy B l z len hz

set_option maxRecDepth 100000 in
set_option maxHeartbeats 1600000 in
theorem insert_any (w : World) (B : Nat) (l : List Lx.Tk) (p len : Nat) (h : Rd w B l p len 0) : Calls Tryz.prog 74 #[.pointer (some ⟨B, 0, none⟩)] w (Ans stIs B l len 0 w p (Ps.insert (l.drop p))) := by
  have TK := hide (takes_any B l len 0)
  have HS := hide (hass_any B l len 0)
  have NM := hide (named_any B l len 0)
  have WN := hide (wanted_any B l len 0)
  have LN := hide (names_any B l len 12)
  have LR := hide (rows_any B l len 64)
  have H0 := hide h
  have hne : w.heap.size ≠ B := ne_of_lt' h.lt
  have HB := hide h.lt
  clear h
  go_enter Tryz.func74, Tryz.ntmps74
  go_upto_region 7 with (first
    | (go_at_call 79; refine (WN.out _ _ _ _ (HB4s.out.alloc _).rd (heap_new (by simp [World.setCell]))).mono ?_; rintro e w5 hA; rcases hA.elim with ⟨n5, q5, V, hq, rfl, rfl, hp5, hr5, hs5⟩ | ⟨c5, ts5, hq, rfl, hs5⟩ <;> (have HQ5 := hide hq; clear hq hA); have HB5 := hide ((HB4s.out.alloc _).go hs5 hr5 hp5); clear hr5)
    | (go_at_call 129; refine (LN.out _ _ HB3.out.rd).mono ?_; rintro e w4 hA; rcases hA.elim with ⟨xs4, q4, V, hq, rfl, hv, hp4, hr4, hs4⟩ | ⟨c4, ts4, hq, rfl, hs4⟩ <;> (have HQ4 := hide hq; clear hq hA); have HB4 := hide (HB3.out.go hs4 hr4 hp4); obtain ⟨sa4, sc4, rfl, hv2⟩ := list_laid hv; have HV4 := hide (hv2.keep (Kept.refl _ _) HB3.out.xlt cod_pos.2.1); have HB4s := hide (HB4.out.set_names HV4.out); obtain ⟨yc4, yf4⟩ := HB4.out.cell_names; clear hr4 hv hv2)
    | (go_at_call 130; refine (LR.out _ _ HB5.out.rd).mono ?_; rintro e w6 hA; rcases hA.elim with ⟨xs6, q6, V, hq, rfl, hv, hp6, hr6, hs6⟩ | ⟨c6, ts6, hq, rfl, hs6⟩ <;> (have HQ6 := hide hq; clear hq hA); have HB6 := hide (HB5.out.go hs6 hr6 hp6); obtain ⟨sa6, sc6, rfl, hv2⟩ := list_laid hv; have HV6 := hide (hv2.keep (Kept.refl _ _) HB5.out.xlt cod_pos.2.2.1); have HB6s := hide (HB6.out.set_rows HV6.out); obtain ⟨yc6, yf6⟩ := HB6.out.cell_rows; clear hr6 hv hv2)
    | (go_at_call 79; refine (WN.out _ _ _ _ (HB3.out.alloc _).rd (heap_new (by simp))).mono ?_; rintro e w5 hA; rcases hA.elim with ⟨n5, q5, V, hq, rfl, rfl, hp5, hr5, hs5⟩ | ⟨c5, ts5, hq, rfl, hs5⟩ <;> (have HQ5 := hide hq; clear hq hA); have HB5 := hide ((HB3.out.alloc _).go hs5 hr5 hp5); clear hr5)
    | (go_at_call 81; refine (HS.out _ _ _ HB2.out.rd).mono ?_; rintro e w3 ⟨hb3, ⟨h3, rfl⟩ | ⟨h3, rfl⟩⟩ <;> (have HQ3 := hide h3; clear h3; have HB3 := hide (HB2.out.go (Steps.of hb3) (HB2.out.rd.later hb3) (Nat.le_refl _))))
    | (go_at_call 80; refine (NM.out _ _ HR1.out).mono ?_; rintro e w2 hA; rcases hA.elim with ⟨n2, q2, V, hq, rfl, rfl, hp2, hr2, hs2⟩ | ⟨c2, ts2, hq, rfl, hs2⟩ <;> (have HQ2 := hide hq; clear hq hA); have HB2 := hide (Bld.start hr2 ((((Steps.refl B w).alloc _).alloc _).trans (hs1.trans hs2)) (show _ = some (Obj.cells (stC { kind := 0 } noSls).toArray 38 (0, 0)) from hs2.keeps Z1 hne) (Nat.le_trans hp1 hp2) HB.out (Nat.le_refl _) 2 n2 [] false 0 (cs := #[.int .u8 2, .string ⟨n2.toArray⟩, .string ⟨#[]⟩, .slice none 0 0, .slice none 0 0, .bool false, .slice none 0 0, .slice none 0 0, .slice none 0 0, .slice none 0 0, .int .u8 0, .int .u8 0, .int .i64 0, .string ⟨#[]⟩, .string ⟨#[]⟩, .string ⟨#[]⟩, .int .i64 0, .int .u8 0, .slice none 0 0, .slice none 0 0, .slice none 0 0, .int .i64 0, .slice none 0 0]) rfl rfl); clear hr2)
    | (go_at_call 79; refine (WN.out _ _ _ _ ((H0.out.alloc _).alloc _) (heap_new (by simp))).mono ?_; rintro e w1 hA; rcases hA.elim with ⟨n1, q1, V, hq, rfl, rfl, hp1, hr1, hs1⟩ | ⟨c1, ts1, hq, rfl, hs1⟩ <;> (have HQ1 := hide hq; clear hq hA); have HR1 := hide hr1; have Z1 := hs1.keeps (alloc_keeps (heap_new rfl) _) hne; clear hr1)
    | (refine wpList_store_row rfl 38 (.tmp 3) (.tmp 9) rfl w2.heap.size _ rfl rfl 38 _ (heap_new rfl) ?hi ?ho ?h1 ?_; (case hi => exact info_stmt); (case ho => rfl); (case h1 => simp [Value.oneCell']); rw [alloc_row rfl]))
  · go_wp2_with (first
      | (refine wpList_load_row rfl 38 (.tmp 3) rfl w2.heap.size rfl _ _ _ _ HB6s.out.zx Tryz.underlying38 rfl (info_st _ _) ?_)
      | (refine wpList_store_row rfl 38 (.tmp 2) (.tmp 25) rfl w.heap.size _ rfl rfl 38 _ HB6s.out.zr (info_st _ _) ?ho ?h1 ?_; (case ho => rw [stC_size, stC_size]); (case h1 => exact stC_one HB6s.out.on)))
    refine bodyPost_ret (results_cell_row rfl _ _ w.heap.size _ _ (0, 0) _ rfl (setRow_heap _ _ _ _ _ _ HB6s.out.zr) Tryz.underlying38 rfl (info_st _ _)) rfl ?_
    exact HB6s.out.done (by rw [Ps.insert, show Ps.want [105, 110, 116, 111] (l.drop p) = _ from HQ1.out]; show Ps.R.bind (Ps.name (l.drop q1)) _ = _; rw [HQ2.out]; show Ps.R.bind (if Ps.has [40] (l.drop q2) = true then _ else _) _ = _; rw [if_pos (show Ps.has [40] (l.drop q2) = true from HQ3.out)]; show Ps.R.bind (Ps.closed 12 Ps.name (l.drop q2)) _ = _; rw [HQ4.out]; show Ps.R.bind (Ps.want [118, 97, 108, 117, 101, 115] (l.drop q4)) _ = _; rw [show Ps.want [118, 97, 108, 117, 101, 115] (l.drop q4) = _ from HQ5.out]; show Ps.R.map (Ps.list 64 Ps.row (l.drop q5)) _ = _; rw [HQ6.out]; rfl)
  · exact bodyPost_thrown rfl (by rw [show Ps.insert (l.drop p) = .no c6 ts6 from by rw [Ps.insert, show Ps.want [105, 110, 116, 111] (l.drop p) = _ from HQ1.out]; show Ps.R.bind (Ps.name (l.drop q1)) _ = _; rw [HQ2.out]; show Ps.R.bind (if Ps.has [40] (l.drop q2) = true then _ else _) _ = _; rw [if_pos (show Ps.has [40] (l.drop q2) = true from HQ3.out)]; show Ps.R.bind (Ps.closed 12 Ps.name (l.drop q2)) _ = _; rw [HQ4.out]; show Ps.R.bind (Ps.want [118, 97, 108, 117, 101, 115] (l.drop q4)) _ = _; rw [show Ps.want [118, 97, 108, 117, 101, 115] (l.drop q4) = _ from HQ5.out]; show Ps.R.map (Ps.list 64 Ps.row (l.drop q5)) _ = _; rw [HQ6.out]; rfl]; exact Ans.no (HB5.out.st.trans hs6))
  · exact bodyPost_thrown rfl (by rw [show Ps.insert (l.drop p) = .no c5 ts5 from by rw [Ps.insert, show Ps.want [105, 110, 116, 111] (l.drop p) = _ from HQ1.out]; show Ps.R.bind (Ps.name (l.drop q1)) _ = _; rw [HQ2.out]; show Ps.R.bind (if Ps.has [40] (l.drop q2) = true then _ else _) _ = _; rw [if_pos (show Ps.has [40] (l.drop q2) = true from HQ3.out)]; show Ps.R.bind (Ps.closed 12 Ps.name (l.drop q2)) _ = _; rw [HQ4.out]; show Ps.R.bind (Ps.want [118, 97, 108, 117, 101, 115] (l.drop q4)) _ = _; rw [show Ps.want [118, 97, 108, 117, 101, 115] (l.drop q4) = _ from HQ5.out]; rfl]; exact Ans.no ((HB4s.out.alloc _).st.trans hs5))
  · exact bodyPost_thrown rfl (by rw [show Ps.insert (l.drop p) = .no c4 ts4 from by rw [Ps.insert, show Ps.want [105, 110, 116, 111] (l.drop p) = _ from HQ1.out]; show Ps.R.bind (Ps.name (l.drop q1)) _ = _; rw [HQ2.out]; show Ps.R.bind (if Ps.has [40] (l.drop q2) = true then _ else _) _ = _; rw [if_pos (show Ps.has [40] (l.drop q2) = true from HQ3.out)]; show Ps.R.bind (Ps.closed 12 Ps.name (l.drop q2)) _ = _; rw [HQ4.out]; rfl]; exact Ans.no (HB3.out.st.trans hs4))
  · go_wp2_with (first
      | (refine wpList_load_row rfl 38 (.tmp 3) rfl w2.heap.size rfl _ _ _ _ HB6s.out.zx Tryz.underlying38 rfl (info_st _ _) ?_)
      | (refine wpList_store_row rfl 38 (.tmp 2) (.tmp 25) rfl w.heap.size _ rfl rfl 38 _ HB6s.out.zr (info_st _ _) ?ho ?h1 ?_; (case ho => rw [stC_size, stC_size]); (case h1 => exact stC_one HB6s.out.on)))
    refine bodyPost_ret (results_cell_row rfl _ _ w.heap.size _ _ (0, 0) _ rfl (setRow_heap _ _ _ _ _ _ HB6s.out.zr) Tryz.underlying38 rfl (info_st _ _)) rfl ?_
    exact HB6s.out.done (by rw [Ps.insert, show Ps.want [105, 110, 116, 111] (l.drop p) = _ from HQ1.out]; show Ps.R.bind (Ps.name (l.drop q1)) _ = _; rw [HQ2.out]; show Ps.R.bind (if Ps.has [40] (l.drop q2) = true then _ else _) _ = _; rw [if_neg (by rw [show Ps.has [40] (l.drop q2) = false from HQ3.out]; decide)]; show Ps.R.bind (Ps.want [118, 97, 108, 117, 101, 115] (l.drop q2)) _ = _; rw [show Ps.want [118, 97, 108, 117, 101, 115] (l.drop q2) = _ from HQ5.out]; show Ps.R.map (Ps.list 64 Ps.row (l.drop q5)) _ = _; rw [HQ6.out]; rfl)
  · exact bodyPost_thrown rfl (by rw [show Ps.insert (l.drop p) = .no c6 ts6 from by rw [Ps.insert, show Ps.want [105, 110, 116, 111] (l.drop p) = _ from HQ1.out]; show Ps.R.bind (Ps.name (l.drop q1)) _ = _; rw [HQ2.out]; show Ps.R.bind (if Ps.has [40] (l.drop q2) = true then _ else _) _ = _; rw [if_neg (by rw [show Ps.has [40] (l.drop q2) = false from HQ3.out]; decide)]; show Ps.R.bind (Ps.want [118, 97, 108, 117, 101, 115] (l.drop q2)) _ = _; rw [show Ps.want [118, 97, 108, 117, 101, 115] (l.drop q2) = _ from HQ5.out]; show Ps.R.map (Ps.list 64 Ps.row (l.drop q5)) _ = _; rw [HQ6.out]; rfl]; exact Ans.no (HB5.out.st.trans hs6))
  · exact bodyPost_thrown rfl (by rw [show Ps.insert (l.drop p) = .no c5 ts5 from by rw [Ps.insert, show Ps.want [105, 110, 116, 111] (l.drop p) = _ from HQ1.out]; show Ps.R.bind (Ps.name (l.drop q1)) _ = _; rw [HQ2.out]; show Ps.R.bind (if Ps.has [40] (l.drop q2) = true then _ else _) _ = _; rw [if_neg (by rw [show Ps.has [40] (l.drop q2) = false from HQ3.out]; decide)]; show Ps.R.bind (Ps.want [118, 97, 108, 117, 101, 115] (l.drop q2)) _ = _; rw [show Ps.want [118, 97, 108, 117, 101, 115] (l.drop q2) = _ from HQ5.out]; rfl]; exact Ans.no ((HB3.out.alloc _).st.trans hs5))
  · exact bodyPost_thrown rfl (by rw [show Ps.insert (l.drop p) = .no c2 ts2 from by rw [Ps.insert, show Ps.want [105, 110, 116, 111] (l.drop p) = _ from HQ1.out]; show Ps.R.bind (Ps.name (l.drop q1)) _ = _; rw [HQ2.out]; rfl]; exact Ans.no ((((Steps.refl B w).alloc _).alloc _).trans (hs1.trans hs2)))
  · exact bodyPost_thrown rfl (by rw [show Ps.insert (l.drop p) = .no c1 ts1 from by rw [Ps.insert, show Ps.want [105, 110, 116, 111] (l.drop p) = _ from HQ1.out]; rfl]; exact Ans.no ((((Steps.refl B w).alloc _).alloc _).trans hs1))
end Go.Proofs.YtedamaccflhmfaaGreatDoor
