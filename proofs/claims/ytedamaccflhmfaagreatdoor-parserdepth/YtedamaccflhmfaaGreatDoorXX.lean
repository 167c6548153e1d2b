/-
  Package parser: create. .. and what follows from it.
-/
import Derived.Test.YtedamaccflhmfaaGreatDoorPsSf
namespace Go.Proofs.YtedamaccflhmfaaGreatDoor
open Go.RowKit
attribute [local go_sem ↓] Go.wp_at_zero Go.wp_at_succ

set_option maxRecDepth 100000 in
set_option maxHeartbeats 1600000 in
theorem create_any (w : World) (B : Nat) (l : List Lx.Tk) (p len : Nat) (h : Rd w B l p len 0) (htb : ReadsS 134 B l len Ps.table) : Calls Tryz.prog 77 #[.pointer (some ⟨B, 0, none⟩)] w (Ans stIs B l len 0 w p (Ps.create (l.drop p))) := by
  have TK := hide (takes_any B l len 0)
  have HS := hide (hass_any B l len 0)
  have NM := hide (named_any B l len 0)
  have WN := hide (wanted_any B l len 0)
  have TB := hide htb
  have LN := hide (names_any B l len 4)
  have H0 := hide h
  have hne : w.heap.size ≠ B := ne_of_lt' h.lt
  have HB := hide h.lt
  clear h
  go_enter Tryz.func77, Tryz.ntmps77
  go_upto_region 4 with (first
    | (go_at_call 50; refine (TK.out _ _ _ HR2.out).mono ?_; rintro e w3 (⟨h3, rfl, hr3, hs3⟩ | ⟨h3, rfl, hr3, hs3⟩); (have HQ3 := hide h3; have Z3 := hs3.keeps Z2 hne; have HB3 := hide (Bld.start (p := p) hr3 ((step_alloc B w _).trans (hs2.trans hs3)) (show _ = some (Obj.cells (stC { kind := 0 } noSls).toArray 38 (0, 0)) from Z3) (by omega) HB.out (Nat.le_refl _) 6 [] [] true 0 (cs := #[.int .u8 6, .string ⟨#[]⟩, .string ⟨#[]⟩, .slice none 0 0, .slice none 0 0, .bool true, .slice none 0 0, .slice none 0 0, .slice none 0 0, .slice none 0 0, .int .u8 0, .int .u8 0, .int .i64 0, .string ⟨#[]⟩, .string ⟨#[]⟩, .string ⟨#[]⟩, .int .i64 0, .int .u8 0, .slice none 0 0, .slice none 0 0, .slice none 0 0, .int .i64 0, .slice none 0 0]) rfl rfl); clear h3 hr3); rotate_left; (have HQ3 := hide h3; have Z3 := hs3.keeps Z2 hne; have HB3 := hide (Bld.start (p := p) hr3 ((step_alloc B w _).trans (hs2.trans hs3)) (show _ = some (Obj.cells (stC { kind := 0 } noSls).toArray 38 (0, 0)) from Z3) (by omega) HB.out (Nat.le_refl _) 6 [] [] false 0 (cs := #[.int .u8 6, .string ⟨#[]⟩, .string ⟨#[]⟩, .slice none 0 0, .slice none 0 0, .bool false, .slice none 0 0, .slice none 0 0, .slice none 0 0, .slice none 0 0, .int .u8 0, .int .u8 0, .int .i64 0, .string ⟨#[]⟩, .string ⟨#[]⟩, .string ⟨#[]⟩, .int .i64 0, .int .u8 0, .slice none 0 0, .slice none 0 0, .slice none 0 0, .int .i64 0, .slice none 0 0]) rfl rfl); clear h3 hr3))
    | (go_at_call 50; refine (TK.out _ _ _ (H0.out.alloc _)).mono ?_; rintro e w2 (⟨h2, rfl, hr2, hs2⟩ | ⟨h2, rfl, hr2, hs2⟩) <;> (have HR2 := hide hr2; have HQ2 := hide h2; have Z2 := hs2.keeps (heap_new rfl) hne; clear hr2 h2))
    | (go_at_call 134; refine (TB.out _ _ HR2.out).mono ?_; rintro e wS hA; rcases hA.elim with ⟨sx, qx, V, hq, rfl, hv, hpx, hrx, hsx⟩ | ⟨cx, tsx, hq, rfl, hsx⟩ <;> (have HQX := hide hq; clear hq hA); have HRX := hide hrx; obtain ⟨Sx, rfl, hstx⟩ := hv; have HSX := hide hstx; have ZX := hsx.keeps Z2 hne; have hlo := (show w.heap.size + 1 ≤ w2.heap.size from (Array.getElem?_eq_some_iff.1 Z2).1); clear hrx hstx)
    | (refine wpList_store_row rfl 38 (.tmp 3) (.tmp 10) rfl w3.heap.size _ rfl rfl 38 _ (heap_new rfl) ?hi ?ho ?h1 ?_; (case hi => exact info_stmt); (case ho => rfl); (case h1 => simp [Value.oneCell']); rw [alloc_row rfl])
    | (refine wpList_store_row rfl 38 (.tmp 2) (.tmp 7) rfl w.heap.size _ rfl rfl 38 _ ZX (info_st _ _) ?ho ?h1 ?_; (case ho => rw [stC_size]; rfl); (case h1 => exact stC_one HSX.out)))
  · refine bodyPost_ret (results_cell_row rfl _ _ w.heap.size _ _ (0, 0) _ rfl (setRow_heap _ _ _ _ _ _ ZX) Tryz.underlying38 rfl (info_st _ _)) rfl ?_
    exact st_done ((step_alloc B w _).trans (hs2.trans hsx)) HRX.out HSX.out (Nat.le_refl _) HB.out hlo (by omega) (by rw [Ps.create, if_pos (show Ps.has [116, 97, 98, 108, 101] (l.drop p) = true from HQ2.out), List.tail_drop]; exact HQX.out)
  · exact bodyPost_thrown rfl (by rw [show Ps.create (l.drop p) = .no cx tsx from by rw [Ps.create, if_pos (show Ps.has [116, 97, 98, 108, 101] (l.drop p) = true from HQ2.out), List.tail_drop]; exact HQX.out]; exact Ans.no ((step_alloc B w _).trans (hs2.trans hsx)))
  · go_upto_region 9 with (first
      | (go_at_call 79; refine (WN.out _ _ _ _ (HB5s.out.alloc _).rd (heap_new (by simp [World.setCell]))).mono ?_; rintro e w6 hA; rcases hA.elim with ⟨n6, q6, V, hq, rfl, rfl, hp6, hr6, hs6⟩ | ⟨c6, ts6, hq, rfl, hs6⟩ <;> (have HQ6 := hide hq; clear hq hA); have HB6 := hide ((HB5s.out.alloc _).go hs6 hr6 hp6); clear hr6)
      | (go_at_call 79; refine (WN.out _ _ _ _ (HB3.out.alloc _).rd (heap_new (by simp))).mono ?_; rintro e w4 hA; rcases hA.elim with ⟨n4, q4, V, hq, rfl, rfl, hp4, hr4, hs4⟩ | ⟨c4, ts4, hq, rfl, hs4⟩ <;> (have HQ4 := hide hq; clear hq hA); have HB4 := hide ((HB3.out.alloc _).go hs4 hr4 hp4); clear hr4)
      | (go_at_call 80; refine (NM.out _ _ HB6.out.rd).mono ?_; rintro e w7 hA; rcases hA.elim with ⟨n7, q7, V, hq, rfl, rfl, hp7, hr7, hs7⟩ | ⟨c7, ts7, hq, rfl, hs7⟩ <;> (have HQ7 := hide hq; clear hq hA); have HB7 := hide (HB6.out.go hs7 hr7 hp7); have HB7s := hide (HB7.out.set_tb n7); obtain ⟨yc7, yf7⟩ := HB7.out.cell_tb; clear hr7)
      | (go_at_call 80; refine (NM.out _ _ HB4.out.rd).mono ?_; rintro e w5 hA; rcases hA.elim with ⟨n5, q5, V, hq, rfl, rfl, hp5, hr5, hs5⟩ | ⟨c5, ts5, hq, rfl, hs5⟩ <;> (have HQ5 := hide hq; clear hq hA); have HB5 := hide (HB4.out.go hs5 hr5 hp5); have HB5s := hide (HB5.out.set_nm n5); obtain ⟨yc5, yf5⟩ := HB5.out.cell_nm; clear hr5)
      | (go_at_call 129; refine (LN.out _ _ HB7s.out.rd).mono ?_; rintro e w8 hA; rcases hA.elim with ⟨xs8, q8, V, hq, rfl, hv, hp8, hr8, hs8⟩ | ⟨c8, ts8, hq, rfl, hs8⟩ <;> (have HQ8 := hide hq; clear hq hA); have HB8 := hide (HB7s.out.go hs8 hr8 hp8); obtain ⟨sa8, sc8, rfl, hv2⟩ := list_laid hv; have HV8 := hide (hv2.keep (Kept.refl _ _) HB7s.out.xlt cod_pos.2.1); have HB8s := hide (HB8.out.set_names HV8.out); obtain ⟨yc8, yf8⟩ := HB8.out.cell_names; clear hr8 hv hv2))
    · go_wp2_with (first
        | (refine wpList_load_row rfl 38 (.tmp 3) rfl w3.heap.size rfl _ _ _ _ HB8s.out.zx Tryz.underlying38 rfl (info_st _ _) ?_)
        | (refine wpList_store_row rfl 38 (.tmp 2) (.tmp 28) rfl w.heap.size _ rfl rfl 38 _ HB8s.out.zr (info_st _ _) ?ho ?h1 ?_; (case ho => rw [stC_size, stC_size]); (case h1 => exact stC_one HB8s.out.on)))
      refine bodyPost_ret (results_cell_row rfl _ _ w.heap.size _ _ (0, 0) _ rfl (setRow_heap _ _ _ _ _ _ HB8s.out.zr) Tryz.underlying38 rfl (info_st _ _)) rfl ?_
      exact HB8s.out.done (by rw [Ps.create, if_neg (by rw [show Ps.has [116, 97, 98, 108, 101] (l.drop p) = false from HQ2.out]; decide), Ps.index, if_neg (by rw [show Ps.has [117, 110, 105, 113, 117, 101] (l.drop p) = false from HQ3.out]; decide)]; show Ps.R.bind (Ps.want [105, 110, 100, 101, 120] (l.drop p)) _ = _; rw [show Ps.want [105, 110, 100, 101, 120] (l.drop p) = _ from HQ4.out]; show Ps.R.bind (Ps.name (l.drop q4)) _ = _; rw [HQ5.out]; show Ps.R.bind (Ps.want [111, 110] (l.drop q5)) _ = _; rw [show Ps.want [111, 110] (l.drop q5) = _ from HQ6.out]; show Ps.R.bind (Ps.name (l.drop q6)) _ = _; rw [HQ7.out]; show Ps.R.map (Ps.closed 4 Ps.name (l.drop q7)) _ = _; rw [HQ8.out]; rfl)
    · exact bodyPost_thrown rfl (by rw [show Ps.create (l.drop p) = .no c8 ts8 from by rw [Ps.create, if_neg (by rw [show Ps.has [116, 97, 98, 108, 101] (l.drop p) = false from HQ2.out]; decide), Ps.index, if_neg (by rw [show Ps.has [117, 110, 105, 113, 117, 101] (l.drop p) = false from HQ3.out]; decide)]; show Ps.R.bind (Ps.want [105, 110, 100, 101, 120] (l.drop p)) _ = _; rw [show Ps.want [105, 110, 100, 101, 120] (l.drop p) = _ from HQ4.out]; show Ps.R.bind (Ps.name (l.drop q4)) _ = _; rw [HQ5.out]; show Ps.R.bind (Ps.want [111, 110] (l.drop q5)) _ = _; rw [show Ps.want [111, 110] (l.drop q5) = _ from HQ6.out]; show Ps.R.bind (Ps.name (l.drop q6)) _ = _; rw [HQ7.out]; show Ps.R.map (Ps.closed 4 Ps.name (l.drop q7)) _ = _; rw [HQ8.out]; rfl]; exact Ans.no (HB7s.out.st.trans hs8))
    · exact bodyPost_thrown rfl (by rw [show Ps.create (l.drop p) = .no c7 ts7 from by rw [Ps.create, if_neg (by rw [show Ps.has [116, 97, 98, 108, 101] (l.drop p) = false from HQ2.out]; decide), Ps.index, if_neg (by rw [show Ps.has [117, 110, 105, 113, 117, 101] (l.drop p) = false from HQ3.out]; decide)]; show Ps.R.bind (Ps.want [105, 110, 100, 101, 120] (l.drop p)) _ = _; rw [show Ps.want [105, 110, 100, 101, 120] (l.drop p) = _ from HQ4.out]; show Ps.R.bind (Ps.name (l.drop q4)) _ = _; rw [HQ5.out]; show Ps.R.bind (Ps.want [111, 110] (l.drop q5)) _ = _; rw [show Ps.want [111, 110] (l.drop q5) = _ from HQ6.out]; show Ps.R.bind (Ps.name (l.drop q6)) _ = _; rw [HQ7.out]; rfl]; exact Ans.no (HB6.out.st.trans hs7))
    · exact bodyPost_thrown rfl (by rw [show Ps.create (l.drop p) = .no c6 ts6 from by rw [Ps.create, if_neg (by rw [show Ps.has [116, 97, 98, 108, 101] (l.drop p) = false from HQ2.out]; decide), Ps.index, if_neg (by rw [show Ps.has [117, 110, 105, 113, 117, 101] (l.drop p) = false from HQ3.out]; decide)]; show Ps.R.bind (Ps.want [105, 110, 100, 101, 120] (l.drop p)) _ = _; rw [show Ps.want [105, 110, 100, 101, 120] (l.drop p) = _ from HQ4.out]; show Ps.R.bind (Ps.name (l.drop q4)) _ = _; rw [HQ5.out]; show Ps.R.bind (Ps.want [111, 110] (l.drop q5)) _ = _; rw [show Ps.want [111, 110] (l.drop q5) = _ from HQ6.out]; rfl]; exact Ans.no ((HB5s.out.alloc _).st.trans hs6))
    · exact bodyPost_thrown rfl (by rw [show Ps.create (l.drop p) = .no c5 ts5 from by rw [Ps.create, if_neg (by rw [show Ps.has [116, 97, 98, 108, 101] (l.drop p) = false from HQ2.out]; decide), Ps.index, if_neg (by rw [show Ps.has [117, 110, 105, 113, 117, 101] (l.drop p) = false from HQ3.out]; decide)]; show Ps.R.bind (Ps.want [105, 110, 100, 101, 120] (l.drop p)) _ = _; rw [show Ps.want [105, 110, 100, 101, 120] (l.drop p) = _ from HQ4.out]; show Ps.R.bind (Ps.name (l.drop q4)) _ = _; rw [HQ5.out]; rfl]; exact Ans.no (HB4.out.st.trans hs5))
    · exact bodyPost_thrown rfl (by rw [show Ps.create (l.drop p) = .no c4 ts4 from by rw [Ps.create, if_neg (by rw [show Ps.has [116, 97, 98, 108, 101] (l.drop p) = false from HQ2.out]; decide), Ps.index, if_neg (by rw [show Ps.has [117, 110, 105, 113, 117, 101] (l.drop p) = false from HQ3.out]; decide)]; show Ps.R.bind (Ps.want [105, 110, 100, 101, 120] (l.drop p)) _ = _; rw [show Ps.want [105, 110, 100, 101, 120] (l.drop p) = _ from HQ4.out]; rfl]; exact Ans.no ((HB3.out.alloc _).st.trans hs4))
  · go_upto_region 9 with (first
      | (go_at_call 79; refine (WN.out _ _ _ _ (HB5s.out.alloc _).rd (heap_new (by simp [World.setCell]))).mono ?_; rintro e w6 hA; rcases hA.elim with ⟨n6, q6, V, hq, rfl, rfl, hp6, hr6, hs6⟩ | ⟨c6, ts6, hq, rfl, hs6⟩ <;> (have HQ6 := hide hq; clear hq hA); have HB6 := hide ((HB5s.out.alloc _).go hs6 hr6 hp6); clear hr6)
      | (go_at_call 79; refine (WN.out _ _ _ _ (HB3.out.alloc _).rd (heap_new (by simp))).mono ?_; rintro e w4 hA; rcases hA.elim with ⟨n4, q4, V, hq, rfl, rfl, hp4, hr4, hs4⟩ | ⟨c4, ts4, hq, rfl, hs4⟩ <;> (have HQ4 := hide hq; clear hq hA); have HB4 := hide ((HB3.out.alloc _).go hs4 hr4 hp4); clear hr4)
      | (go_at_call 80; refine (NM.out _ _ HB6.out.rd).mono ?_; rintro e w7 hA; rcases hA.elim with ⟨n7, q7, V, hq, rfl, rfl, hp7, hr7, hs7⟩ | ⟨c7, ts7, hq, rfl, hs7⟩ <;> (have HQ7 := hide hq; clear hq hA); have HB7 := hide (HB6.out.go hs7 hr7 hp7); have HB7s := hide (HB7.out.set_tb n7); obtain ⟨yc7, yf7⟩ := HB7.out.cell_tb; clear hr7)
      | (go_at_call 80; refine (NM.out _ _ HB4.out.rd).mono ?_; rintro e w5 hA; rcases hA.elim with ⟨n5, q5, V, hq, rfl, rfl, hp5, hr5, hs5⟩ | ⟨c5, ts5, hq, rfl, hs5⟩ <;> (have HQ5 := hide hq; clear hq hA); have HB5 := hide (HB4.out.go hs5 hr5 hp5); have HB5s := hide (HB5.out.set_nm n5); obtain ⟨yc5, yf5⟩ := HB5.out.cell_nm; clear hr5)
      | (go_at_call 129; refine (LN.out _ _ HB7s.out.rd).mono ?_; rintro e w8 hA; rcases hA.elim with ⟨xs8, q8, V, hq, rfl, hv, hp8, hr8, hs8⟩ | ⟨c8, ts8, hq, rfl, hs8⟩ <;> (have HQ8 := hide hq; clear hq hA); have HB8 := hide (HB7s.out.go hs8 hr8 hp8); obtain ⟨sa8, sc8, rfl, hv2⟩ := list_laid hv; have HV8 := hide (hv2.keep (Kept.refl _ _) HB7s.out.xlt cod_pos.2.1); have HB8s := hide (HB8.out.set_names HV8.out); obtain ⟨yc8, yf8⟩ := HB8.out.cell_names; clear hr8 hv hv2))
    · go_wp2_with (first
        | (refine wpList_load_row rfl 38 (.tmp 3) rfl w3.heap.size rfl _ _ _ _ HB8s.out.zx Tryz.underlying38 rfl (info_st _ _) ?_)
        | (refine wpList_store_row rfl 38 (.tmp 2) (.tmp 28) rfl w.heap.size _ rfl rfl 38 _ HB8s.out.zr (info_st _ _) ?ho ?h1 ?_; (case ho => rw [stC_size, stC_size]); (case h1 => exact stC_one HB8s.out.on)))
      refine bodyPost_ret (results_cell_row rfl _ _ w.heap.size _ _ (0, 0) _ rfl (setRow_heap _ _ _ _ _ _ HB8s.out.zr) Tryz.underlying38 rfl (info_st _ _)) rfl ?_
      exact HB8s.out.done (by rw [Ps.create, if_neg (by rw [show Ps.has [116, 97, 98, 108, 101] (l.drop p) = false from HQ2.out]; decide), Ps.index, if_pos (show Ps.has [117, 110, 105, 113, 117, 101] (l.drop p) = true from HQ3.out), List.tail_drop]; show Ps.R.bind (Ps.want [105, 110, 100, 101, 120] (l.drop (p + 1))) _ = _; rw [show Ps.want [105, 110, 100, 101, 120] (l.drop (p + 1)) = _ from HQ4.out]; show Ps.R.bind (Ps.name (l.drop q4)) _ = _; rw [HQ5.out]; show Ps.R.bind (Ps.want [111, 110] (l.drop q5)) _ = _; rw [show Ps.want [111, 110] (l.drop q5) = _ from HQ6.out]; show Ps.R.bind (Ps.name (l.drop q6)) _ = _; rw [HQ7.out]; show Ps.R.map (Ps.closed 4 Ps.name (l.drop q7)) _ = _; rw [HQ8.out]; rfl)
    · exact bodyPost_thrown rfl (by rw [show Ps.create (l.drop p) = .no c8 ts8 from by rw [Ps.create, if_neg (by rw [show Ps.has [116, 97, 98, 108, 101] (l.drop p) = false from HQ2.out]; decide), Ps.index, if_pos (show Ps.has [117, 110, 105, 113, 117, 101] (l.drop p) = true from HQ3.out), List.tail_drop]; show Ps.R.bind (Ps.want [105, 110, 100, 101, 120] (l.drop (p + 1))) _ = _; rw [show Ps.want [105, 110, 100, 101, 120] (l.drop (p + 1)) = _ from HQ4.out]; show Ps.R.bind (Ps.name (l.drop q4)) _ = _; rw [HQ5.out]; show Ps.R.bind (Ps.want [111, 110] (l.drop q5)) _ = _; rw [show Ps.want [111, 110] (l.drop q5) = _ from HQ6.out]; show Ps.R.bind (Ps.name (l.drop q6)) _ = _; rw [HQ7.out]; show Ps.R.map (Ps.closed 4 Ps.name (l.drop q7)) _ = _; rw [HQ8.out]; rfl]; exact Ans.no (HB7s.out.st.trans hs8))
    · exact bodyPost_thrown rfl (by rw [show Ps.create (l.drop p) = .no c7 ts7 from by rw [Ps.create, if_neg (by rw [show Ps.has [116, 97, 98, 108, 101] (l.drop p) = false from HQ2.out]; decide), Ps.index, if_pos (show Ps.has [117, 110, 105, 113, 117, 101] (l.drop p) = true from HQ3.out), List.tail_drop]; show Ps.R.bind (Ps.want [105, 110, 100, 101, 120] (l.drop (p + 1))) _ = _; rw [show Ps.want [105, 110, 100, 101, 120] (l.drop (p + 1)) = _ from HQ4.out]; show Ps.R.bind (Ps.name (l.drop q4)) _ = _; rw [HQ5.out]; show Ps.R.bind (Ps.want [111, 110] (l.drop q5)) _ = _; rw [show Ps.want [111, 110] (l.drop q5) = _ from HQ6.out]; show Ps.R.bind (Ps.name (l.drop q6)) _ = _; rw [HQ7.out]; rfl]; exact Ans.no (HB6.out.st.trans hs7))
    · exact bodyPost_thrown rfl (by rw [show Ps.create (l.drop p) = .no c6 ts6 from by rw [Ps.create, if_neg (by rw [show Ps.has [116, 97, 98, 108, 101] (l.drop p) = false from HQ2.out]; decide), Ps.index, if_pos (show Ps.has [117, 110, 105, 113, 117, 101] (l.drop p) = true from HQ3.out), List.tail_drop]; show Ps.R.bind (Ps.want [105, 110, 100, 101, 120] (l.drop (p + 1))) _ = _; rw [show Ps.want [105, 110, 100, 101, 120] (l.drop (p + 1)) = _ from HQ4.out]; show Ps.R.bind (Ps.name (l.drop q4)) _ = _; rw [HQ5.out]; show Ps.R.bind (Ps.want [111, 110] (l.drop q5)) _ = _; rw [show Ps.want [111, 110] (l.drop q5) = _ from HQ6.out]; rfl]; exact Ans.no ((HB5s.out.alloc _).st.trans hs6))
    · exact bodyPost_thrown rfl (by rw [show Ps.create (l.drop p) = .no c5 ts5 from by rw [Ps.create, if_neg (by rw [show Ps.has [116, 97, 98, 108, 101] (l.drop p) = false from HQ2.out]; decide), Ps.index, if_pos (show Ps.has [117, 110, 105, 113, 117, 101] (l.drop p) = true from HQ3.out), List.tail_drop]; show Ps.R.bind (Ps.want [105, 110, 100, 101, 120] (l.drop (p + 1))) _ = _; rw [show Ps.want [105, 110, 100, 101, 120] (l.drop (p + 1)) = _ from HQ4.out]; show Ps.R.bind (Ps.name (l.drop q4)) _ = _; rw [HQ5.out]; rfl]; exact Ans.no (HB4.out.st.trans hs5))
    · exact bodyPost_thrown rfl (by rw [show Ps.create (l.drop p) = .no c4 ts4 from by rw [Ps.create, if_neg (by rw [show Ps.has [116, 97, 98, 108, 101] (l.drop p) = false from HQ2.out]; decide), Ps.index, if_pos (show Ps.has [117, 110, 105, 113, 117, 101] (l.drop p) = true from HQ3.out), List.tail_drop]; show Ps.R.bind (Ps.want [105, 110, 100, 101, 120] (l.drop (p + 1))) _ = _; rw [show Ps.want [105, 110, 100, 101, 120] (l.drop (p + 1)) = _ from HQ4.out]; rfl]; exact Ans.no ((HB3.out.alloc _).st.trans hs4))
end Go.Proofs.YtedamaccflhmfaaGreatDoor
namespace Go.Proofs.YtedamaccflhmfaaGreatDoor
open Go.RowKit
attribute [local go_sem ↓] Go.wp_at_zero Go.wp_at_succ

/-- The columns behind a comma. -/
def inner (f : Nat) (xs : List Ps.Col) (ts : List Lx.Tk) : Ps.R (List Ps.Col) := if Ps.has [112, 114, 105, 109, 97, 114, 121] ts then .ok xs ts.tail else if Ps.room xs.length 12 ts then (Ps.define ts).bind fun c ts => Ps.defines f (xs ++ [c]) ts else .no 3 ts
/-- What stands behind PRIMARY. -/
def tabK (n : List UInt8) (xs : List Ps.Col) (ts : List Lx.Tk) : Ps.R Ps.St := (Ps.want [107, 101, 121] ts).bind fun _ ts => (Ps.closed 4 Ps.name ts).bind fun k ts => (Ps.want [41] ts).map fun _ => { kind := 5, nm := n, cols := xs, key := k }
theorem want_at {s : List UInt8} {l : List Lx.Tk} {q q' : Nat} {u : Unit} (h : Ps.want s (l.drop q) = .ok u (l.drop q')) (hl : q' ≤ l.length) : q < l.length ∧ q' = q + 1 := by
  unfold Ps.want at h
  split at h
  · rename_i hh
    injection h with _ h2
    rw [List.tail_drop] at h2
    have h3 := has_lt hh
    have h4 := congrArg List.length h2
    rw [List.length_drop, List.length_drop] at h4
    omega
  · cases h
theorem define_at {l : List Lx.Tk} {q : Nat} {c : Ps.Col} {ts : List Lx.Tk} (h : Ps.define (l.drop q) = .ok c ts) : q < l.length := by
  by_cases hq : q < l.length
  · exact hq
  · rw [List.drop_of_length_le (by omega)] at h; cases h
theorem defines_ok {f : Nat} {xs : List Ps.Col} {l : List Lx.Tk} {q q' : Nat} {u : Unit} (h : Ps.want [44] (l.drop q) = .ok u (l.drop q')) : Ps.defines (f + 1) xs (l.drop q) = inner f xs (l.drop q') := by
  rw [Ps.defines, h]; rfl
theorem defines_no {f : Nat} {xs : List Ps.Col} {l : List Lx.Tk} {q : Nat} {c : Int} {ts : List Lx.Tk} (h : Ps.want [44] (l.drop q) = .no c ts) : Ps.defines (f + 1) xs (l.drop q) = .no c ts := by
  rw [Ps.defines, h]; rfl

/-- A table on its way. -/
structure TbS (w : World) (B : Nat) (l : List Lx.Tk) (len p X : Nat) (n : List UInt8) (wc : World) (q g cap ne : Nat) (xs : List Ps.Col) : Prop where
  rd : Rd wc B l q len 0
  st : Steps B w wc
  zr : wc.heap[w.heap.size]? = some (.cells (stC { kind := 0 } noSls).toArray 38 (0, 0))
  zx : wc.heap[X]? = some (.cells (stC { kind := 5, nm := n } { noSls with cols := .slice (some ⟨g, 0, none⟩) ne cap }).toArray 38 (0, 0))
  ow : Own colCod 97 3 (X + 1) wc xs g cap ne
  pq : p ≤ q
  br : B < w.heap.size
  rx : w.heap.size < X
theorem TbS.go {w : World} {B : Nat} {l : List Lx.Tk} {len p X : Nat} {n : List UInt8} {wc w' : World} {q q' g cap ne : Nat} {xs : List Ps.Col} (h : TbS w B l len p X n wc q g cap ne xs) (hs : Steps B wc w') (hr : Rd w' B l q' len 0) (hq : q ≤ q') : TbS w B l len p X n w' q' g cap ne xs := by
  have h1 := h.br; have h2 := h.rx
  exact ⟨hr, h.st.trans hs, hs.keeps h.zr (by omega), hs.keeps h.zx (by omega), h.ow.steps hs (by omega), Nat.le_trans h.pq hq, h1, h2⟩
theorem TbS.alloc {w : World} {B : Nat} {l : List Lx.Tk} {len p X : Nat} {n : List UInt8} {wc : World} {q g cap ne : Nat} {xs : List Ps.Col} (h : TbS w B l len p X n wc q g cap ne xs) (o : Obj) : TbS w B l len p X n (wc.alloc o) q g cap ne xs := h.go (step_alloc B wc o) (h.rd.alloc o) (Nat.le_refl _)
theorem TbS.cell {w : World} {B : Nat} {l : List Lx.Tk} {len p X : Nat} {n : List UInt8} {wc : World} {q g cap ne : Nat} {xs : List Ps.Col} (h : TbS w B l len p X n wc q g cap ne xs) : wc.cell? ⟨X, 3, none⟩ = some (.slice (some ⟨g, 0, none⟩) ne cap) ∧ wc.frozen? ⟨X, 3, none⟩ = false :=
  ⟨Joins.cell_of_block h.zx 3, Joins.unfrozen_of_block h.zx 3⟩
theorem TbS.far {w : World} {B : Nat} {l : List Lx.Tk} {len p X : Nat} {n : List UInt8} {wc w' : World} {q g cap ne : Nat} {xs : List Ps.Col} (h : TbS w B l len p X n wc q g cap ne xs) (hG : wc.grownBy w' (some g)) : w'.heap[X]? = some (.cells (stC { kind := 5, nm := n } { noSls with cols := .slice (some ⟨g, 0, none⟩) ne cap }).toArray 38 (0, 0)) := by
  have hg := h.ow.ge
  exact (hG.block X (Array.getElem?_eq_some_iff.1 h.zx).1 (fun e => by injection e with e; omega)).trans h.zx
theorem TbS.cell_far {w : World} {B : Nat} {l : List Lx.Tk} {len p X : Nat} {n : List UInt8} {wc w' : World} {q g cap ne : Nat} {xs : List Ps.Col} (h : TbS w B l len p X n wc q g cap ne xs) (hG : wc.grownBy w' (some g)) : w'.cell? ⟨X, 3, none⟩ = some (.slice (some ⟨g, 0, none⟩) ne cap) ∧ w'.frozen? ⟨X, 3, none⟩ = false :=
  ⟨Joins.cell_of_block (h.far hG) 3, Joins.unfrozen_of_block (h.far hG) 3⟩
theorem TbS.put {w : World} {B : Nat} {l : List Lx.Tk} {len p X : Nat} {n : List UInt8} {wc w' : World} {q g cap ne : Nat} {xs : List Ps.Col} (h : TbS w B l len p X n wc q g cap ne xs) (hG : wc.grownBy w' (some g)) {g2 cap2 ne2 : Nat} {ys : List Ps.Col} (hO : Own colCod 97 3 (X + 1) w' ys g2 cap2 ne2) : TbS w B l len p X n (w'.setCell ⟨X, 3, none⟩ (.slice (some ⟨g2, 0, none⟩) ne2 cap2)) q g2 cap2 ne2 ys := by
  have h1 := h.br; have h2 := h.rx; have hg := h.ow.ge
  have hr : w'.heap[w.heap.size]? = some (.cells (stC { kind := 0 } noSls).toArray 38 (0, 0)) := (hG.block _ (Array.getElem?_eq_some_iff.1 h.zr).1 (fun e => by injection e with e; omega)).trans h.zr
  refine ⟨(h.rd.by hG (by omega)).keep ((Below.refl _ _).setCell (p := ⟨X, 3, none⟩) (show B + 1 ≤ X by omega) _), (h.st.by hG (by omega)).setCell (p := ⟨X, 3, none⟩) (.inl (show w.heap.size ≤ X by omega)) _, heap_set_other hr (by omega) _, ?_, ?_, h.pq, h1, h2⟩
  · exact (heap_set (h.far hG) _).trans rfl
  · exact hO.steps ((Steps.refl X w').setCell (p := ⟨X, 3, none⟩) (.inr rfl) _) (by omega)
theorem TbS.bld {w : World} {B : Nat} {l : List Lx.Tk} {len p X : Nat} {n : List UInt8} {wc : World} {q g cap ne : Nat} {xs : List Ps.Col} (h : TbS w B l len p X n wc q g cap ne xs) : Bld w B l len p w.heap.size X wc q { kind := 5, nm := n, cols := xs } { noSls with cols := .slice (some ⟨g, 0, none⟩) ne cap } :=
  ⟨h.rd, h.st, h.zr, h.zx, ⟨h.ow.list, nil_list _ _ _, nil_list _ _ _, nil_list _ _ _, nil_list _ _ _, nil_list _ _ _, nil_list _ _ _, nil_list _ _ _, nil_list _ _ _, zero_ex _ _⟩, h.pq, h.br, h.rx, Nat.le_refl _⟩
/-- The first column's list is stored. -/
theorem TbS.first {w : World} {B : Nat} {l : List Lx.Tk} {len p X : Nat} {n : List UInt8} {wc : World} {q : Nat} (h : Bld w B l len p w.heap.size X wc q { kind := 5, nm := n } noSls) (c : Ps.Col) {cs : Array Value} (hc : cs = #[.string ⟨c.nm.toArray⟩, .int .u8 c.kd, .bool c.nn]) : TbS w B l len p X n ((wc.alloc (.cells cs 97)).setCell ⟨X, 3, none⟩ (.slice (some ⟨wc.heap.size, 0, none⟩) 1 1)) q wc.heap.size 1 1 [c] := by
  have h0 := h.alloc (.cells cs 97)
  have h1 := h.br; have h2 := h.rx; have h3 := h.xlt
  have hO : Own colCod 97 3 (X + 1) (wc.alloc (.cells cs 97)) [c] wc.heap.size 1 1 := Own.one (S := nilS) (by rw [hc]; rfl) (by rw [hc]; rfl) h3 trivial
  refine ⟨h0.rd.keep ((Below.refl _ _).setCell (p := ⟨X, 3, none⟩) (show B + 1 ≤ X by omega) _), h0.st.setCell (p := ⟨X, 3, none⟩) (.inl (show w.heap.size ≤ X by omega)) _, heap_set_other h0.zr (by omega) _, ?_, ?_, h.pq, h1, h2⟩
  · exact (heap_set h0.zx _).trans rfl
  · exact hO.steps ((Steps.refl X _).setCell (p := ⟨X, 3, none⟩) (.inr rfl) _) (by omega)
/-- A column more, at a step of a region that draws its order. -/
theorem step_col {ops : Array Oper} {o : Oper} {a : Act} {K : Act → World → Prop} {Q : Exit → Act → World → Prop} {E : Prop} {w : World} (hgd : o.guard = none) (s x : Operand) (hop : o.op = .call { callee := .builtin .append, args := #[s, x], argTypes := #[23, 23] })
    (base : Nat) (xs : List Ps.Col) (g cap n : Nat) (hs : a.eval s = .slice (some ⟨g, 0, none⟩) n cap) (hown : Own colCod 97 3 base w xs g cap n)
    (b c : Nat) (el : Ps.Col) (cs : Array Value) (hx : a.eval x = .slice (some ⟨b, 0, none⟩) 1 c) (hb : w.heap[b]? = some (.cells cs 97 (0, 0))) (hc : cs = #[.string ⟨el.nm.toArray⟩, .int .u8 el.kd, .bool el.nn]) (hn : n ≤ 70000) (hbase : base ≤ w.heap.size)
    (h : ∀ g' cap' w', Own colCod 97 3 base w' (xs ++ [el]) g' cap' (n + 1) → w.grownBy w' (some g) → K (a.put o.dst (.slice (some ⟨g', 0, none⟩) (n + 1) cap')) w') :
    if Region.wanted o (yielded ops a.tmps) = true then Oper.wp Tryz.prog o a w K Q else E := by
  obtain ⟨i0, hi, hz0, hz1, hz2⟩ := info_parts infoE_col
  obtain ⟨⟨c0, ho, hl⟩, hl0, hg0⟩ := hown
  refine step_append_lies w hgd s x 23 hop base 97 i0 _ 3 24 Tryz.underlying23 hi hz0 hz1 hz2 rfl (by decide) _ _ c0 hs ho ⟨b, 0, none⟩ 1 c cs.toList hx (by rw [hc]; rfl) (fun j u hj => ?_) (fun u hu => ?_) (by omega) (by unfold maxLen; omega) (by have : (n + 1) * 24 ≤ 70001 * 24 := Nat.mul_le_mul (by omega) (Nat.le_refl _); omega) hbase _ rfl ?_
  · rw [show (⟨b, 0, none⟩ : Addr).add j = ⟨b, j, none⟩ from by unfold Addr.add; split <;> simp_all, Joins.cell_of_block hb j]
    simpa using hj
  · rw [hc] at hu
    simp only [List.mem_cons, List.not_mem_nil, or_false] at hu
    rcases hu with rfl | rfl | rfl <;> rfl
  · intro g' cap' w' h2 h3 h4 h5
    have hge : base ≤ g' := by
      rcases h4 with h4 | h4
      · injection h4 with h4; have e2 : g = g' := h4; omega
      · omega
    have hgg : g' = g ∨ w.heap.size ≤ g' := by
      rcases h4 with h4 | h4
      · injection h4 with h4; exact .inl (show g = g' from h4).symm
      · exact .inr (by omega)
    have hkk : Kept (fun b => base ≤ b ∧ b ≠ g) w w' := fun k hk hlt => h3.block k hlt (fun e => hk.2 (by injection e))
    have hqq : ∀ k, (base ≤ k ∧ k ≠ g) → k < w.heap.size → (base ≤ k ∧ k ≠ g') := fun k hk hlt => ⟨hk.1, by rcases hgg with e | e <;> omega⟩
    refine h g' cap' w' ⟨⟨c0 ++ cs.toList, h2, ?_⟩, by rw [List.length_append, hl0]; rfl, hge⟩ h3
    have := colCod.lies_snoc (a := el) (S := nilS) trivial (colCod.lies_keep hkk hqq hl)
    rw [hc]
    exact this

set_option maxRecDepth 100000 in
set_option maxHeartbeats 1600000 in
theorem table_any (w : World) (B : Nat) (l : List Lx.Tk) (p len : Nat) (h : Rd w B l p len 0) : Calls Tryz.prog 134 #[.pointer (some ⟨B, 0, none⟩)] w (Ans stIs B l len 0 w p (Ps.table (l.drop p))) := by
  have TK := hide (takes_any B l len 0)
  have HS := hide (hass_any B l len 0)
  have NM := hide (named_any B l len 0)
  have WN := hide (wanted_any B l len 0)
  have DF := hide (fun wx q hx => define_any wx B l q len hx)
  have RM := hide (fun wx q n hx => room_any wx B l q len 0 hx n 12 _ rfl)
  have LN := hide (names_any B l len 4)
  have hll := h.ll
  have H0 := hide h
  have hne : w.heap.size ≠ B := ne_of_lt' h.lt
  have HB := hide h.lt
  clear h
  go_enter Tryz.func134, Tryz.ntmps134
  go_upto_region 5 with (first
    | (go_at_call 80; refine (NM.out _ _ (H0.out.alloc _)).mono ?_; rintro e w2 hA; rcases hA.elim with ⟨n2, q2, V, hq, rfl, rfl, hp2, hr2, hs2⟩ | ⟨c2, ts2, hq, rfl, hs2⟩ <;> (have HQ2 := hide hq; clear hq hA); have HB2 := hide (Bld.start hr2 (((Steps.refl B w).alloc _).trans hs2) (show _ = some (Obj.cells (stC { kind := 0 } noSls).toArray 38 (0, 0)) from hs2.keeps (heap_new rfl) hne) hp2 HB.out (Nat.le_refl _) 5 n2 [] false 0 (cs := #[.int .u8 5, .string ⟨n2.toArray⟩, .string ⟨#[]⟩, .slice none 0 0, .slice none 0 0, .bool false, .slice none 0 0, .slice none 0 0, .slice none 0 0, .slice none 0 0, .int .u8 0, .int .u8 0, .int .i64 0, .string ⟨#[]⟩, .string ⟨#[]⟩, .string ⟨#[]⟩, .int .i64 0, .int .u8 0, .slice none 0 0, .slice none 0 0, .slice none 0 0, .int .i64 0, .slice none 0 0]) rfl rfl); clear hr2)
    | (go_at_call 79; refine (WN.out _ _ _ _ (TB4.out.alloc _).rd (heap_new (by simp [World.setCell]))).mono ?_; rintro e w5 hA; rcases hA.elim with ⟨n5, q5, V, hq, rfl, rfl, hp5, hr5, hs5⟩ | ⟨c5, ts5, hq, rfl, hs5⟩ <;> (have HQ5 := hide hq; clear hq hA); have TB5 := hide ((TB4.out.alloc _).go hs5 hr5 hp5); clear hr5)
    | (go_at_call 79; refine (WN.out _ _ _ _ (HB2.out.alloc _).rd (heap_new (by simp))).mono ?_; rintro e w3 hA; rcases hA.elim with ⟨n3, q3, V, hq, rfl, rfl, hp3, hr3, hs3⟩ | ⟨c3, ts3, hq, rfl, hs3⟩ <;> (have HQ3 := hide hq; clear hq hA); have HB3 := hide ((HB2.out.alloc _).go hs3 hr3 hp3); clear hr3)
    | (go_at_call 169; refine (DF.out _ _ HB3.out.rd).mono ?_; rintro e w4 (⟨cn4, ck4, cb4, sa4, sc4, q4, hq, rfl, -, hp4, hr4, hs4⟩ | ⟨c4, ts4, hq, rfl, hs4⟩) <;> (have HQ4 := hide hq; clear hq); have HB4 := hide (HB3.out.go hs4 hr4 hp4); have TB4 := hide (TbS.first HB4.out ⟨cn4, ck4, cb4⟩ (cs := #[.string ⟨cn4.toArray⟩, .int .u8 ck4, .bool cb4]) rfl); obtain ⟨yc4, yf4⟩ := (HB4.out.alloc (.cells #[.string ⟨cn4.toArray⟩, .int .u8 ck4, .bool cb4] 97)).cell_cols; clear hr4)
    | (refine wpList_store_row rfl 38 (.tmp 3) (.tmp 6) rfl w2.heap.size _ rfl rfl 38 _ (heap_new rfl) ?hi ?ho ?h1 ?_; (case hi => exact info_stmt); (case ho => rfl); (case h1 => simp [Value.oneCell']); rw [alloc_row rfl]))
  · have HT : Hid (Ps.table (l.drop p) = (inner (l.drop q4).length [⟨cn4, ck4, cb4⟩] (l.drop q5)).bind (tabK n2)) := (by rw [Ps.table, HQ2.out]; show Ps.R.bind (Ps.want [40] (l.drop q2)) _ = _; rw [show Ps.want [40] (l.drop q2) = _ from HQ3.out]; show Ps.R.bind (Ps.define (l.drop q3)) _ = _; rw [HQ4.out]; show Ps.R.bind (Ps.defines ((l.drop q4).length + 1) [_] (l.drop q4)) _ = _; rw [defines_ok HQ5.out]; rfl)
    obtain ⟨res, hres⟩ : ∃ res, res = inner (l.drop q4).length [⟨cn4, ck4, cb4⟩] (l.drop q5) := ⟨_, rfl⟩
    rw [← hres] at HT
    have HR0 := hide hres.symm
    have hpl4 := hide (show (l.drop q4).length = l.length - q4 from List.length_drop)
    clear hres HB2 HB3 HB4 TB4 yc4 yf4 HQ2 HQ3 HQ4 HQ5 hs2 H0
    go_loopw [] (fun wr => ∃ (q g cap ne : Nat) (xs : List Ps.Col), TbS w B l len p w2.heap.size n2 wr q g cap ne xs ∧ ne ≤ q + 1 ∧ ∃ f, l.length - q ≤ f ∧ inner f xs (l.drop q) = res) (fun wr => l.length - placeOf wr B)
    case atStart => exact ⟨_, _, _, _, _, TB5.out, by omega, _, by rw [hpl4.out]; omega, HR0.out⟩
    case round =>
      clear TB5 HR0
      obtain ⟨q, g, cap, ne, xs, LS, hnq, f, hf, hin⟩ := hrel
      have HL := hide LS
      have HF := hide hf
      have HI := hide hin
      clear LS hf hin
      have hqp : placeOf wr B = q := HL.out.rd.place
      have HQP := hide hqp
      clear hqp
      go_wp2_with (go_at_call 50; refine (TK.out _ _ _ HL.out.rd).mono ?_; rintro e w6 (⟨h6, rfl, hr6, hs6⟩ | ⟨h6, rfl, hr6, hs6⟩); (have HQ6 := hide h6; have TB6 := hide (HL.out.go hs6 hr6 (Nat.le_succ q))); rotate_left; (have HQ6 := hide h6; have TB6 := hide (HL.out.go hs6 hr6 (Nat.le_refl q)); obtain ⟨yc6, yf6⟩ := TB6.out.cell))
      · clear hr6
        have HNE : Hid (ne ≤ 70000) := hide (by have := HL.out.rd.pl; omega)
        go_wp2_with (go_at_call 164; refine (RM.out _ _ ne TB6.out.rd).mono ?_; rintro e w7 hA; rcases hA.elim with ⟨n7, q7, V, hq, rfl, rfl, hp7, hr7, hs7⟩ | ⟨c7, ts7, hq, rfl, hs7⟩ <;> (have HQ7 := hide hq; clear hq hA); have TB7 := hide (TB6.out.go hs7 hr7 hp7); clear hr7)
        · obtain ⟨yc7, yf7⟩ := TB7.out.cell
          obtain ⟨e1, e2⟩ := room_ok HQ7.out
          have HE : Hid ((Ps.define (l.drop q)).bind (fun c ts => Ps.defines f (xs ++ [c]) ts) = res) := hide (by have e := HI.out; rw [inner, if_neg (by rw [HQ6.out]; decide), ← HL.out.ow.len, e1, if_pos rfl] at e; exact e)
          have HD := hide e2
          clear e1 e2 HQ7 yc6 yf6 TB6 HI hs7 HQ6 HL
          rcases hd : Ps.define (l.drop q) with ⟨⟨cn, ck, cb⟩, ts⟩ | ⟨c, ts⟩
          · have DK : Hid (∀ wx, Rd wx B l q7 len 0 → Calls Tryz.prog 169 #[.pointer (some ⟨B, 0, none⟩)] wx fun e w' => ∃ q8, ts = l.drop q8 ∧ e = .returned (.agg #[.string ⟨cn.toArray⟩, .int .u8 ck, .bool cb]) ∧ q7 ≤ q8 ∧ Rd w' B l q8 len 0 ∧ Steps B wx w') := fun wx hx => (DF.out wx _ hx).mono fun e w' hA => by
              rw [HD.out, hd] at hA
              rcases hA with ⟨cn', ck', cb', sa', sc', p', hq, he, _, hp', hr', hs'⟩ | ⟨c, ts, hq, _⟩
              · injection hq with e1 e2
                injection e1 with e3 e4 e5
                subst e3 e4 e5
                exact ⟨p', e2, he, hp', hr', hs'⟩
              · cases hq
            have HLT := hide (define_at hd)
            rw [hd] at HE
            clear DF RM LN TK HS NM hd
            go_region_law (first
              | (refine step_col (by rfl) _ _ (by rfl) (w2.heap.size + 1) xs g cap ne (by rfl) TB8.out.ow w8.heap.size 1 ⟨cn, ck, cb⟩ #[.string ⟨cn.toArray⟩, .int .u8 ck, .bool cb] (by rfl) (heap_new rfl) rfl HNE.out (by have := (Array.getElem?_eq_some_iff.1 TB8.out.zx).1; omega) ?_; intro g9 cap9 w9 hO hG; have TB9 := hide (TB8.out.put hG hO); obtain ⟨yc9, yf9⟩ := TB8.out.cell_far hG)
              | (go_simp; go_at_call 169; refine (DK.out _ (TB7.out.rd.later (Below.refl _ _).drew)).mono ?_; rintro e w8 ⟨q8, ht, rfl, hp8, hr8, hs8⟩; have HTS := hide ht; have TB8 := hide ((TB7.out.go ((Steps.refl B w7).drew.trans hs8) hr8 hp8).alloc (.cells #[.string ⟨cn.toArray⟩, .int .u8 ck, .bool cb] 97)); obtain ⟨yc8, yf8⟩ := (TB7.out.go ((Steps.refl B w7).drew.trans hs8) hr8 hp8).cell; obtain ⟨yd8, ye8⟩ := TB8.out.cell; have hn8 : w2.heap.size < w8.heap.size := (Array.getElem?_eq_some_iff.1 ((TB7.out.go ((Steps.refl B w7).drew.trans hs8) hr8 hp8).zx)).1; have hn8a : ¬ w2.heap.size = w8.heap.size := Nat.ne_of_lt hn8; have hn8b : ¬ w8.heap.size = w2.heap.size := fun h => hn8a h.symm; clear ht hr8))
            all_goals
              go_wp2_with (go_at_call 79; refine (WN.out _ _ _ _ (TB9.out.alloc _).rd (heap_new (by simp [World.setCell]))).mono ?_; rintro e w10 hA; rcases hA.elim with ⟨nA, qA, V, hq, rfl, rfl, hpA, hrA, hsA⟩ | ⟨cA, tsA, hq, rfl, hsA⟩ <;> (have HQA := hide hq; clear hq hA); have TBA := hide ((TB9.out.alloc _).go hsA hrA hpA); clear hrA)
              · obtain ⟨h1, h2⟩ := want_at HQA.out TBA.out.rd.pl
                have h3 := HLT.out
                have h4 := HF.out
                have e := HE.out
                rw [HTS.out] at e
                obtain ⟨f', rfl⟩ : ∃ f', f = f' + 1 := ⟨f - 1, by omega⟩
                refine ⟨⟨qA, g9, cap9, ne + 1, _, TBA.out, by omega, f', by omega, ?_⟩, ?_⟩
                · rw [← e]; exact (defines_ok HQA.out).symm
                · rw [TBA.out.rd.place, HQP.out]; omega
              · refine bodyPost_thrown (P := Tryz.prog) (fn := Tryz.f134) (R := Ans stIs B l len 0 w p (Ps.table (l.drop p))) rfl ?_
                have h3 := HLT.out
                have h4 := HF.out
                have e := HE.out
                rw [HTS.out] at e
                obtain ⟨f', rfl⟩ : ∃ f', f = f' + 1 := ⟨f - 1, by omega⟩
                have e2 : res = .no cA tsA := (by rw [← e]; exact defines_no HQA.out)
                rw [HT.out, e2]
                exact Ans.no ((TB9.out.alloc _).st.trans hsA)
          · have NR : Hid (∀ wx, Rd wx B l q7 len 0 → Calls Tryz.prog 169 #[.pointer (some ⟨B, 0, none⟩)] wx (Ans unitIs B l len 0 wx q7 (.no c ts))) := fun wx hx => (DF.out wx _ hx).mono fun e w' hA => by
              rw [HD.out, hd] at hA
              rcases hA with ⟨_, _, _, _, _, _, hq, _⟩ | ⟨c', ts', hq, rfl, hs'⟩
              · cases hq
              · injection hq with e1 e2
                subst e1 e2
                exact Ans.no hs'
            rw [hd] at HE
            clear DF RM LN TK HS NM hd
            refine wp_region_any (by kernel_rfl) ?_
            change wpAny _ _ _ _ _ _ _ (World.drew _)
            refine wpAny_take (i := 0) (v := ?vz0_0) rfl (by kernel_rfl) (by kernel_rfl) (by kernel_rfl) (fun _ _ _ h => h) (Or.inl ⟨by rfl, ?hyz0_0⟩) ?restz0_0
            case hyz0_0 => (intro w; go_simp; try with_reducible rfl)
            refine wpAny_take (i := 2) (v := ?vz1_2) rfl (by kernel_rfl) (by kernel_rfl) (by kernel_rfl) (fun _ _ _ h => h) (Or.inl ⟨by rfl, ?hyz1_2⟩) ?restz1_2
            case hyz1_2 => (intro w; go_simp; try with_reducible rfl)
            refine wpAny_ready (rs := [1, 3]) (by kernel_rfl) (by simp) ?_
            refine AllReady.cons rfl (fun K hK => ?_) ?morez
            · go_simp
              refine hK _ _ ?_
              clear hK K
              refine wpAny_ready (rs := [3]) (by kernel_rfl) (by simp) ?_
              refine AllReady.cons rfl (fun K hK => ?_) AllReady.nil
              go_simp
              refine (NR.out _ (TB7.out.rd.later (Below.refl _ _).drew)).mono ?_
              rintro e wz hA
              obtain ⟨rfl, hsz⟩ := hA.of_no
              exact bodyPost_thrown (P := Tryz.prog) (fn := Tryz.f134) (R := Ans stIs B l len 0 w p (Ps.table (l.drop p))) rfl (by rw [HT.out, ← HE.out]; exact Ans.no (TB7.out.st.drew.trans hsz))
            refine AllReady.cons rfl (fun K hK => ?_) AllReady.nil
            go_simp
            refine (NR.out _ (TB7.out.rd.later (Below.refl _ _).drew)).mono ?_
            rintro e wz hA
            obtain ⟨rfl, hsz⟩ := hA.of_no
            exact bodyPost_thrown (P := Tryz.prog) (fn := Tryz.f134) (R := Ans stIs B l len 0 w p (Ps.table (l.drop p))) rfl (by rw [HT.out, ← HE.out]; exact Ans.no (TB7.out.st.drew.trans hsz))
        · refine bodyPost_thrown (P := Tryz.prog) (fn := Tryz.f134) (R := Ans stIs B l len 0 w p (Ps.table (l.drop p))) rfl ?_
          obtain ⟨e1, e2, e3⟩ := room_no HQ7.out
          have e := HI.out
          rw [inner, if_neg (by rw [HQ6.out]; decide), ← HL.out.ow.len, e1, if_neg (by decide), ← e3] at e
          rw [HT.out, ← e, e2]
          exact Ans.no (TB6.out.st.trans hs7)
      · clear hr6
        have HTK : Hid (Ps.table (l.drop p) = tabK n2 xs (l.drop (q + 1))) := (by rw [HT.out, ← HI.out, inner, if_pos HQ6.out, List.tail_drop]; rfl)
        have HB6 := hide TB6.out.bld
        clear HI HF HL HT TB6
        go_upto_region 12 with (first
          | (go_at_call 79; refine (WN.out _ _ _ _ (HB8s.out.alloc _).rd (heap_new (by simp [World.setCell]))).mono ?_; rintro e w9 hA; rcases hA.elim with ⟨n9, q9, V, hq, rfl, rfl, hp9, hr9, hs9⟩ | ⟨c9, ts9, hq, rfl, hs9⟩ <;> (have HQ9 := hide hq; clear hq hA); have HB9 := hide ((HB8s.out.alloc _).go hs9 hr9 hp9); clear hr9)
          | (go_at_call 79; refine (WN.out _ _ _ _ (HB6.out.alloc _).rd (heap_new (by simp))).mono ?_; rintro e w7 hA; rcases hA.elim with ⟨n7, q7, V, hq, rfl, rfl, hp7, hr7, hs7⟩ | ⟨c7, ts7, hq, rfl, hs7⟩ <;> (have HQ7 := hide hq; clear hq hA); have HB7 := hide ((HB6.out.alloc _).go hs7 hr7 hp7); clear hr7)
          | (go_at_call 129; refine (LN.out _ _ HB7.out.rd).mono ?_; rintro e w8 hA; rcases hA.elim with ⟨xs8, q8, V, hq, rfl, hv, hp8, hr8, hs8⟩ | ⟨c8, ts8, hq, rfl, hs8⟩ <;> (have HQ8 := hide hq; clear hq hA); have HB8 := hide (HB7.out.go hs8 hr8 hp8); obtain ⟨sa8, sc8, rfl, hv2⟩ := list_laid hv; have HV8 := hide (hv2.keep (Kept.refl _ _) HB7.out.xlt cod_pos.2.1); have HB8s := hide (HB8.out.set_key HV8.out); obtain ⟨yc8, yf8⟩ := HB8.out.cell_key; clear hr8 hv hv2))
        · go_wp2_with (first
            | (refine wpList_load_row rfl 38 (.tmp 3) rfl w2.heap.size rfl _ _ _ _ HB9.out.zx Tryz.underlying38 rfl (info_st _ _) ?_)
            | (refine wpList_store_row rfl 38 (.tmp 2) (.tmp 46) rfl w.heap.size _ rfl rfl 38 _ HB9.out.zr (info_st _ _) ?ho ?h1 ?_; (case ho => rw [stC_size, stC_size]); (case h1 => exact stC_one HB9.out.on)))
          refine bodyPost_ret (P := Tryz.prog) (fn := Tryz.f134) (R := Ans stIs B l len 0 w p (Ps.table (l.drop p))) (results_cell_row rfl _ _ w.heap.size _ _ (0, 0) _ rfl (setRow_heap _ _ _ _ _ _ HB9.out.zr) Tryz.underlying38 rfl (info_st _ _)) rfl ?_
          exact HB9.out.done (by rw [HTK.out, tabK, show Ps.want [107, 101, 121] (l.drop (q + 1)) = _ from HQ7.out]; show Ps.R.bind (Ps.closed 4 Ps.name (l.drop q7)) _ = _; rw [HQ8.out]; show Ps.R.map (Ps.want [41] (l.drop q8)) _ = _; rw [show Ps.want [41] (l.drop q8) = _ from HQ9.out]; rfl)
        · exact bodyPost_thrown (P := Tryz.prog) (fn := Tryz.f134) (R := Ans stIs B l len 0 w p (Ps.table (l.drop p))) rfl (by rw [show Ps.table (l.drop p) = .no c9 ts9 from by rw [HTK.out, tabK, show Ps.want [107, 101, 121] (l.drop (q + 1)) = _ from HQ7.out]; show Ps.R.bind (Ps.closed 4 Ps.name (l.drop q7)) _ = _; rw [HQ8.out]; show Ps.R.map (Ps.want [41] (l.drop q8)) _ = _; rw [show Ps.want [41] (l.drop q8) = _ from HQ9.out]; rfl]; exact Ans.no ((HB8s.out.alloc _).st.trans hs9))
        · exact bodyPost_thrown (P := Tryz.prog) (fn := Tryz.f134) (R := Ans stIs B l len 0 w p (Ps.table (l.drop p))) rfl (by rw [show Ps.table (l.drop p) = .no c8 ts8 from by rw [HTK.out, tabK, show Ps.want [107, 101, 121] (l.drop (q + 1)) = _ from HQ7.out]; show Ps.R.bind (Ps.closed 4 Ps.name (l.drop q7)) _ = _; rw [HQ8.out]; rfl]; exact Ans.no (HB7.out.st.trans hs8))
        · exact bodyPost_thrown (P := Tryz.prog) (fn := Tryz.f134) (R := Ans stIs B l len 0 w p (Ps.table (l.drop p))) rfl (by rw [show Ps.table (l.drop p) = .no c7 ts7 from by rw [HTK.out, tabK, show Ps.want [107, 101, 121] (l.drop (q + 1)) = _ from HQ7.out]; rfl]; exact Ans.no ((HB6.out.alloc _).st.trans hs7))
  · exact bodyPost_thrown rfl (by rw [show Ps.table (l.drop p) = .no c5 ts5 from by rw [Ps.table, HQ2.out]; show Ps.R.bind (Ps.want [40] (l.drop q2)) _ = _; rw [show Ps.want [40] (l.drop q2) = _ from HQ3.out]; show Ps.R.bind (Ps.define (l.drop q3)) _ = _; rw [HQ4.out]; show Ps.R.bind (Ps.defines ((l.drop q4).length + 1) [_] (l.drop q4)) _ = _; rw [defines_no HQ5.out]; rfl]; exact Ans.no ((TB4.out.alloc _).st.trans hs5))
  · exact bodyPost_thrown rfl (by rw [show Ps.table (l.drop p) = .no c4 ts4 from by rw [Ps.table, HQ2.out]; show Ps.R.bind (Ps.want [40] (l.drop q2)) _ = _; rw [show Ps.want [40] (l.drop q2) = _ from HQ3.out]; show Ps.R.bind (Ps.define (l.drop q3)) _ = _; rw [HQ4.out]; rfl]; exact Ans.no (HB3.out.st.trans hs4))
  · exact bodyPost_thrown rfl (by rw [show Ps.table (l.drop p) = .no c3 ts3 from by rw [Ps.table, HQ2.out]; show Ps.R.bind (Ps.want [40] (l.drop q2)) _ = _; rw [show Ps.want [40] (l.drop q2) = _ from HQ3.out]; rfl]; exact Ans.no ((HB2.out.alloc _).st.trans hs3))
  · exact bodyPost_thrown rfl (by rw [show Ps.table (l.drop p) = .no c2 ts2 from by rw [Ps.table, HQ2.out]; rfl]; exact Ans.no (((Steps.refl B w).alloc _).trans hs2))
end Go.Proofs.YtedamaccflhmfaaGreatDoor
namespace Go.Proofs.YtedamaccflhmfaaGreatDoor
open Go.RowKit
attribute [local go_sem ↓] Go.wp_at_zero Go.wp_at_succ

/-- A whole statement. -/
theorem stmt_all (B : Nat) (l : List Lx.Tk) (len : Nat) : ReadsS 20 B l len Ps.oneStmt := fun wx q hx => oneStmt_any wx B l q len hx fun wy z hy => create_any wy B l z len hy fun wz y hz => table_any wz B l y len hz
end Go.Proofs.YtedamaccflhmfaaGreatDoor
