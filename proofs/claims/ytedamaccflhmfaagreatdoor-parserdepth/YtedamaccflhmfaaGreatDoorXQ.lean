/-
  Package parser: closed lists, as, where. .. and what follows from it.
-/
import Derived.Test.YtedamaccflhmfaaGreatDoorXOa
import Derived.Laws.Tables
import Derived.Test.YtedamaccflhmfaaGreatDoorXOb
namespace Go.Proofs.YtedamaccflhmfaaGreatDoor
open Go.RowKit
attribute [local go_sem ↓] Go.wp_at_zero Go.wp_at_succ

theorem row_below (w : World) {b g : Nat} (h : b ≤ g) (cs : Array Value) : Below b w (w.setRow g cs) := ⟨rfl, rfl, rfl, by simp, fun k hk => setRow_other w g k cs (by omega)⟩
theorem Steps.row {B g : Nat} {a w : World} (h : Steps B a w) (hg : a.heap.size ≤ g) (cs : Array Value) : Steps B a (w.setRow g cs) :=
  ⟨h.os, h.tape, h.output, by simpa using h.size, fun k hk hn => (setRow_other w g k cs (by omega)).trans (h.block k hk hn)⟩
theorem row_kept (w : World) {P : Nat → Prop} {g : Nat} (h : ¬ P g) (cs : Array Value) : Kept P w (w.setRow g cs) := fun k hk _ => setRow_other w g k cs (fun e => h (e ▸ hk))
theorem list_laid {α : Type} {C : Cod α} {lo : Nat} {w : World} {xs : List α} {V : Value} (h : listIs C lo w xs V) : ∃ a cap, V = .slice a xs.length cap ∧ listIs C lo w xs (.slice a xs.length cap) := by
  obtain ⟨a, cap, c, rfl, h⟩ := h
  exact ⟨a, cap, rfl, a, cap, c, rfl, h⟩
theorem listIs.keep {α : Type} {C : Cod α} {lo lo' : Nat} {w w' : World} {xs : List α} {V : Value} (h : listIs C lo w xs V) (hk : Kept (Fr lo) w w') (hl : lo' ≤ lo) (hne : ∀ a S, 0 < (C.cells a S).length) : listIs C lo' w' xs V := by
  obtain ⟨a, cap, c, e, h1, h2⟩ := h
  refine ⟨a, cap, c, e, C.lies_keep hk (fun k hk _ => Nat.le_trans hl hk) h1, fun hn => ?_⟩
  obtain ⟨g, off, e2, h3, h4⟩ := h2 hn
  refine ⟨g, off, e2, Nat.le_trans hl h3, fun i hi => ?_⟩
  have hb : g < w.heap.size := by
    have hc : 0 < c.length := by
      cases xs with
      | nil => exact absurd rfl hn
      | cons x r => obtain ⟨S, c', ec, _⟩ := h1; rw [ec, List.length_append]; have := hne x S; omega
    have h0 := h4 0 hc
    rw [List.getElem?_eq_getElem hc] at h0
    exact World.block_lt_of_cell? w _ h0
  exact (World.cell?_of_block (w := w) (hk g h3 hb)).trans (h4 i hi)
theorem info_src11 : (Tryz.prog.info? 104).map (·.size) = some 11 := by kernel_rfl
theorem info_item11 : (Tryz.prog.info? 48).map (·.size) = some 11 := by kernel_rfl
/-- The rows' slice as expressions'. -/
theorem lies_exs {P : Nat → Prop} {w : World} {b : Nat} : ∀ (xs : List Ps.Ex) (c : List Value) (off : Nat), exCod.lies P w xs c → (∀ i, i < c.length → w.cell? ⟨b, off + i, none⟩ = c[i]?) → ExsAt P w xs b off
  | [], _, _, _, _ => by rw [ExsAt]; trivial
  | x :: r, c, off, h, hc => by
    obtain ⟨S, c', rfl, hx, hr⟩ := h
    have hl : (exCod.cells x S).length = 9 := exC_len x S
    rw [ExsAt]
    refine ⟨⟨S, fun i hi => ?_, hx⟩, lies_exs r c' (off + 9) hr fun i hi => ?_⟩
    · rw [hc i (by rw [List.length_append, hl]; omega), List.getElem?_append_left (by rw [hl]; exact hi)]; rfl
    · rw [Nat.add_assoc, hc (9 + i) (by rw [List.length_append, hl]; omega), List.getElem?_append_right (by rw [hl]; omega), hl]
      congr 1
      omega
theorem list_exs {lo : Nat} {w : World} {xs : List Ps.Ex} {V : Value} (h : listIs exCod lo w xs V) : ExsIn (Fr lo) w xs V := by
  obtain ⟨a, cap, c, e, h1, h2⟩ := h
  refine ⟨a, cap, e, fun hn => ?_⟩
  obtain ⟨g, off, e2, h3, h4⟩ := h2 hn
  exact ⟨g, off, e2, h3, lies_exs xs c off h1 h4⟩

set_option maxRecDepth 100000 in
set_option maxHeartbeats 6400000 in
theorem closed_str (f : FuncId) (EG : ∀ (args : Array Value) (w : World), (callFunc f args).run Tryz.prog w = .ok (.enter f args) w) (r1 : List Lx.Tk → Ps.R (List UInt8)) (w : World) (B : Nat) (l : List Lx.Tk) (p len d most : Nat) (h : Rd w B l p len d) (hr : ∀ (wx : World) (q : Nat), Rd wx B l q len d → Calls Tryz.prog f #[.pointer (some ⟨B, 0, none⟩)] wx fun e w' => LaidE_str B l len d wx q (r1 (l.drop q)) e w') : Calls Tryz.prog 129 #[.pointer (some ⟨B, 0, none⟩), .int .i64 most, .func (.func f) #[.pointer (some ⟨B, 0, none⟩)] #[]] w (Ans (listIs strCod) B l len d w p (Ps.closed most r1 (l.drop p))) := by
  have LI := hide (fun wx q hx => list_str f EG r1 wx B l q len d most hx hr)
  have WN := hide (wanted_any B l len d)
  have H0 := hide h
  have HB := hide h.lt
  clear h hr
  go_enter Tryz.func129, Tryz.ntmps129
  go_wp2_with (first
    | (go_at_call 79; refine (WN.out _ _ _ _ (HR3.out.alloc _) (heap_new rfl)).mono ?_; rintro e w4 hA; rcases hA.elim with ⟨u, q4, V, hq, rfl, rfl, hp4, hr4, hs4⟩ | ⟨c4, ts4, hq, rfl, hs4⟩ <;> (have HQ4 := hide hq; clear hq hA); have HR4 := hide hr4; clear hr4)
    | (go_at_call 79; refine (WN.out _ _ _ _ (H0.out.alloc _) (heap_new rfl)).mono ?_; rintro e w2 hA; rcases hA.elim with ⟨u, q2, V, hq, rfl, rfl, hp2, hr2, hs2⟩ | ⟨c2, ts2, hq, rfl, hs2⟩ <;> (have HQ2 := hide hq; clear hq hA); have HR2 := hide hr2; clear hr2)
    | (go_at_call 167; refine (LI.out _ _ HR2.out).mono ?_; rintro e w3 hA; rcases hA.elim with ⟨xs, q3, V, hq, rfl, hv, hp3, hr3, hs3⟩ | ⟨c3, ts3, hq, rfl, hs3⟩ <;> (have HQ3 := hide hq; clear hq hA); have HR3 := hide hr3; obtain ⟨sa, sc, rfl, hv2⟩ := list_laid hv; have HV := hide hv2; clear hr3 hv hv2))
  · go_ret
    rw [show Ps.closed most r1 (l.drop p) = .ok xs (l.drop q4) from by rw [Ps.closed, show Ps.want [40] (l.drop p) = _ from HQ2.out]; show (Ps.list most r1 (l.drop q2)).bind _ = _; rw [HQ3.out]; show (Ps.want [41] (l.drop q3)).bind _ = _; rw [show Ps.want [41] (l.drop q3) = _ from HQ4.out]; rfl]
    have hB := HB.out
    refine Ans.ok q4 ((step_alloc B w _).trans (hs2.trans (hs3.trans ((step_alloc B w3 _).trans hs4)))) ?_ (by omega) HR4.out
    refine HV.out.keep (Kept.steps ((step_alloc B w3 _).trans hs4) (fun h => ?_)) (((step_alloc B w _).trans hs2).size) (fun a S => by exact Nat.one_pos)
    have h1 : w2.heap.size ≤ B := h
    have h2 := ((step_alloc B w _).trans hs2).size
    omega
  · exact bodyPost_thrown rfl (by rw [show Ps.closed most r1 (l.drop p) = .no c4 ts4 from by rw [Ps.closed, show Ps.want [40] (l.drop p) = _ from HQ2.out]; show (Ps.list most r1 (l.drop q2)).bind _ = _; rw [HQ3.out]; show (Ps.want [41] (l.drop q3)).bind _ = _; rw [show Ps.want [41] (l.drop q3) = _ from HQ4.out]; rfl]; exact Ans.no ((step_alloc B w _).trans (hs2.trans (hs3.trans ((step_alloc B w3 _).trans hs4)))))
  · exact bodyPost_thrown rfl (by rw [show Ps.closed most r1 (l.drop p) = .no c3 ts3 from by rw [Ps.closed, show Ps.want [40] (l.drop p) = _ from HQ2.out]; show (Ps.list most r1 (l.drop q2)).bind _ = _; rw [HQ3.out]; rfl]; exact Ans.no ((step_alloc B w _).trans (hs2.trans hs3)))
  · exact bodyPost_thrown rfl (by rw [show Ps.closed most r1 (l.drop p) = .no c2 ts2 from by rw [Ps.closed, show Ps.want [40] (l.drop p) = _ from HQ2.out]; rfl]; exact Ans.no ((step_alloc B w _).trans hs2))

set_option maxRecDepth 100000 in
set_option maxHeartbeats 6400000 in
theorem closed_expr (f : FuncId) (EG : ∀ (args : Array Value) (w : World), (callFunc f args).run Tryz.prog w = .ok (.enter f args) w) (r1 : List Lx.Tk → Ps.R (Ps.Ex)) (w : World) (B : Nat) (l : List Lx.Tk) (p len d most : Nat) (h : Rd w B l p len d) (hr : ∀ (wx : World) (q : Nat), Rd wx B l q len d → Calls Tryz.prog f #[.pointer (some ⟨B, 0, none⟩)] wx fun e w' => LaidE_expr B l len d wx q (r1 (l.drop q)) e w') : Calls Tryz.prog 168 #[.pointer (some ⟨B, 0, none⟩), .int .i64 most, .func (.func f) #[.pointer (some ⟨B, 0, none⟩)] #[]] w (Ans (listIs exCod) B l len d w p (Ps.closed most r1 (l.drop p))) := by
  have LI := hide (fun wx q hx => list_expr f EG r1 wx B l q len d most hx hr)
  have WN := hide (wanted_any B l len d)
  have H0 := hide h
  have HB := hide h.lt
  clear h hr
  go_enter Tryz.func168, Tryz.ntmps168
  go_wp2_with (first
    | (go_at_call 79; refine (WN.out _ _ _ _ (HR3.out.alloc _) (heap_new rfl)).mono ?_; rintro e w4 hA; rcases hA.elim with ⟨u, q4, V, hq, rfl, rfl, hp4, hr4, hs4⟩ | ⟨c4, ts4, hq, rfl, hs4⟩ <;> (have HQ4 := hide hq; clear hq hA); have HR4 := hide hr4; clear hr4)
    | (go_at_call 79; refine (WN.out _ _ _ _ (H0.out.alloc _) (heap_new rfl)).mono ?_; rintro e w2 hA; rcases hA.elim with ⟨u, q2, V, hq, rfl, rfl, hp2, hr2, hs2⟩ | ⟨c2, ts2, hq, rfl, hs2⟩ <;> (have HQ2 := hide hq; clear hq hA); have HR2 := hide hr2; clear hr2)
    | (go_at_call 124; refine (LI.out _ _ HR2.out).mono ?_; rintro e w3 hA; rcases hA.elim with ⟨xs, q3, V, hq, rfl, hv, hp3, hr3, hs3⟩ | ⟨c3, ts3, hq, rfl, hs3⟩ <;> (have HQ3 := hide hq; clear hq hA); have HR3 := hide hr3; obtain ⟨sa, sc, rfl, hv2⟩ := list_laid hv; have HV := hide hv2; clear hr3 hv hv2))
  · go_ret
    rw [show Ps.closed most r1 (l.drop p) = .ok xs (l.drop q4) from by rw [Ps.closed, show Ps.want [40] (l.drop p) = _ from HQ2.out]; show (Ps.list most r1 (l.drop q2)).bind _ = _; rw [HQ3.out]; show (Ps.want [41] (l.drop q3)).bind _ = _; rw [show Ps.want [41] (l.drop q3) = _ from HQ4.out]; rfl]
    have hB := HB.out
    refine Ans.ok q4 ((step_alloc B w _).trans (hs2.trans (hs3.trans ((step_alloc B w3 _).trans hs4)))) ?_ (by omega) HR4.out
    refine HV.out.keep (Kept.steps ((step_alloc B w3 _).trans hs4) (fun h => ?_)) (((step_alloc B w _).trans hs2).size) (fun a S => by show 0 < (exC a S).length; rw [exC_len]; decide)
    have h1 : w2.heap.size ≤ B := h
    have h2 := ((step_alloc B w _).trans hs2).size
    omega
  · exact bodyPost_thrown rfl (by rw [show Ps.closed most r1 (l.drop p) = .no c4 ts4 from by rw [Ps.closed, show Ps.want [40] (l.drop p) = _ from HQ2.out]; show (Ps.list most r1 (l.drop q2)).bind _ = _; rw [HQ3.out]; show (Ps.want [41] (l.drop q3)).bind _ = _; rw [show Ps.want [41] (l.drop q3) = _ from HQ4.out]; rfl]; exact Ans.no ((step_alloc B w _).trans (hs2.trans (hs3.trans ((step_alloc B w3 _).trans hs4)))))
  · exact bodyPost_thrown rfl (by rw [show Ps.closed most r1 (l.drop p) = .no c3 ts3 from by rw [Ps.closed, show Ps.want [40] (l.drop p) = _ from HQ2.out]; show (Ps.list most r1 (l.drop q2)).bind _ = _; rw [HQ3.out]; rfl]; exact Ans.no ((step_alloc B w _).trans (hs2.trans hs3)))
  · exact bodyPost_thrown rfl (by rw [show Ps.closed most r1 (l.drop p) = .no c2 ts2 from by rw [Ps.closed, show Ps.want [40] (l.drop p) = _ from HQ2.out]; rfl]; exact Ans.no ((step_alloc B w _).trans hs2))

set_option maxHeartbeats 6400000 in
theorem as_any (w : World) (B : Nat) (l : List Lx.Tk) (p len d : Nat) (h : Rd w B l p len d) : Calls Tryz.prog 165 #[.pointer (some ⟨B, 0, none⟩)] w (Ans strIs B l len d w p (Ps.asN (l.drop p))) := by
  have NM := hide (named_any B l len d)
  have TK := hide (takes_any B l len d)
  have H0 := hide h
  clear h
  go_enter Tryz.func165, Tryz.ntmps165
  go_wp2_with (first
    | (go_at_call 50; refine (TK.out _ _ _ H0.out).mono ?_; rintro e w2 (⟨h2, rfl, hr2, hs2⟩ | ⟨h2, rfl, hr2, hs2⟩) <;> (have HR2 := hide hr2; have HQ2 := hide h2; clear hr2 h2))
    | (go_at_call 80; refine (NM.out _ _ HR2.out).mono ?_; rintro e w3 hA; rcases hA.elim with ⟨n, q3, V, hq, rfl, rfl, hp3, hr3, hs3⟩ | ⟨c3, ts3, hq, rfl, hs3⟩ <;> (have HQ3 := hide hq; clear hq hA); have HR3 := hide hr3; clear hr3))
  · go_ret
    rw [show Ps.asN (l.drop p) = .ok n (l.drop q3) from by rw [Ps.asN, if_pos HQ2.out, List.tail_drop, HQ3.out]]
    exact Ans.ok q3 (hs2.trans hs3) rfl (by omega) HR3.out
  · exact bodyPost_thrown rfl (by rw [show Ps.asN (l.drop p) = .no c3 ts3 from by rw [Ps.asN, if_pos HQ2.out, List.tail_drop, HQ3.out]]; exact Ans.no (hs2.trans hs3))
  · go_ret
    rw [show Ps.asN (l.drop p) = .ok [] (l.drop p) from by rw [Ps.asN, if_neg (by rw [show Ps.has [97, 115] (l.drop p) = false from HQ2.out]; decide)]]
    exact Ans.ok p hs2 rfl (Nat.le_refl _) HR2.out

set_option maxHeartbeats 6400000 in
theorem where_any (w : World) (B : Nat) (l : List Lx.Tk) (p len : Nat) (h : Rd w B l p len 0) : Calls Tryz.prog 123 #[.pointer (some ⟨B, 0, none⟩)] w (Ans exIs B l len 0 w p (Ps.whereX (l.drop p))) := by
  have EX := hide (expr_all B l len)
  have TK := hide (takes_any B l len 0)
  have H0 := hide h
  have hne : w.heap.size ≠ B := ne_of_lt' h.lt
  have HB := hide h.lt
  clear h
  go_enter Tryz.func123, Tryz.ntmps123
  go_wp2_with (first
    | (go_at_call 50; refine (TK.out _ _ _ (H0.out.alloc _)).mono ?_; rintro e w2 (⟨h2, rfl, hr2, hs2⟩ | ⟨h2, rfl, hr2, hs2⟩) <;> (have HR2 := hide hr2; have HQ2 := hide h2; have Z2 := hs2.keeps (heap_new rfl) hne; obtain ⟨⟨ya0, ya1, ya2, ya3, ya4, ya5, ya6, ya7, ya8⟩, ⟨yb0, yb1, yb2, yb3, yb4, yb5, yb6, yb7, yb8⟩, _⟩ := sl9 Z2; clear hr2 h2))
    | (go_at_call 54; refine (EX.out _ _ HR2.out).mono ?_; rintro e w3 hA; rcases hA.laid with (⟨o1, k1, n1, t1, tb1, nm1, sl1, kd1, ag1, sa1, sc1, q1, hq, rfl, hx1, hp1, hr1, hs1⟩ | ⟨c1, ts1, hq, rfl, hs1⟩) <;> (have HQ3 := hide hq; clear hq hA); have HR3 := hide hr1; have HX := hide hx1; have Z3 := hs1.keeps Z2 hne; clear ya0 ya1 ya2 ya3 ya4 ya5 ya6 ya7 ya8 yb0 yb1 yb2 yb3 yb4 yb5 yb6 yb7 yb8; obtain ⟨⟨za0, za1, za2, za3, za4, za5, za6, za7, za8⟩, ⟨zb0, zb1, zb2, zb3, zb4, zb5, zb6, zb7, zb8⟩, _⟩ := sl9 Z3; clear hr1 hx1))
  · refine ret_ex rfl rfl rfl Z3 (x := (Ps.Ex.mk o1 ⟨k1, n1, t1⟩ tb1 nm1 sl1 kd1 ag1) ) (S := .slice sa1 ag1.length sc1) (p' := q1) (by rw [Ps.whereX, if_pos HQ2.out, List.tail_drop, HQ3.out]) ((step_alloc B w _).trans (hs2.trans hs1)) (Nat.le_refl _) HB.out (P := Fr (w.heap.size + 1)) (Nat.not_succ_le_self _) (fun _ hk => Nat.le_of_succ_le hk) ?_ (by omega) HR3.out rfl
    exact ExAt.mono (fun k hk => Nat.le_trans (size_alloc hs2) hk) _ _ HX.out
  · exact bodyPost_thrown rfl (by rw [show Ps.whereX (l.drop p) = .no c1 ts1 from by rw [Ps.whereX, if_pos HQ2.out, List.tail_drop, HQ3.out]]; exact Ans.no ((step_alloc B w _).trans (hs2.trans hs1)))
  · refine ret_ex rfl rfl rfl Z2 (x := Ps.none') (S := .slice none 0 0) (p' := p) (by rw [Ps.whereX, if_neg (by rw [show Ps.has [119, 104, 101, 114, 101] (l.drop p) = false from HQ2.out]; decide)]) ((step_alloc B w _).trans hs2) (Nat.le_refl _) HB.out (P := Fr (w.heap.size + 1)) (Nat.not_succ_le_self _) (fun _ hk => Nat.le_of_succ_le hk) ?_ (Nat.le_refl _) HR2.out rfl
    rw [Ps.none', exAt_mk]; exact ⟨none, 0, rfl, fun h => absurd rfl h⟩
end Go.Proofs.YtedamaccflhmfaaGreatDoor
namespace Go.Proofs.YtedamaccflhmfaaGreatDoor
open Go.RowKit
attribute [local go_sem ↓] Go.wp_at_zero Go.wp_at_succ

theorem info_ord10 : (Tryz.prog.info? 108).map (·.size) = some 10 := by kernel_rfl
theorem info_asg11 : (Tryz.prog.info? 112).map (·.size) = some 11 := by kernel_rfl
theorem info_col3 : (Tryz.prog.info? 97).map (·.size) = some 3 := by kernel_rfl
theorem zero_ex (P : Nat → Prop) (w : World) : ExAt P w Ps.none' (.slice none 0 0) := by rw [Ps.none', exAt_mk]; exact ⟨none, 0, rfl, fun h => absurd rfl h⟩
theorem row_rd {w : World} {B : Nat} {l : List Lx.Tk} {p len d g : Nat} (h : Rd w B l p len d) (hg : B < g) (cs : Array Value) : Rd (w.setRow g cs) B l p len d := h.keep (row_below w hg cs)

set_option maxRecDepth 100000 in
set_option maxHeartbeats 6400000 in
theorem item_any (w : World) (B : Nat) (l : List Lx.Tk) (p len : Nat) (h : Rd w B l p len 0) : Calls Tryz.prog 121 #[.pointer (some ⟨B, 0, none⟩)] w fun e w' => LaidE_item B l len 0 w p (Ps.item (l.drop p)) e w' := by
  have EX := hide (expr_all B l len)
  have TK := hide (takes_any B l len 0)
  have NM := hide (named_any B l len 0)
  have WN := hide (wanted_any B l len 0)
  have AS := hide (fun wx q hx => as_any wx B l q len 0 hx)
  have H0 := hide h
  have hne : w.heap.size ≠ B := ne_of_lt' h.lt
  have HB := hide h.lt
  clear h
  go_enter Tryz.func121, Tryz.ntmps121
  go_wp2_with (first
    | (go_at_call 50; refine (TK.out _ _ _ (H0.out.alloc _)).mono ?_; rintro e w2 (⟨h2, rfl, hr2, hs2⟩ | ⟨h2, rfl, hr2, hs2⟩) <;> (have HR2 := hide hr2; have HQ2 := hide h2; have Z2 := hs2.keeps (heap_new rfl) hne; clear hr2 h2))
    | (go_at_call 54; refine (EX.out _ _ HR2.out).mono ?_; rintro e w3 hA; rcases hA.laid with (⟨o1, k1, n1, t1, tb1, nm1, sl1, kd1, ag1, sa1, sc1, q1, hq, rfl, hx1, hp1, hr1, hs1⟩ | ⟨c1, ts1, hq, rfl, hs1⟩) <;> (have HQ3 := hide hq; clear hq hA); have HR3 := hide hr1; have HX := hide hx1; have Z3 := hs1.keeps Z2 hne; clear hr1 hx1)
    | (go_at_call 165; refine (AS.out _ _ HR3.out).mono ?_; rintro e w4 hA; rcases hA.elim with ⟨n4, q4, V, hq, rfl, rfl, hp4, hr4, hs4⟩ | ⟨c4, ts4, hq, rfl, hs4⟩ <;> (have HQ4 := hide hq; clear hq hA); have HR4 := hide hr4; have Z4 := hs4.keeps Z3 hne; clear hr4)
    | (refine wpList_store_row rfl 48 (.tmp 2) (.tmp 10) rfl w.heap.size _ rfl rfl 48 _ Z4 ?hi ?ho ?h1 ?_; (case hi => exact info_item11); (case ho => rfl); (case h1 => simp [Value.oneCell']))
    | (refine wpList_store_row rfl 48 (.tmp 2) (.tmp 5) rfl w.heap.size _ rfl rfl 48 _ Z2 ?hi ?ho ?h1 ?_; (case hi => exact info_item11); (case ho => rfl); (case h1 => simp [Value.oneCell'])))
  · refine bodyPost_ret (results_cell_row rfl _ _ w.heap.size _ _ (0, 0) _ rfl (setRow_heap _ _ _ _ _ _ Z2) Tryz.underlying48 rfl info_item11) rfl (.inl ⟨true, 0, 0, 0, ⟨#[]⟩, [], [], 0, 0, [], [], none, 0, p + 1, ?_, rfl, zero_ex _ _, by omega, row_rd HR2.out HB.out _, ((step_alloc B w _).trans hs2).row (Nat.le_refl _) _⟩)
    rw [Ps.item, if_pos HQ2.out, List.tail_drop]; rfl
  · have e : Ps.item (l.drop p) = .ok (Ps.Item.mk false (Ps.Ex.mk o1 ⟨k1, n1, t1⟩ tb1 nm1 sl1 kd1 ag1) n4) (l.drop q4) := by rw [Ps.item, if_neg (by rw [show Ps.has [42] (l.drop p) = false from HQ2.out]; decide), HQ3.out]; show (Ps.asN (l.drop q1)).map _ = _; rw [HQ4.out]; rfl
    refine bodyPost_ret (results_cell_row rfl _ _ w.heap.size _ _ (0, 0) _ rfl (setRow_heap _ _ _ _ _ _ Z4) Tryz.underlying48 rfl info_item11) rfl (.inl ⟨false, o1, k1, n1, t1, tb1, nm1, sl1, kd1, ag1, n4, sa1, sc1, q4, e, rfl, ?_, by omega, row_rd HR4.out HB.out _, ((step_alloc B w _).trans (hs2.trans (hs1.trans hs4))).row (Nat.le_refl _) _⟩)
    have hB := HB.out
    exact ExAt.keep (P := Fr (w.heap.size + 1)) (row_kept w4 (Nat.not_succ_le_self _) _) (fun k hk _ => Nat.le_of_succ_le hk) _ _ (fr_keep (ExAt.mono (fun k hk => Nat.le_trans (size_alloc hs2) hk) _ _ HX.out) hs4 (by omega))
  · exact bodyPost_thrown rfl (.inr ⟨c4, ts4, by rw [Ps.item, if_neg (by rw [show Ps.has [42] (l.drop p) = false from HQ2.out]; decide), HQ3.out]; show (Ps.asN (l.drop q1)).map _ = _; rw [HQ4.out]; rfl, rfl, (step_alloc B w _).trans (hs2.trans (hs1.trans hs4))⟩)
  · exact bodyPost_thrown rfl (.inr ⟨c1, ts1, by rw [Ps.item, if_neg (by rw [show Ps.has [42] (l.drop p) = false from HQ2.out]; decide), HQ3.out]; rfl, rfl, (step_alloc B w _).trans (hs2.trans hs1)⟩)

set_option maxRecDepth 100000 in
set_option maxHeartbeats 6400000 in
theorem source_any (w : World) (B : Nat) (l : List Lx.Tk) (p len : Nat) (h : Rd w B l p len 0) : Calls Tryz.prog 166 #[.pointer (some ⟨B, 0, none⟩)] w fun e w' => LaidE_src B l len 0 w p (Ps.source (l.drop p)) e w' := by
  have EX := hide (expr_all B l len)
  have TK := hide (takes_any B l len 0)
  have NM := hide (named_any B l len 0)
  have WN := hide (wanted_any B l len 0)
  have AS := hide (fun wx q hx => as_any wx B l q len 0 hx)
  have H0 := hide h
  have hne : w.heap.size ≠ B := ne_of_lt' h.lt
  have HB := hide h.lt
  clear h
  go_enter Tryz.func166, Tryz.ntmps166
  go_wp2_with (first
    | (go_at_call 80; refine (NM.out _ _ (H0.out.alloc _)).mono ?_; rintro e w3 hA; rcases hA.elim with ⟨n3, q3, V, hq, rfl, rfl, hp3, hr3, hs3⟩ | ⟨c3, ts3, hq, rfl, hs3⟩ <;> (have HQ3 := hide hq; clear hq hA); have HR3 := hide hr3; have Z3 := hs3.keeps (heap_new rfl) hne; clear hr3)
    | (go_at_call 165; refine (AS.out _ _ HR3.out).mono ?_; rintro e w4 hA; rcases hA.elim with ⟨n4, q4, V, hq, rfl, rfl, hp4, hr4, hs4⟩ | ⟨c4, ts4, hq, rfl, hs4⟩ <;> (have HQ4 := hide hq; clear hq hA); have HR4 := hide hr4; have Z4 := hs4.keeps Z3 hne; clear hr4)
    | (refine wpList_store_row rfl 104 (.tmp 2) (.tmp 7) rfl w.heap.size _ rfl rfl 104 _ Z4 ?hi ?ho ?h1 ?_; (case hi => exact info_src11); (case ho => rfl); (case h1 => simp [Value.oneCell'])))
  · have e : Ps.source (l.drop p) = .ok (Ps.Src.mk n3 n4 Ps.none') (l.drop q4) := by rw [Ps.source, HQ3.out]; show (Ps.asN (l.drop q3)).map _ = _; rw [HQ4.out]; rfl
    exact bodyPost_ret (results_cell_row rfl _ _ w.heap.size _ _ (0, 0) _ rfl (setRow_heap _ _ _ _ _ _ Z4) Tryz.underlying104 rfl info_src11) rfl (.inl ⟨n3, n4, 0, 0, 0, ⟨#[]⟩, [], [], 0, 0, [], none, 0, q4, e, rfl, zero_ex _ _, by omega, row_rd HR4.out HB.out _, ((step_alloc B w _).trans (hs3.trans hs4)).row (Nat.le_refl _) _⟩)
  · exact bodyPost_thrown rfl (.inr ⟨c4, ts4, by rw [Ps.source, HQ3.out]; show (Ps.asN (l.drop q3)).map _ = _; rw [HQ4.out]; rfl, rfl, (step_alloc B w _).trans (hs3.trans hs4)⟩)
  · exact bodyPost_thrown rfl (.inr ⟨c3, ts3, by rw [Ps.source, HQ3.out]; rfl, rfl, (step_alloc B w _).trans hs3⟩)
end Go.Proofs.YtedamaccflhmfaaGreatDoor
