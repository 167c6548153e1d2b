/-
  Package parser: read. .. and what follows from it.
-/
import Derived.Test.YtedamaccflhmfaaGreatDoorXX
import Derived.Recover
import Derived.Defers
namespace Go.Proofs.YtedamaccflhmfaaGreatDoor
open Go.RowKit
attribute [local go_sem ↓] Go.wp_at_zero Go.wp_at_succ
theorem assert_fault (V : Value) (w : World) : (Instr.typeAssert (.iface 41 V) 20 41 true).run Tryz.prog w = .ok (.tuple #[V, .bool true]) w := by kernel_rfl

set_option maxRecDepth 100000 in
set_option maxHeartbeats 3200000 in
theorem catch_expr (F : Nat) (x0 x1 c n : Int) (older : List PanicEntry) (w : World) (hF : F < w.heap.size) (hc0 : w.cell? ⟨F, 0, none⟩ = some (.int .i64 x0)) (hc1 : w.cell? ⟨F, 1, none⟩ = some (.int .i64 x1)) (hz0 : w.frozen? ⟨F, 0, none⟩ = false) (hz1 : w.frozen? ⟨F, 1, none⟩ = false) :
    CallsD Tryz.prog 53 #[.pointer (some ⟨F, 0, none⟩)] (.panicking ({ v := .iface 41 (.agg #[.int .i64 c, .int .i64 n]), recovered := false } :: older)) w fun e u' w' =>
      e = .returned (.tuple #[]) ∧ u' = .panicking ({ v := .iface 41 (.agg #[.int .i64 c, .int .i64 n]), recovered := true } :: older) ∧ w' = ((w.setCell ⟨F, 0, none⟩ (.int .i64 c)).setCell ⟨F, 1, none⟩ (.int .i64 n)).alloc (.cells #[.int .i64 c, .int .i64 n] 41) := by
  have hta := assert_fault
  have hn1 : ¬ F = w.heap.size := Nat.ne_of_lt hF
  have hn2 : ¬ w.heap.size = F := fun h => hn1 h.symm
  refine callsD_of_wpS Tryz.func53 rfl fun c₀ cs hu => ?_
  apply wpS_seq
  apply wpS_region
  simp [wpOpsS, go_sem, recoverD, hu, Tryz.ntmps53, Exit.thenS]
  apply wpS_of_wp
  go_wp2
  simp [bodyPostS, results, Tryz.results53]
theorem idle_expr (p : Addr) (w : World) : CallsD Tryz.prog 53 #[.pointer (some p)] .returning w fun e u' w' => e = .returned (.tuple #[]) ∧ u' = .returning ∧ w' = w := by
  refine callsD_of_wpS Tryz.func53 rfl fun c₀ cs hu => ?_
  apply wpS_seq
  apply wpS_region
  simp [wpOpsS, go_sem, recoverD, hu, Tryz.ntmps53, Exit.thenS]
  apply wpS_of_wp
  go_wp2
  cases c₀
  simp_all [bodyPostS, results, Tryz.results53]

set_option maxRecDepth 100000 in
set_option maxHeartbeats 3200000 in
theorem catch_stmt (F : Nat) (x0 x1 c n : Int) (older : List PanicEntry) (w : World) (hF : F < w.heap.size) (hc0 : w.cell? ⟨F, 0, none⟩ = some (.int .i64 x0)) (hc1 : w.cell? ⟨F, 1, none⟩ = some (.int .i64 x1)) (hz0 : w.frozen? ⟨F, 0, none⟩ = false) (hz1 : w.frozen? ⟨F, 1, none⟩ = false) :
    CallsD Tryz.prog 48 #[.pointer (some ⟨F, 0, none⟩)] (.panicking ({ v := .iface 41 (.agg #[.int .i64 c, .int .i64 n]), recovered := false } :: older)) w fun e u' w' =>
      e = .returned (.tuple #[]) ∧ u' = .panicking ({ v := .iface 41 (.agg #[.int .i64 c, .int .i64 n]), recovered := true } :: older) ∧ w' = ((w.setCell ⟨F, 0, none⟩ (.int .i64 c)).setCell ⟨F, 1, none⟩ (.int .i64 n)).alloc (.cells #[.int .i64 c, .int .i64 n] 41) := by
  have hta := assert_fault
  have hn1 : ¬ F = w.heap.size := Nat.ne_of_lt hF
  have hn2 : ¬ w.heap.size = F := fun h => hn1 h.symm
  refine callsD_of_wpS Tryz.func48 rfl fun c₀ cs hu => ?_
  apply wpS_seq
  apply wpS_region
  simp [wpOpsS, go_sem, recoverD, hu, Tryz.ntmps48, Exit.thenS]
  apply wpS_of_wp
  go_wp2
  simp [bodyPostS, results, Tryz.results48]
theorem idle_stmt (p : Addr) (w : World) : CallsD Tryz.prog 48 #[.pointer (some p)] .returning w fun e u' w' => e = .returned (.tuple #[]) ∧ u' = .returning ∧ w' = w := by
  refine callsD_of_wpS Tryz.func48 rfl fun c₀ cs hu => ?_
  apply wpS_seq
  apply wpS_region
  simp [wpOpsS, go_sem, recoverD, hu, Tryz.ntmps48, Exit.thenS]
  apply wpS_of_wp
  go_wp2
  cases c₀
  simp_all [bodyPostS, results, Tryz.results48]
end Go.Proofs.YtedamaccflhmfaaGreatDoor
namespace Go.Proofs.YtedamaccflhmfaaGreatDoor
open Go.RowKit
attribute [local go_sem ↓] Go.wp_at_zero Go.wp_at_succ

set_option maxRecDepth 100000 in
theorem eg_oneExpr (args : Array Value) (w : World) : (callFunc 25 args).run Tryz.prog w = .ok (.enter 25 args) w := rfl
theorem two_new {w w1 : World} {a b : Array Value} {T U : TypeId} (hb : Below ((w.alloc (.cells a T)).alloc (.cells b U)).heap.size ((w.alloc (.cells a T)).alloc (.cells b U)) w1) : w1.heap[w.heap.size]? = some (.cells a T (0, 0)) ∧ w1.heap[w.heap.size + 1]? = some (.cells b U (0, 0)) ∧ w.heap.size + 1 < w1.heap.size ∧ Below w.heap.size w w1 := by
  have h0 : ((w.alloc (.cells a T)).alloc (.cells b U)).heap[w.heap.size]? = some (.cells a T (0, 0)) := alloc_keeps (heap_new rfl) _
  have h1 : ((w.alloc (.cells a T)).alloc (.cells b U)).heap[w.heap.size + 1]? = some (.cells b U (0, 0)) := heap_new (by simp)
  have e1 := (hb.block _ (Array.getElem?_eq_some_iff.1 h1).1).trans h1
  exact ⟨(hb.block _ (Array.getElem?_eq_some_iff.1 h0).1).trans h0, e1, (Array.getElem?_eq_some_iff.1 e1).1, (((Below.refl _ _).alloc (Nat.le_refl _) _).alloc (by simp) _).trans (hb.mono (by simp; omega))⟩
theorem tab2_two {w : World} (hT : Tab2 w) (a b : Obj) : Tab2 ((w.alloc a).alloc b) := (hT.later ((Below.refl _ _).alloc (Nat.le_refl _) _)).later ((Below.refl _ _).alloc (Nat.le_refl _) _)
theorem heap_drew {w : World} {k : Nat} {o : Option Obj} (h : w.heap[k]? = o) : w.drew.heap[k]? = o := h
theorem results_rows2 {P : Program} {fn : Func} {p q : Tmp} {ty uy : TypeId} (h : fn.results = #[.cell p ty, .cell q uy]) (tmps : Array Value) (w : World) (g g2 : Nat) (t t2 : TypeId) (cs cs2 : Array Value) (fr fr2 : Nat × Nat) (d d2 : TypeDesc)
    (hp : tmps.getD p undef = .pointer (some ⟨g, 0, none⟩)) (hg : w.heap[g]? = some (.cells cs t fr)) (hu : P.underlying ty = some d) (hd : (match d with | .struct _ | .array _ _ => true | _ => false) = true) (hi : (P.info? ty).map (·.size) = some cs.size)
    (hp2 : tmps.getD q undef = .pointer (some ⟨g2, 0, none⟩)) (hg2 : w.heap[g2]? = some (.cells cs2 t2 fr2)) (hu2 : P.underlying uy = some d2) (hd2 : (match d2 with | .struct _ | .array _ _ => true | _ => false) = true) (hi2 : (P.info? uy).map (·.size) = some cs2.size) :
    (results fn tmps).run P w = .ok (.tuple #[.agg cs, .agg cs2]) w := by
  have hp' : tmps[p]?.getD undef = .pointer (some ⟨g, 0, none⟩) := by simpa using hp
  have hq' : tmps[q]?.getD undef = .pointer (some ⟨g2, 0, none⟩) := by simpa using hp2
  simp [results, h, hp', hq', asAddr, run_loadVar_row w g t ty cs fr d hg hu hd hi, run_loadVar_row w g2 t2 uy cs2 fr2 d2 hg2 hu2 hd2 hi2]
theorem info_ex9 : (Tryz.prog.info? 34).map (·.size) = some 9 := by kernel_rfl
theorem info_fault2 : (Tryz.prog.info? 41).map (·.size) = some 2 := by kernel_rfl
set_option maxRecDepth 100000 in
set_option maxHeartbeats 800000 in
theorem readE_bad (w : World) (s : ByteArray) (x : Int) (p : Nat) (hs : s.size ≤ 65536) (hT : Tab2 w) (hx0 : ¬ x = 0) (hq : Lx.lexA s.data.toList 0 = .error (x, p)) : Calls Tryz.prog 24 #[.string s, .func (.func 25) #[] #[]] w fun e w' => e = .returned (.tuple #[exV (Ps.Ex.mk 0 ⟨0, 0, ⟨#[]⟩⟩ [] [] 0 0 []) (.slice none 0 0), .agg #[.int .i64 x, .int .i64 p]]) ∧ Below w.heap.size w w' := by
  have LB := hide (fun wx hx => lex_bad wx s x p hs hx hq)
  have HT := hide hT
  clear hq hT
  go_enter_defers Tryz.func24, Tryz.ntmps24
  go_wp2_with (go_at_call 15; refine (LB.out _ (tab2_two HT.out _ _)).mono ?_; rintro e w1 ⟨rfl, hb⟩; obtain ⟨Z1, F1, hl1, B1⟩ := two_new hb; obtain ⟨⟨za0, za1, za2, za3, za4, za5, za6, za7, za8⟩, ⟨zb0, zb1, zb2, zb3, zb4, zb5, zb6, zb7, zb8⟩, _⟩ := sl9 Z1; have fa0 := Joins.cell_of_block F1 0; have fb0 := Joins.unfrozen_of_block F1 0; have fa1 := Joins.cell_of_block F1 1; have fb1 := Joins.unfrozen_of_block F1 1; have nl1 : ¬ w.heap.size + 1 = w.heap.size := Nat.succ_ne_self _; have nl2 : ¬ w.heap.size = w.heap.size + 1 := fun h => nl1 h.symm; clear hb)
  go_region_with (fail)
  all_goals go_wp2_with (fail)
  all_goals
    have Z2 := heap_set_other (g := w.heap.size + 1) (i := 0) Z1 nl2 (.int .i64 x)
    have Z3 := heap_set_other (g := w.heap.size + 1) (i := 1) Z2 nl2 (.int .i64 p)
    have Z4 := put9_heap Z3 (.int .u8 0) (.int .u8 0) (.int .i64 0) (.string ⟨#[]⟩) (.string ⟨#[]⟩) (.string ⟨#[]⟩) (.int .i64 0) (.int .u8 0) (.slice none 0 0)
    have Z5 := heap_set_other (g := w.heap.size + 1) (i := 0) Z4 nl2 (.int .i64 x)
    have Z6 := heap_drew (heap_set_other (g := w.heap.size + 1) (i := 1) Z5 nl2 (.int .i64 p))
    have F2 := heap_set (i := 0) F1 (.int .i64 x)
    have F3 := heap_set (i := 1) F2 (.int .i64 p)
    have F4 := put9_other F3 nl1 (.int .u8 0) (.int .u8 0) (.int .i64 0) (.string ⟨#[]⟩) (.string ⟨#[]⟩) (.string ⟨#[]⟩) (.int .i64 0) (.int .u8 0) (.slice none 0 0)
    have F5 := heap_set (i := 0) F4 (.int .i64 x)
    have F6 := heap_drew (heap_set (i := 1) F5 (.int .i64 p))
    have BB := (((((B1.setCell (p := ⟨w.heap.size + 1, 0, none⟩) (Nat.le_succ _) (.int .i64 x)).setCell (p := ⟨w.heap.size + 1, 1, none⟩) (Nat.le_succ _) (.int .i64 p)).trans (put9_below _ (Nat.le_refl _) (.int .u8 0) (.int .u8 0) (.int .i64 0) (.string ⟨#[]⟩) (.string ⟨#[]⟩) (.string ⟨#[]⟩) (.int .i64 0) (.int .u8 0) (.slice none 0 0))).setCell (p := ⟨w.heap.size + 1, 0, none⟩) (Nat.le_succ _) (.int .i64 x)).setCell (p := ⟨w.heap.size + 1, 1, none⟩) (Nat.le_succ _) (.int .i64 p)).drew
    refine ⟨_, results_rows2 rfl _ _ w.heap.size (w.heap.size + 1) _ _ _ _ (0, 0) (0, 0) _ _ rfl Z6 Tryz.underlying34 rfl info_ex9 rfl F6 Tryz.underlying41 rfl info_fault2, ?_⟩
    exact ⟨rfl, BB⟩
end Go.Proofs.YtedamaccflhmfaaGreatDoor
namespace Go.Proofs.YtedamaccflhmfaaGreatDoor
open Go.RowKit
attribute [local go_sem ↓] Go.wp_at_zero Go.wp_at_succ

theorem tks_not {w : World} {b off F : Nat} {l : List Lx.Tk} {x y : Int} {T : TypeId} (h : TksAt w b off l) (hl : l ≠ []) (hF : w.heap[F]? = some (.cells #[.int .i64 x, .int .i64 y] T (0, 0))) : b ≠ F := by
  intro e
  subst e
  have h0 := (h 0 (List.length_pos_iff.2 hl)).1
  rw [Joins.cell_of_block hF] at h0
  rcases off with _ | _ | off
  · cases h0
  · cases h0
  · simp at h0
theorem rd_new {W : World} {B : Nat} (hB : B = W.heap.size) (hP : PsTab W) (htb : tabB ≤ B) {a : Option Addr} {cap len : Nat} {l : List Lx.Tk} (hl : l.length ≤ 65536) (hlen : len ≤ 65536) (ht : l ≠ [] → ∃ b off, a = some ⟨b, off, none⟩ ∧ TksAt W b off l) : Rd (W.alloc (.cells #[.slice a l.length cap, .int .i64 0, .int .i64 len, .int .i64 0] 121)) B l 0 len 0 := by
  have hbl : Below W.heap.size W (W.alloc (.cells #[.slice a l.length cap, .int .i64 0, .int .i64 len, .int .i64 0] 121)) := (Below.refl _ _).alloc (Nat.le_refl _) _
  refine ⟨⟨a, cap, heap_new hB, fun hn => ?_⟩, Nat.zero_le _, hl, hlen, by decide, htb, hP.later hbl⟩
  obtain ⟨b, off, e, t⟩ := ht hn
  exact ⟨b, off, e, by rw [hB]; exact World.block_lt_of_cell? W _ (t 0 (List.length_pos_iff.2 hn)).1, t.later hbl⟩
/-- The reader that read makes. -/
theorem rd_lex {w w1 : World} {a : Option Addr} {cap len : Nat} {l : List Lx.Tk} {T : TypeId} (hP : PsTab w) (htb : tabB ≤ w.heap.size) (hb : Below w.heap.size w w1) (hF : w1.heap[w.heap.size + 1]? = some (.cells #[.int .i64 0, .int .i64 0] T (0, 0))) (hl : l.length ≤ 65536) (hlen : len ≤ 65536) (ht : l ≠ [] → ∃ b off, a = some ⟨b, off, none⟩ ∧ TksAt w1 b off l) : Rd (((w1.setCell ⟨w.heap.size + 1, 0, none⟩ (.int .i64 0)).setCell ⟨w.heap.size + 1, 1, none⟩ (.int .i64 0)).alloc (.cells #[.slice a l.length cap, .int .i64 0, .int .i64 len, .int .i64 0] 121)) w1.heap.size l 0 len 0 := by
  have hs : Steps (w.heap.size + 1) w1 ((w1.setCell ⟨w.heap.size + 1, 0, none⟩ (.int .i64 0)).setCell ⟨w.heap.size + 1, 1, none⟩ (.int .i64 0)) := ((Steps.refl _ w1).setCell (p := ⟨w.heap.size + 1, 0, none⟩) (.inr rfl) _).setCell (p := ⟨w.heap.size + 1, 1, none⟩) (.inr rfl) _
  have hz := hb.size
  refine rd_new (by simp [World.setCell]) ((hP.later hb).keep fun k hk => hs.block k (by omega) (by omega)) (by omega) hl hlen fun hn => ?_
  obtain ⟨b, off, e, t⟩ := ht hn
  exact ⟨b, off, e, t.steps hs (tks_not t hn hF)⟩
set_option maxRecDepth 100000 in
set_option maxHeartbeats 800000 in
theorem readE_ok (w : World) (s : ByteArray) (q : List Lx.Tk) (hs : s.size ≤ 65536) (hT : Tab2 w) (hP : PsTab w) (htb : tabB ≤ w.heap.size) (hq : Lx.lexA s.data.toList 0 = .ok q) : Calls Tryz.prog 24 #[.string s, .func (.func 25) #[] #[]] w fun e w' => (∃ x ts S, Ps.oneExpr q = .ok x ts ∧ e = .returned (.tuple #[exV x S, .agg #[.int .i64 0, .int .i64 0]]) ∧ ExAt (Fr w.heap.size) w' x S ∧ Below w.heap.size w w') ∨ (∃ c ts, Ps.oneExpr q = .no c ts ∧ e = .returned (.tuple #[exV (Ps.Ex.mk 0 ⟨0, 0, ⟨#[]⟩⟩ [] [] 0 0 []) (.slice none 0 0), .agg #[.int .i64 c, .int .i64 (Ps.faultAt s.size ts)]]) ∧ Below w.heap.size w w') := by
  have hql : q.length ≤ 65536 := by
    have := (gs_wf s.data.toList (by rw [l_size]; exact hs) q 0 (lex_gs hq)).2
    rw [l_size] at this
    omega
  have LK := hide (fun wx hx => lex_ok wx s q hs hx hq)
  have EG := hide eg_oneExpr
  have hmf : ∀ (fn : Fn) (first cap : Array Value) (w : World), (Instr.makeFunc fn first cap).run Tryz.prog w = .ok (.func fn first cap) w := fun _ _ _ _ => rfl
  have HT := hide hT
  have HP := hide hP
  have ON := hide (fun wx B hx => oneExpr_any wx B q 0 s.size hx)
  clear hq hT hP
  have EG2 : ∀ (args : Array Value) (w : World), (callFunc 25 args).run Tryz.prog w = .ok (.enter 25 args) w := eg_oneExpr
  go_enter_defers Tryz.func24, Tryz.ntmps24
  go_wp2_with (first
    | (go_at_call 15; refine (LK.out _ (tab2_two HT.out _ _)).mono ?_; rintro e w1 ⟨v, rfl, hv, hb⟩; obtain ⟨Z1, F1, hl1, B1⟩ := two_new hb; obtain ⟨a, cap, rfl, _, htk⟩ := hv.form; have HRD := hide (rd_lex (cap := cap) HP.out htb B1 F1 hql hs htk); have HZC := hide (alloc_keeps (heap_set_other (g := w.heap.size + 1) (i := 1) (heap_set_other (g := w.heap.size + 1) (i := 0) Z1 (Nat.ne_of_lt (Nat.lt_succ_self _)) (.int .i64 0)) (Nat.ne_of_lt (Nat.lt_succ_self _)) (.int .i64 0)) (.cells #[.slice a q.length cap, .int .i64 0, .int .i64 s.size, .int .i64 0] 121)); have HFC := hide (alloc_keeps (heap_set (i := 1) (heap_set (i := 0) F1 (.int .i64 0)) (.int .i64 0)) (.cells #[.slice a q.length cap, .int .i64 0, .int .i64 s.size, .int .i64 0] 121)); have HBC := hide (((B1.setCell (p := ⟨w.heap.size + 1, 0, none⟩) (Nat.le_succ _) (.int .i64 0)).setCell (p := ⟨w.heap.size + 1, 1, none⟩) (Nat.le_succ _) (.int .i64 0)).alloc (by simp [World.setCell]; omega) (.cells #[.slice a q.length cap, .int .i64 0, .int .i64 s.size, .int .i64 0] 121)); have nE : w.heap.size ≠ w1.heap.size := (by omega); have nF : w.heap.size + 1 ≠ w1.heap.size := (by omega); have fa0 := Joins.cell_of_block F1 0; have fb0 := Joins.unfrozen_of_block F1 0; have fa1 := Joins.cell_of_block F1 1; have fb1 := Joins.unfrozen_of_block F1 1; have HB1 := hide B1; clear hb hv htk Z1 F1 B1)
    | (guard_target =~ Calls _ _ _ _ _; refine (ON.out _ _ HRD.out).mono ?_; rintro e w3 hA; rcases hA.laid with (⟨o1, k1, n1, t1, tb1, nm1, sl1, kd1, ag1, sa1, sc1, q1, hq, rfl, hx1, hp1, hr1, hs3⟩ | ⟨c1, ts1, hq, rfl, hs3⟩) <;> (have HQ := hide hq; clear hq hA; have Z3 := hs3.keeps HZC.out nE; have F3 := hs3.keeps HFC.out nF; obtain ⟨⟨za0, za1, za2, za3, za4, za5, za6, za7, za8⟩, ⟨zb0, zb1, zb2, zb3, zb4, zb5, zb6, zb7, zb8⟩, _⟩ := sl9 Z3; have ga0 := Joins.cell_of_block F3 0; have gb0 := Joins.unfrozen_of_block F3 0; have ga1 := Joins.cell_of_block F3 1; have gb1 := Joins.unfrozen_of_block F3 1; have nl1 : ¬ w.heap.size + 1 = w.heap.size := Nat.succ_ne_self _; have nl2 : ¬ w.heap.size = w.heap.size + 1 := fun h => nl1 h.symm)))
  · refine leaves_cons (f := 53) (args := #[.pointer (some ⟨w.heap.size + 1, 0, none⟩)]) (by simp) (by simp [go_sem]) ?_
    refine (idle_expr _ _).mono ?_
    rintro e u' w'' ⟨rfl, rfl, rfl⟩
    have Z4 := put9_heap Z3 (.int .u8 o1) (.int .u8 k1) (.int .i64 n1) (.string t1) (.string ⟨tb1.toArray⟩) (.string ⟨nm1.toArray⟩) (.int .i64 sl1) (.int .u8 kd1) (.slice sa1 ag1.length sc1)
    have Z5 := heap_set_other (g := w.heap.size + 1) (i := 1) (heap_set_other (g := w.heap.size + 1) (i := 0) Z4 nl2 (.int .i64 0)) nl2 (.int .i64 0)
    have F4 := heap_set (i := 1) (heap_set (i := 0) (put9_other F3 nl1 (.int .u8 o1) (.int .u8 k1) (.int .i64 n1) (.string t1) (.string ⟨tb1.toArray⟩) (.string ⟨nm1.toArray⟩) (.int .i64 sl1) (.int .u8 kd1) (.slice sa1 ag1.length sc1)) (.int .i64 0)) (.int .i64 0)
    have BB := ((HBC.out.trans (hs3.below (b := w.heap.size) (by omega) (by simp [World.setCell]; omega))).trans (put9_below _ (Nat.le_refl _) (.int .u8 o1) (.int .u8 k1) (.int .i64 n1) (.string t1) (.string ⟨tb1.toArray⟩) (.string ⟨nm1.toArray⟩) (.int .i64 sl1) (.int .u8 kd1) (.slice sa1 ag1.length sc1))).setCell (p := ⟨w.heap.size + 1, 0, none⟩) (Nat.le_succ _) (.int .i64 0)
    have BB2 := BB.setCell (p := ⟨w.heap.size + 1, 1, none⟩) (Nat.le_succ _) (.int .i64 0)
    refine ⟨_, results_rows2 rfl _ _ w.heap.size (w.heap.size + 1) _ _ _ _ (0, 0) (0, 0) _ _ rfl Z5 Tryz.underlying34 rfl info_ex9 rfl F4 Tryz.underlying41 rfl info_fault2, ?_⟩
    have HX := ExAt.mono (Q := Fr (w.heap.size + 2)) (fun k hk => Nat.le_trans (by simp [World.setCell]; omega) (show _ ≤ k from hk)) _ _ hx1
    have KP : Kept (Fr (w.heap.size + 2)) w3 (((put9 w3 w.heap.size (.int .u8 o1) (.int .u8 k1) (.int .i64 n1) (.string t1) (.string ⟨tb1.toArray⟩) (.string ⟨nm1.toArray⟩) (.int .i64 sl1) (.int .u8 kd1) (.slice sa1 ag1.length sc1)).setCell ⟨w.heap.size + 1, 0, none⟩ (.int .i64 0)).setCell ⟨w.heap.size + 1, 1, none⟩ (.int .i64 0)) := fun k hk hl => by
      have h2 : w.heap.size + 2 ≤ k := hk
      refine (Below.heap_setCell _ ⟨w.heap.size + 1, 1, none⟩ _ k (by show k ≠ w.heap.size + 1; omega)).trans ((Below.heap_setCell _ ⟨w.heap.size + 1, 0, none⟩ _ k (by show k ≠ w.heap.size + 1; omega)).trans ?_)
      exact put9_kept w3 (P := Fr (w.heap.size + 2)) (R := w.heap.size) (fun h => absurd (show w.heap.size + 2 ≤ w.heap.size from h) (by omega)) (.int .u8 o1) (.int .u8 k1) (.int .i64 n1) (.string t1) (.string ⟨tb1.toArray⟩) (.string ⟨nm1.toArray⟩) (.int .i64 sl1) (.int .u8 kd1) (.slice sa1 ag1.length sc1) k hk hl
    exact .inl ⟨.mk o1 ⟨k1, n1, t1⟩ tb1 nm1 sl1 kd1 ag1, _, .slice sa1 ag1.length sc1, HQ.out, rfl, ExAt.keep KP (fun k hk _ => Nat.le_trans (Nat.le_add_right _ 2) (show w.heap.size + 2 ≤ k from hk)) _ _ HX, BB2⟩
  · refine leaves_cons (f := 53) (args := #[.pointer (some ⟨w.heap.size + 1, 0, none⟩)]) (by simp) (by simp [go_sem]) ?_
    refine (catch_expr (w.heap.size + 1) 0 0 c1 (Ps.faultAt s.size ts1) [] w3 (Array.getElem?_eq_some_iff.1 F3).1 ga0 ga1 gb0 gb1).mono ?_
    rintro e u' w'' ⟨rfl, rfl, rfl⟩
    have Z4 := alloc_keeps (heap_set_other (g := w.heap.size + 1) (i := 1) (heap_set_other (g := w.heap.size + 1) (i := 0) Z3 nl2 (.int .i64 c1)) nl2 (.int .i64 (Ps.faultAt s.size ts1))) (.cells #[.int .i64 c1, .int .i64 (Ps.faultAt s.size ts1)] 41)
    have F4 := alloc_keeps (heap_set (i := 1) (heap_set (i := 0) F3 (.int .i64 c1)) (.int .i64 (Ps.faultAt s.size ts1))) (.cells #[.int .i64 c1, .int .i64 (Ps.faultAt s.size ts1)] 41)
    have BB := (((HBC.out.trans (hs3.below (b := w.heap.size) (by omega) (by simp [World.setCell]; omega))).setCell (p := ⟨w.heap.size + 1, 0, none⟩) (Nat.le_succ _) (.int .i64 c1)).setCell (p := ⟨w.heap.size + 1, 1, none⟩) (Nat.le_succ _) (.int .i64 (Ps.faultAt s.size ts1)))
    have BB2 := BB.alloc BB.size (.cells #[.int .i64 c1, .int .i64 (Ps.faultAt s.size ts1)] 41)
    refine ⟨_, results_rows2 rfl _ _ w.heap.size (w.heap.size + 1) _ _ _ _ (0, 0) (0, 0) _ _ rfl Z4 Tryz.underlying34 rfl info_ex9 rfl F4 Tryz.underlying41 rfl info_fault2, ?_⟩
    exact .inr ⟨c1, ts1, HQ.out, rfl, BB2⟩
end Go.Proofs.YtedamaccflhmfaaGreatDoor
namespace Go.Proofs.YtedamaccflhmfaaGreatDoor
open Go.RowKit
attribute [local go_sem ↓] Go.wp_at_zero Go.wp_at_succ

/-- What Expr answers: fault, its place, the expression. -/
def exprR (s : ByteArray) : Int × Int × Ps.Ex := match Lx.lexA s.data.toList 0 with
  | .error (x, p) => (x, (p : Int), Ps.none')
  | .ok q => match Ps.oneExpr q with
    | .ok x _ => (0, 0, x)
    | .no c ts => (c, Ps.faultAt s.size ts, Ps.none')
abbrev ExprV (w : World) (s : ByteArray) (e : Ending) (w' : World) : Prop := ∃ S, e = .returned (.tuple #[exV (exprR s).2.2 S, .agg #[.int .i64 (exprR s).1, .int .i64 (exprR s).2.1]]) ∧ ExAt (Fr w.heap.size) w' (exprR s).2.2 S ∧ Below w.heap.size w w'
theorem readE_any (w : World) (s : ByteArray) (hs : s.size ≤ 65536) (hT : Tab2 w) (hP : PsTab w) (htb : tabB ≤ w.heap.size) : Calls Tryz.prog 24 #[.string s, .func (.func 25) #[] #[]] w (ExprV w s) := by
  rcases hq : Lx.lexA s.data.toList 0 with ⟨x, p⟩ | q
  · have e : exprR s = (x, (p : Int), Ps.none') := by rw [exprR, hq]
    refine (readE_bad w s x p hs hT (Lx.lexA_no hq).1 hq).mono ?_
    rintro _ w' ⟨rfl, hb⟩
    refine ⟨.slice none 0 0, ?_, ?_, hb⟩
    · rw [e]; rfl
    · rw [e]; exact zero_ex _ _
  · refine (readE_ok w s q hs hT hP htb hq).mono ?_
    rintro _ w' (⟨x, ts, S, hx, rfl, hat, hb⟩ | ⟨c, ts, hx, rfl, hb⟩)
    · have e : exprR s = (0, 0, x) := by rw [exprR, hq]; simp only [hx]
      exact ⟨S, by rw [e], by rw [e]; exact hat, hb⟩
    · have e : exprR s = (c, Ps.faultAt s.size ts, Ps.none') := by rw [exprR, hq]; simp only [hx]
      refine ⟨.slice none 0 0, ?_, ?_, hb⟩
      · rw [e]; rfl
      · rw [e]; exact zero_ex _ _
theorem le_two (w : World) (a b : Obj) : w.heap.size ≤ ((w.alloc a).alloc b).heap.size := by rw [World.size_alloc, World.size_alloc]; omega
set_option maxRecDepth 100000 in
set_option maxHeartbeats 800000 in
theorem Expr_any (w : World) (s : ByteArray) (hs : s.size ≤ 65536) (hT : Tab2 w) (hP : PsTab w) (htb : tabB ≤ w.heap.size) : Calls Tryz.prog 11 #[.string s] w (ExprV w s) := by
  have HT := hide (fun a b => tab2_two hT a b)
  have HP := hide (fun (a b : Obj) => (hP.later ((Below.refl _ _).alloc (Nat.le_refl _) a)).later ((Below.refl _ _).alloc (Nat.le_refl _) b))
  clear hT hP
  obtain ⟨c, hc⟩ : ∃ c, c = (exprR s).1 := ⟨_, rfl⟩
  obtain ⟨n, hn⟩ : ∃ n, n = (exprR s).2.1 := ⟨_, rfl⟩
  obtain ⟨o1, k1, n1, t1, tb1, nm1, sl1, kd1, ag1, hx⟩ : ∃ o k n t tb nm sl kd ag, (exprR s).2.2 = Ps.Ex.mk o ⟨k, n, t⟩ tb nm sl kd ag := by
    rcases (exprR s).2.2 with ⟨o, ⟨k, n, t⟩, tb, nm, sl, kd, ag⟩
    exact ⟨o, k, n, t, tb, nm, sl, kd, ag, rfl⟩
  have RD : Hid (∀ wx : World, Tab2 wx → PsTab wx → tabB ≤ wx.heap.size → Calls Tryz.prog 24 #[.string s, .func (.func 25) #[] #[]] wx fun e w' => ∃ sa1 sc1, e = .returned (.tuple #[.agg #[.int .u8 o1, .int .u8 k1, .int .i64 n1, .string t1, .string ⟨tb1.toArray⟩, .string ⟨nm1.toArray⟩, .int .i64 sl1, .int .u8 kd1, .slice sa1 ag1.length sc1], .agg #[.int .i64 c, .int .i64 n]]) ∧ ExAt (Fr wx.heap.size) w' (Ps.Ex.mk o1 ⟨k1, n1, t1⟩ tb1 nm1 sl1 kd1 ag1) (.slice sa1 ag1.length sc1) ∧ Below wx.heap.size wx w') := fun wx h1 h2 h3 => by
    have h := readE_any wx s hs h1 h2 h3
    unfold ExprV at h
    rw [← hc, ← hn, hx] at h
    refine h.mono ?_
    rintro e w' ⟨S, rfl, hat, hb⟩
    obtain ⟨sa1, sc1, rfl⟩ := ExAt.slice hat
    exact ⟨sa1, sc1, rfl, hat, hb⟩
  unfold ExprV
  rw [← hc, ← hn, hx]
  clear hc hn hx
  go_enter Tryz.func11, Tryz.ntmps11
  go_wp2_with (go_at_call 24; refine (RD.out _ (HT.out _ _) (HP.out _ _) (Nat.le_trans htb (le_two _ _ _))).mono ?_; go_loud (rintro e w1 ⟨sa1, sc1, rfl, hat, hb⟩; obtain ⟨Z1, F1, hl1, B1⟩ := two_new hb; obtain ⟨⟨za0, za1, za2, za3, za4, za5, za6, za7, za8⟩, ⟨zb0, zb1, zb2, zb3, zb4, zb5, zb6, zb7, zb8⟩, _⟩ := sl9 Z1; have fa0 := Joins.cell_of_block F1 0; have fb0 := Joins.unfrozen_of_block F1 0; have fa1 := Joins.cell_of_block F1 1; have fb1 := Joins.unfrozen_of_block F1 1; have nl1 : ¬ w.heap.size + 1 = w.heap.size := Nat.succ_ne_self _; have nl2 : ¬ w.heap.size = w.heap.size + 1 := fun h => nl1 h.symm; have HX := hide hat; clear hb hat))
  have Z4 := put9_heap Z1 (.int .u8 o1) (.int .u8 k1) (.int .i64 n1) (.string t1) (.string ⟨tb1.toArray⟩) (.string ⟨nm1.toArray⟩) (.int .i64 sl1) (.int .u8 kd1) (.slice sa1 ag1.length sc1)
  have Z5 := heap_set_other (g := w.heap.size + 1) (i := 1) (heap_set_other (g := w.heap.size + 1) (i := 0) Z4 nl2 (.int .i64 c)) nl2 (.int .i64 n)
  have F4 := heap_set (i := 1) (heap_set (i := 0) (put9_other F1 nl1 (.int .u8 o1) (.int .u8 k1) (.int .i64 n1) (.string t1) (.string ⟨tb1.toArray⟩) (.string ⟨nm1.toArray⟩) (.int .i64 sl1) (.int .u8 kd1) (.slice sa1 ag1.length sc1)) (.int .i64 c)) (.int .i64 n)
  have BB := ((B1.trans (put9_below _ (Nat.le_refl _) (.int .u8 o1) (.int .u8 k1) (.int .i64 n1) (.string t1) (.string ⟨tb1.toArray⟩) (.string ⟨nm1.toArray⟩) (.int .i64 sl1) (.int .u8 kd1) (.slice sa1 ag1.length sc1))).setCell (p := ⟨w.heap.size + 1, 0, none⟩) (Nat.le_succ _) (.int .i64 c)).setCell (p := ⟨w.heap.size + 1, 1, none⟩) (Nat.le_succ _) (.int .i64 n)
  refine bodyPost_ret (results_rows2 (by rfl) _ _ w.heap.size (w.heap.size + 1) _ _ _ _ (0, 0) (0, 0) _ _ (by rfl) Z5 Tryz.underlying34 rfl info_ex9 (by rfl) F4 Tryz.underlying41 rfl info_fault2) (by rfl) ?_
  have HX2 := ExAt.mono (Q := Fr (w.heap.size + 2)) (fun k hk => Nat.le_trans (by simp) (show _ ≤ k from hk)) _ _ HX.out
  have KP : Kept (Fr (w.heap.size + 2)) w1 (((put9 w1 w.heap.size (.int .u8 o1) (.int .u8 k1) (.int .i64 n1) (.string t1) (.string ⟨tb1.toArray⟩) (.string ⟨nm1.toArray⟩) (.int .i64 sl1) (.int .u8 kd1) (.slice sa1 ag1.length sc1)).setCell ⟨w.heap.size + 1, 0, none⟩ (.int .i64 c)).setCell ⟨w.heap.size + 1, 1, none⟩ (.int .i64 n)) := fun k hk hl => by
    have h2 : w.heap.size + 2 ≤ k := hk
    refine (Below.heap_setCell _ ⟨w.heap.size + 1, 1, none⟩ _ k (by show k ≠ w.heap.size + 1; omega)).trans ((Below.heap_setCell _ ⟨w.heap.size + 1, 0, none⟩ _ k (by show k ≠ w.heap.size + 1; omega)).trans ?_)
    exact put9_kept w1 (P := Fr (w.heap.size + 2)) (R := w.heap.size) (fun h => absurd (show w.heap.size + 2 ≤ w.heap.size from h) (by omega)) (.int .u8 o1) (.int .u8 k1) (.int .i64 n1) (.string t1) (.string ⟨tb1.toArray⟩) (.string ⟨nm1.toArray⟩) (.int .i64 sl1) (.int .u8 kd1) (.slice sa1 ag1.length sc1) k hk hl
  exact ⟨.slice sa1 ag1.length sc1, rfl, ExAt.keep KP (fun k hk _ => Nat.le_trans (Nat.le_add_right _ 2) (show w.heap.size + 2 ≤ k from hk)) _ _ HX2, BB⟩
end Go.Proofs.YtedamaccflhmfaaGreatDoor
