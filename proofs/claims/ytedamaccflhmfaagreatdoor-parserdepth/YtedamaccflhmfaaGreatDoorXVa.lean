/-
  Package parser: read, a statement that no tokens are. .. and what follows from it.
-/
import Derived.Test.YtedamaccflhmfaaGreatDoorXY
namespace Go.Proofs.YtedamaccflhmfaaGreatDoor
open Go.RowKit
attribute [local go_sem ↓] Go.wp_at_zero Go.wp_at_succ

/-- The nothing that a statement is ahead of all. -/
abbrev zSt : Array Value := (stC { kind := 0 } noSls).toArray
theorem zSt_is : zSt = #[.int .u8 0, .string ⟨#[]⟩, .string ⟨#[]⟩, .slice none 0 0, .slice none 0 0, .bool false, .slice none 0 0, .slice none 0 0, .slice none 0 0, .slice none 0 0, .int .u8 0, .int .u8 0, .int .i64 0, .string ⟨#[]⟩, .string ⟨#[]⟩, .string ⟨#[]⟩, .int .i64 0, .int .u8 0, .slice none 0 0, .slice none 0 0, .slice none 0 0, .int .i64 0, .slice none 0 0] := rfl
set_option maxRecDepth 100000 in
theorem eg_oneStmt (args : Array Value) (w : World) : (callFunc 20 args).run Tryz.prog w = .ok (.enter 20 args) w := rfl
/-- A struct's load, at a step of a region that draws its order. -/
theorem step_load_row {ops : Array Oper} {o : Oper} {a : Act} {K : Act → World → Prop} {Q : Exit → Act → World → Prop} {E : Prop} {w : World} (hgd : o.guard = none) (ty : TypeId) (x : Operand) (ho : o.op = .load ty x)
    (g : Nat) (hx : a.eval x = .pointer (some ⟨g, 0, none⟩)) (t : TypeId) (cs : Array Value) (fs : Array Field) (hg : w.heap[g]? = some (.cells cs t (0, 0)))
    (hu : Tryz.prog.underlying ty = some (.struct fs)) (hi : (Tryz.prog.info? ty).map (·.size) = some cs.size)
    (h : K (a.put o.dst (.agg cs)) w) : if Region.wanted o (yielded ops a.tmps) = true then Oper.wp Tryz.prog o a w K Q else E := by
  have hw : Region.wanted o (yielded ops a.tmps) = true := by simp [Region.wanted, hgd]
  rw [if_pos hw]
  exact wp_load_row ty x ho g hx t cs (0, 0) (.struct fs) hg hu rfl hi h
/-- A store of what is there: nothing is changed. -/
theorem step_store_same {ops : Array Oper} {o : Oper} {a : Act} {K : Act → World → Prop} {Q : Exit → Act → World → Prop} {E : Prop} {w : World} (hgd : o.guard = none) (ty : TypeId) (x y : Operand) (ho : o.op = .store ty x y)
    (g : Nat) (cs : Array Value) (hx : a.eval x = .pointer (some ⟨g, 0, none⟩)) (hy : a.eval y = .agg cs) (t : TypeId) (hg : w.heap[g]? = some (.cells cs t (0, 0)))
    (hi : (Tryz.prog.info? ty).map (·.size) = some cs.size) (h1 : cs.all (·.oneCell') = true)
    (h : K (a.put o.dst undef) w) : if Region.wanted o (yielded ops a.tmps) = true then Oper.wp Tryz.prog o a w K Q else E := by
  have hw : Region.wanted o (yielded ops a.tmps) = true := by simp [Region.wanted, hgd]
  rw [if_pos hw]
  refine wp_store_row ty x y ho g cs hx hy t cs hg hi rfl h1 ?_
  rw [setRow_self w g cs t (0, 0) hg]
  exact h
theorem zSt_one (w : World) : zSt.all (·.oneCell') = true := stC_one (StAt.nil 0 w 0 [] [] false 0)
theorem two_one (x p : Int) : (#[Value.int .i64 x, .int .i64 p] : Array Value).all (·.oneCell') = true := by
  rw [Array.all_eq_true_iff_forall_mem]
  intro u hu
  simp only [List.mem_toArray, List.mem_cons, List.not_mem_nil, or_false] at hu
  rcases hu with rfl | rfl <;> rfl
set_option maxRecDepth 100000 in
set_option maxHeartbeats 1600000 in
theorem readS_bad (w : World) (s : ByteArray) (x : Int) (p : Nat) (hs : s.size ≤ 65536) (hT : Tab2 w) (hx0 : ¬ x = 0) (hq : Lx.lexA s.data.toList 0 = .error (x, p)) : Calls Tryz.prog 19 #[.string s, .func (.func 20) #[] #[]] w fun e w' => e = .returned (.tuple #[.agg zSt, .agg #[.int .i64 x, .int .i64 p]]) ∧ Below w.heap.size w w' := by
  have LB := hide (fun wx hx => lex_bad wx s x p hs hx hq)
  have HT := hide hT
  clear hq hT
  go_enter_defers Tryz.func19, Tryz.ntmps19
  go_wp2_with (go_at_call 15; refine (LB.out _ (tab2_two HT.out _ _)).mono ?_; rintro e w1 ⟨rfl, hb⟩; obtain ⟨Z1, F1, hl1, B1⟩ := two_new hb; have fa0 := Joins.cell_of_block F1 0; have fb0 := Joins.unfrozen_of_block F1 0; have fa1 := Joins.cell_of_block F1 1; have fb1 := Joins.unfrozen_of_block F1 1; have nl1 : ¬ w.heap.size + 1 = w.heap.size := Nat.succ_ne_self _; have nl2 : ¬ w.heap.size = w.heap.size + 1 := fun h => nl1 h.symm; have Z3 := hide (heap_set_other (g := w.heap.size + 1) (i := 1) (heap_set_other (g := w.heap.size + 1) (i := 0) Z1 nl2 (.int .i64 x)) nl2 (.int .i64 p)); have F3 := hide (heap_set (i := 1) (heap_set (i := 0) F1 (.int .i64 x)) (.int .i64 p)); have BB := hide ((B1.setCell (p := ⟨w.heap.size + 1, 0, none⟩) (Nat.le_succ _) (.int .i64 x)).setCell (p := ⟨w.heap.size + 1, 1, none⟩) (Nat.le_succ _) (.int .i64 p)).drew; clear hb Z1 B1)
  generalize hW : (w1.setCell ⟨w.heap.size + 1, 0, none⟩ (.int .i64 x)).setCell ⟨w.heap.size + 1, 1, none⟩ (.int .i64 p) = W at Z3 F3 BB ⊢
  clear F1 fa0 fb0 fa1 fb1 hW hl1
  refine wp_region_any (by kernel_rfl) ?_
  change wpAny _ _ _ _ _ _ _ (World.drew _)
  refine wpAny_ready (rs := [0, 1]) (by kernel_rfl) (by simp) ?_
  refine AllReady.cons rfl (fun K hK => ?_) ?_
  · refine step_load_row (by rfl) 38 (.tmp 4) (by rfl) w.heap.size (by rfl) 38 _ _ (heap_drew Z3.out) Tryz.underlying38 (info_st { kind := 0 } noSls) ?_
    refine hK _ _ ?_
    clear hK K
    refine wpAny_ready (rs := [1, 2]) (by kernel_rfl) (by simp) ?_
    refine AllReady.cons rfl (fun K hK => ?_) ?_
    · refine step_load_row (by rfl) 41 (.tmp 5) (by rfl) (w.heap.size + 1) (by rfl) 41 _ _ (heap_drew F3.out) Tryz.underlying41 info_fault2 ?_
      refine hK _ _ ?_
      clear hK K
      refine wpAny_ready (rs := [2]) (by kernel_rfl) (by simp) ?_
      refine AllReady.cons rfl (fun K hK => ?_) ?_
      · refine step_store_same (by rfl) 38 (.tmp 4) (.tmp 15) (by rfl) w.heap.size _ (by rfl) (by rfl) 38 (heap_drew Z3.out) (info_st { kind := 0 } noSls) (zSt_one w) ?_
        refine hK _ _ ?_
        clear hK K
        refine wpAny_ready (rs := [3]) (by kernel_rfl) (by simp) ?_
        refine AllReady.cons rfl (fun K hK => ?_) ?_
        · refine step_store_same (by rfl) 41 (.tmp 5) (.tmp 16) (by rfl) (w.heap.size + 1) _ (by rfl) (by rfl) 41 (heap_drew F3.out) info_fault2 (two_one _ _) ?_
          refine hK _ _ ?_
          clear hK K
          refine wpAny_done (by kernel_rfl) ?_ _
          try go_simp
          go_wp2_with (fail)
          refine ⟨_, results_rows2 rfl _ _ w.heap.size (w.heap.size + 1) _ _ _ _ (0, 0) (0, 0) _ _ rfl (heap_drew Z3.out) Tryz.underlying38 rfl (info_st { kind := 0 } noSls) rfl (heap_drew F3.out) Tryz.underlying41 rfl info_fault2, rfl, BB.out⟩
        exact AllReady.nil
      exact AllReady.nil
    refine AllReady.cons rfl (fun K hK => ?_) ?_
    · refine step_store_same (by rfl) 38 (.tmp 4) (.tmp 15) (by rfl) w.heap.size _ (by rfl) (by rfl) 38 (heap_drew Z3.out) (info_st { kind := 0 } noSls) (zSt_one w) ?_
      refine hK _ _ ?_
      clear hK K
      refine wpAny_ready (rs := [1]) (by kernel_rfl) (by simp) ?_
      refine AllReady.cons rfl (fun K hK => ?_) ?_
      · refine step_load_row (by rfl) 41 (.tmp 5) (by rfl) (w.heap.size + 1) (by rfl) 41 _ _ (heap_drew F3.out) Tryz.underlying41 info_fault2 ?_
        refine hK _ _ ?_
        clear hK K
        refine wpAny_ready (rs := [3]) (by kernel_rfl) (by simp) ?_
        refine AllReady.cons rfl (fun K hK => ?_) ?_
        · refine step_store_same (by rfl) 41 (.tmp 5) (.tmp 16) (by rfl) (w.heap.size + 1) _ (by rfl) (by rfl) 41 (heap_drew F3.out) info_fault2 (two_one _ _) ?_
          refine hK _ _ ?_
          clear hK K
          refine wpAny_done (by kernel_rfl) ?_ _
          try go_simp
          go_wp2_with (fail)
          refine ⟨_, results_rows2 rfl _ _ w.heap.size (w.heap.size + 1) _ _ _ _ (0, 0) (0, 0) _ _ rfl (heap_drew Z3.out) Tryz.underlying38 rfl (info_st { kind := 0 } noSls) rfl (heap_drew F3.out) Tryz.underlying41 rfl info_fault2, rfl, BB.out⟩
        exact AllReady.nil
      exact AllReady.nil
    exact AllReady.nil
  refine AllReady.cons rfl (fun K hK => ?_) ?_
  · refine step_load_row (by rfl) 41 (.tmp 5) (by rfl) (w.heap.size + 1) (by rfl) 41 _ _ (heap_drew F3.out) Tryz.underlying41 info_fault2 ?_
    refine hK _ _ ?_
    clear hK K
    refine wpAny_ready (rs := [0]) (by kernel_rfl) (by simp) ?_
    refine AllReady.cons rfl (fun K hK => ?_) ?_
    · refine step_load_row (by rfl) 38 (.tmp 4) (by rfl) w.heap.size (by rfl) 38 _ _ (heap_drew Z3.out) Tryz.underlying38 (info_st { kind := 0 } noSls) ?_
      refine hK _ _ ?_
      clear hK K
      refine wpAny_ready (rs := [2]) (by kernel_rfl) (by simp) ?_
      refine AllReady.cons rfl (fun K hK => ?_) ?_
      · refine step_store_same (by rfl) 38 (.tmp 4) (.tmp 15) (by rfl) w.heap.size _ (by rfl) (by rfl) 38 (heap_drew Z3.out) (info_st { kind := 0 } noSls) (zSt_one w) ?_
        refine hK _ _ ?_
        clear hK K
        refine wpAny_ready (rs := [3]) (by kernel_rfl) (by simp) ?_
        refine AllReady.cons rfl (fun K hK => ?_) ?_
        · refine step_store_same (by rfl) 41 (.tmp 5) (.tmp 16) (by rfl) (w.heap.size + 1) _ (by rfl) (by rfl) 41 (heap_drew F3.out) info_fault2 (two_one _ _) ?_
          refine hK _ _ ?_
          clear hK K
          refine wpAny_done (by kernel_rfl) ?_ _
          try go_simp
          go_wp2_with (fail)
          refine ⟨_, results_rows2 rfl _ _ w.heap.size (w.heap.size + 1) _ _ _ _ (0, 0) (0, 0) _ _ rfl (heap_drew Z3.out) Tryz.underlying38 rfl (info_st { kind := 0 } noSls) rfl (heap_drew F3.out) Tryz.underlying41 rfl info_fault2, rfl, BB.out⟩
        exact AllReady.nil
      exact AllReady.nil
    exact AllReady.nil
  exact AllReady.nil
end Go.Proofs.YtedamaccflhmfaaGreatDoor
namespace Go.Proofs.YtedamaccflhmfaaGreatDoor
open Go.RowKit
attribute [local go_sem ↓] Go.wp_at_zero Go.wp_at_succ

theorem below_row {b g : Nat} {w0 w : World} (h : Below b w0 w) (hg : b ≤ g) (cs : Array Value) : Below b w0 (w.setRow g cs) :=
  ⟨h.os, h.tape, h.output, by simpa using h.size, fun k hk => (setRow_other w g k cs (by omega)).trans (h.block k hk)⟩
set_option maxRecDepth 100000 in
set_option maxHeartbeats 800000 in
theorem readS_ok (w : World) (s : ByteArray) (q : List Lx.Tk) (hs : s.size ≤ 65536) (hT : Tab2 w) (hP : PsTab w) (htb : tabB ≤ w.heap.size) (hq : Lx.lexA s.data.toList 0 = .ok q) : Calls Tryz.prog 19 #[.string s, .func (.func 20) #[] #[]] w fun e w' => (∃ x ts S, Ps.oneStmt q = .ok x ts ∧ e = .returned (.tuple #[.agg (stC x S).toArray, .agg #[.int .i64 0, .int .i64 0]]) ∧ StAt w.heap.size w' x S ∧ Below w.heap.size w w') ∨ (∃ c ts, Ps.oneStmt q = .no c ts ∧ e = .returned (.tuple #[.agg zSt, .agg #[.int .i64 c, .int .i64 (Ps.faultAt s.size ts)]]) ∧ Below w.heap.size w w') := by
  have hql : q.length ≤ 65536 := by
    have := (gs_wf s.data.toList (by rw [l_size]; exact hs) q 0 (lex_gs hq)).2
    rw [l_size] at this
    omega
  have LK := hide (fun wx hx => lex_ok wx s q hs hx hq)
  have hmf : ∀ (fn : Fn) (first cap : Array Value) (w : World), (Instr.makeFunc fn first cap).run Tryz.prog w = .ok (.func fn first cap) w := fun _ _ _ _ => rfl
  have HT := hide hT
  have HP := hide hP
  have ON := hide (fun wx B hx => stmt_all B q s.size wx 0 hx)
  clear hq hT hP
  have EG2 : ∀ (args : Array Value) (w : World), (callFunc 20 args).run Tryz.prog w = .ok (.enter 20 args) w := eg_oneStmt
  go_enter_defers Tryz.func19, Tryz.ntmps19
  go_wp2_with (first
    | (go_at_call 15; refine (LK.out _ (tab2_two HT.out _ _)).mono ?_; rintro e w1 ⟨v, rfl, hv, hb⟩; obtain ⟨Z1, F1, hl1, B1⟩ := two_new hb; obtain ⟨a, cap, rfl, _, htk⟩ := hv.form; have HRD := hide (rd_lex (cap := cap) HP.out htb B1 F1 hql hs htk); have HZC := hide (alloc_keeps (heap_set_other (g := w.heap.size + 1) (i := 1) (heap_set_other (g := w.heap.size + 1) (i := 0) Z1 (Nat.ne_of_lt (Nat.lt_succ_self _)) (.int .i64 0)) (Nat.ne_of_lt (Nat.lt_succ_self _)) (.int .i64 0)) (.cells #[.slice a q.length cap, .int .i64 0, .int .i64 s.size, .int .i64 0] 121)); have HFC := hide (alloc_keeps (heap_set (i := 1) (heap_set (i := 0) F1 (.int .i64 0)) (.int .i64 0)) (.cells #[.slice a q.length cap, .int .i64 0, .int .i64 s.size, .int .i64 0] 121)); have HBC := hide (((B1.setCell (p := ⟨w.heap.size + 1, 0, none⟩) (Nat.le_succ _) (.int .i64 0)).setCell (p := ⟨w.heap.size + 1, 1, none⟩) (Nat.le_succ _) (.int .i64 0)).alloc (by simp [World.setCell]; omega) (.cells #[.slice a q.length cap, .int .i64 0, .int .i64 s.size, .int .i64 0] 121)); have nE : w.heap.size ≠ w1.heap.size := (by omega); have nF : w.heap.size + 1 ≠ w1.heap.size := (by omega); have fa0 := Joins.cell_of_block F1 0; have fb0 := Joins.unfrozen_of_block F1 0; have fa1 := Joins.cell_of_block F1 1; have fb1 := Joins.unfrozen_of_block F1 1; have HB1 := hide B1; clear hb hv htk Z1 F1 B1)
    | (guard_target =~ Calls _ _ _ _ _; refine (ON.out _ _ HRD.out).mono ?_; rintro e w3 hA; rcases hA.elim with (⟨x1, q1, V1, hq, rfl, hv1, hp1, hr1, hs3⟩ | ⟨c1, ts1, hq, rfl, hs3⟩) <;> (have HQ := hide hq; clear hq hA; have Z3 := hs3.keeps HZC.out nE; have F3 := hs3.keeps HFC.out nF; have ga0 := Joins.cell_of_block F3 0; have gb0 := Joins.unfrozen_of_block F3 0; have ga1 := Joins.cell_of_block F3 1; have gb1 := Joins.unfrozen_of_block F3 1; have nl1 : ¬ w.heap.size + 1 = w.heap.size := Nat.succ_ne_self _; have nl2 : ¬ w.heap.size = w.heap.size + 1 := fun h => nl1 h.symm); obtain ⟨S1, rfl, hst⟩ := hv1; have HST := hide hst; clear hst hr1; have F4 := (setRow_other w3 w.heap.size (w.heap.size + 1) (stC x1 S1).toArray nl1).trans F3; have ha0 := Joins.cell_of_block F4 0; have hb0 := Joins.unfrozen_of_block F4 0; have ha1 := Joins.cell_of_block F4 1; have hb1 := Joins.unfrozen_of_block F4 1)
    | (refine wpList_store_row rfl 38 (.tmp 4) (.tmp 24) rfl w.heap.size _ rfl rfl 38 _ Z3 (info_st _ _) ?ho ?h1 ?_; (case ho => rw [stC_size]; rfl); (case h1 => exact stC_one HST.out)))
  · refine leaves_cons (f := 48) (args := #[.pointer (some ⟨w.heap.size + 1, 0, none⟩)]) (by simp) (by simp [go_sem]) ?_
    refine (idle_stmt _ _).mono ?_
    rintro e u' w'' ⟨rfl, rfl, rfl⟩
    have Z5 := heap_set_other (g := w.heap.size + 1) (i := 1) (heap_set_other (g := w.heap.size + 1) (i := 0) (setRow_heap w3 _ _ (stC x1 S1).toArray _ _ Z3) nl2 (.int .i64 0)) nl2 (.int .i64 0)
    have F5 := heap_set (i := 1) (heap_set (i := 0) F4 (.int .i64 0)) (.int .i64 0)
    have BB := (below_row (HBC.out.trans (hs3.below (b := w.heap.size) (by omega) (by simp [World.setCell]; omega))) (Nat.le_refl w.heap.size) (stC x1 S1).toArray).setCell (p := ⟨w.heap.size + 1, 0, none⟩) (Nat.le_succ _) (.int .i64 0)
    have BB2 := BB.setCell (p := ⟨w.heap.size + 1, 1, none⟩) (Nat.le_succ _) (.int .i64 0)
    refine ⟨_, results_rows2 rfl _ _ w.heap.size (w.heap.size + 1) _ _ _ _ (0, 0) (0, 0) _ _ rfl Z5 Tryz.underlying38 rfl (info_st _ _) rfl F5 Tryz.underlying41 rfl info_fault2, ?_⟩
    refine .inl ⟨x1, _, S1, HQ.out, rfl, HST.out.keep (fun k hk hl => ?_) ?_, BB2⟩
    · have h2 : w.heap.size + 2 ≤ k := Nat.le_trans (by simp [World.setCell]; omega) (show _ ≤ k from hk)
      exact (Below.heap_setCell _ ⟨w.heap.size + 1, 1, none⟩ _ k (by show k ≠ w.heap.size + 1; omega)).trans ((Below.heap_setCell _ ⟨w.heap.size + 1, 0, none⟩ _ k (by show k ≠ w.heap.size + 1; omega)).trans (setRow_other w3 _ k _ (by omega)))
    · simp [World.setCell]; omega
  · refine leaves_cons (f := 48) (args := #[.pointer (some ⟨w.heap.size + 1, 0, none⟩)]) (by simp) (by simp [go_sem]) ?_
    refine (catch_stmt (w.heap.size + 1) 0 0 c1 (Ps.faultAt s.size ts1) [] w3 (Array.getElem?_eq_some_iff.1 F3).1 ga0 ga1 gb0 gb1).mono ?_
    rintro e u' w'' ⟨rfl, rfl, rfl⟩
    have Z4 := alloc_keeps (heap_set_other (g := w.heap.size + 1) (i := 1) (heap_set_other (g := w.heap.size + 1) (i := 0) Z3 nl2 (.int .i64 c1)) nl2 (.int .i64 (Ps.faultAt s.size ts1))) (.cells #[.int .i64 c1, .int .i64 (Ps.faultAt s.size ts1)] 41)
    have F4 := alloc_keeps (heap_set (i := 1) (heap_set (i := 0) F3 (.int .i64 c1)) (.int .i64 (Ps.faultAt s.size ts1))) (.cells #[.int .i64 c1, .int .i64 (Ps.faultAt s.size ts1)] 41)
    have BB := (((HBC.out.trans (hs3.below (b := w.heap.size) (by omega) (by simp [World.setCell]; omega))).setCell (p := ⟨w.heap.size + 1, 0, none⟩) (Nat.le_succ _) (.int .i64 c1)).setCell (p := ⟨w.heap.size + 1, 1, none⟩) (Nat.le_succ _) (.int .i64 (Ps.faultAt s.size ts1)))
    have BB2 := BB.alloc BB.size (.cells #[.int .i64 c1, .int .i64 (Ps.faultAt s.size ts1)] 41)
    refine ⟨_, results_rows2 rfl _ _ w.heap.size (w.heap.size + 1) _ _ _ _ (0, 0) (0, 0) _ _ rfl Z4 Tryz.underlying38 rfl (info_st { kind := 0 } noSls) rfl F4 Tryz.underlying41 rfl info_fault2, ?_⟩
    exact .inr ⟨c1, ts1, HQ.out, rfl, BB2⟩

/-- What Parse answers: fault, its place, the statement. -/
def stmtR (s : ByteArray) : Int × Int × Ps.St := match Lx.lexA s.data.toList 0 with
  | .error (x, p) => (x, (p : Int), { kind := 0 })
  | .ok q => match Ps.oneStmt q with
    | .ok x _ => (0, 0, x)
    | .no c ts => (c, Ps.faultAt s.size ts, { kind := 0 })
abbrev StmtV (w : World) (s : ByteArray) (e : Ending) (w' : World) : Prop := ∃ S, e = .returned (.tuple #[.agg (stC (stmtR s).2.2 S).toArray, .agg #[.int .i64 (stmtR s).1, .int .i64 (stmtR s).2.1]]) ∧ StAt w.heap.size w' (stmtR s).2.2 S ∧ Below w.heap.size w w'
theorem readS_any (w : World) (s : ByteArray) (hs : s.size ≤ 65536) (hT : Tab2 w) (hP : PsTab w) (htb : tabB ≤ w.heap.size) : Calls Tryz.prog 19 #[.string s, .func (.func 20) #[] #[]] w (StmtV w s) := by
  rcases hq : Lx.lexA s.data.toList 0 with ⟨x, p⟩ | q
  · have e : stmtR s = (x, (p : Int), { kind := 0 }) := by rw [stmtR, hq]
    refine (readS_bad w s x p hs hT (Lx.lexA_no hq).1 hq).mono ?_
    rintro _ w' ⟨rfl, hb⟩
    refine ⟨noSls, ?_, ?_, hb⟩
    · rw [e]
    · rw [e]; exact StAt.nil _ _ 0 [] [] false 0
  · refine (readS_ok w s q hs hT hP htb hq).mono ?_
    rintro _ w' (⟨x, ts, S, hx, rfl, hat, hb⟩ | ⟨c, ts, hx, rfl, hb⟩)
    · have e : stmtR s = (0, 0, x) := by rw [stmtR, hq]; simp only [hx]
      exact ⟨S, by rw [e], by rw [e]; exact hat, hb⟩
    · have e : stmtR s = (c, Ps.faultAt s.size ts, { kind := 0 }) := by rw [stmtR, hq]; simp only [hx]
      refine ⟨noSls, ?_, ?_, hb⟩
      · rw [e]
      · rw [e]; exact StAt.nil _ _ 0 [] [] false 0
set_option maxRecDepth 100000 in
set_option maxHeartbeats 800000 in
theorem Parse_any (w : World) (s : ByteArray) (hs : s.size ≤ 65536) (hT : Tab2 w) (hP : PsTab w) (htb : tabB ≤ w.heap.size) : Calls Tryz.prog 6 #[.string s] w (StmtV w s) := by
  have HT := hide (fun a b => tab2_two hT a b)
  have HP := hide (fun (a b : Obj) => (hP.later ((Below.refl _ _).alloc (Nat.le_refl _) a)).later ((Below.refl _ _).alloc (Nat.le_refl _) b))
  clear hT hP
  obtain ⟨c, hc⟩ : ∃ c, c = (stmtR s).1 := ⟨_, rfl⟩
  obtain ⟨n, hn⟩ : ∃ n, n = (stmtR s).2.1 := ⟨_, rfl⟩
  obtain ⟨x, hx⟩ : ∃ x, x = (stmtR s).2.2 := ⟨_, rfl⟩
  have RD : Hid (∀ wx : World, Tab2 wx → PsTab wx → tabB ≤ wx.heap.size → Calls Tryz.prog 19 #[.string s, .func (.func 20) #[] #[]] wx fun e w' => ∃ S, e = .returned (.tuple #[.agg (stC x S).toArray, .agg #[.int .i64 c, .int .i64 n]]) ∧ StAt wx.heap.size w' x S ∧ Below wx.heap.size wx w') := fun wx h1 h2 h3 => by
    have h := readS_any wx s hs h1 h2 h3
    unfold StmtV at h
    rw [← hc, ← hn, ← hx] at h
    exact h
  unfold StmtV
  rw [← hc, ← hn, ← hx]
  clear hc hn hx
  go_enter Tryz.func6, Tryz.ntmps6
  go_wp2_with (first
    | (go_at_call 19; refine (RD.out _ (HT.out _ _) (HP.out _ _) (Nat.le_trans htb (le_two _ _ _))).mono ?_; rintro e w1 ⟨S1, rfl, hat, hb⟩; obtain ⟨Z1, F1, hl1, B1⟩ := two_new hb; have nl1 : ¬ w.heap.size + 1 = w.heap.size := Nat.succ_ne_self _; have nl2 : ¬ w.heap.size = w.heap.size + 1 := fun h => nl1 h.symm; have HX := hide hat; clear hb hat; have F4 := (setRow_other w1 w.heap.size (w.heap.size + 1) (stC x S1).toArray nl1).trans F1; have ha0 := Joins.cell_of_block F4 0; have hb0 := Joins.unfrozen_of_block F4 0; have ha1 := Joins.cell_of_block F4 1; have hb1 := Joins.unfrozen_of_block F4 1)
    | (refine wpList_store_row rfl 38 (.tmp 2) (.tmp 6) rfl w.heap.size _ rfl rfl 38 _ Z1 (info_st _ _) ?ho ?h1 ?_; (case ho => rw [stC_size]; rfl); (case h1 => exact stC_one HX.out)))
  have Z5 := heap_set_other (g := w.heap.size + 1) (i := 1) (heap_set_other (g := w.heap.size + 1) (i := 0) (setRow_heap w1 _ _ (stC x S1).toArray _ _ Z1) nl2 (.int .i64 c)) nl2 (.int .i64 n)
  have F5 := heap_set (i := 1) (heap_set (i := 0) F4 (.int .i64 c)) (.int .i64 n)
  have BB := ((below_row B1 (Nat.le_refl w.heap.size) (stC x S1).toArray).setCell (p := ⟨w.heap.size + 1, 0, none⟩) (Nat.le_succ _) (.int .i64 c)).setCell (p := ⟨w.heap.size + 1, 1, none⟩) (Nat.le_succ _) (.int .i64 n)
  refine bodyPost_ret (results_rows2 (by rfl) _ _ w.heap.size (w.heap.size + 1) _ _ _ _ (0, 0) (0, 0) _ _ (by rfl) Z5 Tryz.underlying38 rfl (info_st _ _) (by rfl) F5 Tryz.underlying41 rfl info_fault2) (by rfl) ?_
  refine ⟨S1, rfl, HX.out.keep (fun k hk hl => ?_) (le_two _ _ _), BB⟩
  have h2 : w.heap.size + 2 ≤ k := Nat.le_trans (by simp) (show _ ≤ k from hk)
  exact (Below.heap_setCell _ ⟨w.heap.size + 1, 1, none⟩ _ k (by show k ≠ w.heap.size + 1; omega)).trans ((Below.heap_setCell _ ⟨w.heap.size + 1, 0, none⟩ _ k (by show k ≠ w.heap.size + 1; omega)).trans (setRow_other w1 _ k _ (by omega)))
end Go.Proofs.YtedamaccflhmfaaGreatDoor
