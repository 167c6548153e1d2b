/-
  Reading the segments from one on.
-/
import Derived.Test.YtppfkhpofbbnbaaGreatDoorWIter
import Derived.Test.YtppfkhpofbbnbaaGreatDoorWSeg
import Derived.Test.YtppfkhpofbbnbaaGreatDoorWFromP
import Derived.Test.YtppfkhpofbbnbaaGreatDoorVAppend
namespace Go.Proofs.YtppfkhpofbbnbaaGreatDoor
open Go.RowKit Go.Shelf

attribute [local go_sem] Oper.semAt_some

/-- Batches put behind batches, none of them, too, within a round of a loop. -/
theorem wpListIn_append_bats {F : Fence} {n : Nat} (w : World) {ops : Array Oper} {rest : List Oper} {o : Oper} {a : Act} {Q : Exit → Act → World → Prop}
    (hg : o.guard = none) (s x : Operand) (hop : o.op = Op.call { callee := Callee.builtin Builtin.append, args := #[s, x], argTypes := #[41, 41] })
    (base : Nat) (v : Value) (l m : List Wl.Bat) (vs us : List Value) (hs : a.eval s = v) (hB : Bats base w v l vs) (u : Value) (hx : a.eval x = u) (hU : Bats base w u m us) (hne : ∀ r, v.ownBlock = some r → u.ownBlock ≠ some r ∧ ∀ k (hk : k < us.length), (us[k]).ownBlock ≠ some r) (hl : l.length + m.length ≤ 2000000000) (hb : base ≤ w.heap.size)
    (hK : ∀ a' n' c' w', Bats base w' (.slice a' n' c') (l ++ m) (vs ++ us) → w.grownBy w' v.ownBlock → wpListIn F n Tryz.prog ops Q rest (a.put o.dst (.slice a' n' c')) w') :
    wpListIn F n Tryz.prog ops Q (o :: rest) a w := by
  obtain ⟨i0, hi, hz0, hz1, hz2⟩ := info_parts infoB
  obtain ⟨ua, uc, rfl, hu1, hu2⟩ := hU.shape
  rcases hu2 with ⟨rfl, rfl⟩ | ⟨g, rfl⟩
  · have hm : m = [] := List.eq_nil_of_length_eq_zero (by omega)
    subst hm
    have hus : us = [] := List.eq_nil_of_length_eq_zero (by rw [hU.len]; rfl)
    subst hus
    have hrun := run_append_owned_none (P := Tryz.prog) w base 41 o.type 29 i0 2 Tryz.underlying41 hi v l.length (bcs l vs) hB.row
    refine wpListIn_plain hg fun K hK' => ?_
    unfold Oper.wpIn
    refine ⟨?_, ?_⟩
    · simp [Oper.about, hop, resolve, Target.leads, Sem.run_pure]
    · rw [Oper.semAt_plain F _ _ (by rw [hop]; intro c hc'; cases hc')]
      have hx' : a.eval x = .slice none 0 0 := hx
      simp [execOp, hop, resolve, invoke, builtin, hs, hx', hrun, Result.andThen]
      obtain ⟨va, vc, rfl, _⟩ := hB.shape
      refine hK' _ _ (hK _ _ _ w ?_ (World.grownBy.refl _ _))
      rw [List.append_nil, List.append_nil]
      exact hB
  · have hbl := bcs_length m us hU.len
    refine wpListIn_append_own w hg s x 41 hop base 29 i0 _ 2 32 Tryz.underlying41 hi hz0 hz1 hz2 rfl (by decide) v l.length (bcs l vs) hs hB.row ⟨g, 0, none⟩ m.length uc (bcs m us) hx hbl ?_ (bcs_one m us hU.slices) (by unfold maxLen; omega) (by omega) hb ?_
    · intro j q hj
      have hadd : (⟨g, 0, none⟩ : Addr).add j = ⟨g, j, none⟩ := by unfold Addr.add; split <;> simp_all
      have hjl : j < (bcs m us).length := (List.getElem?_eq_some_iff.1 hj).1
      rw [hadd, hU.row.cellAt j (by omega)]
      exact hj
    · intro v' w' h1 h2 _
      obtain ⟨a', c', rfl⟩ := row_shape5 h1
      exact hK _ _ _ w' (hB.append hU.len (fun k hk hk' => hU.own k hk hk') h2 (fun r hr k hk => (hne r hr).2 k hk) h1) h2

theorem segments_any (w : World) (b : Nat) : Calls Tryz.prog 65 #[.pointer (some ⟨b, 0, none⟩)] w fun e w' => e = .returned (.func (.func 95) #[] #[.pointer (some ⟨w.heap.size, 0, none⟩)]) ∧ w' = w.alloc (.cells #[.pointer (some ⟨b, 0, none⟩)] 37) := by
  have hmf : ∀ (fn : Fn) (first cap : Array Value) (w : World), (Instr.makeFunc fn first cap).run Tryz.prog w = .ok (.func fn first cap) w := fun _ _ _ _ => rfl
  go_enter Tryz.func65, Tryz.ntmps65
  go_wp2_with (fail)
  go_ret
  exact ⟨rfl, rfl⟩

/-- What reading from 'first' on leaves. -/
def FromOut (base : Nat) (R : Option (List Wl.Bat × Nat)) (w' : World) (v : Value) (x E : Int) : Prop := (∃ l m vs, R = some (l, m) ∧ x = (m : Int) ∧ E = 0 ∧ Bats base w' v l vs) ∨ (R = none ∧ x = 0 ∧ E = 6 ∧ v = .slice none 0 0)

/-- How the loop over segments is left. -/
def FromX (s N : Nat) (R : Option (List Wl.Bat × Nat)) (co : Code) (A : World) : Prop := (co = .ret ∧ R = none ∧ Boxed A (s + 1) 41 (.slice none 0 0) ∧ Boxed A (s + 2) 3 (.int .i64 0) ∧ Boxed A (s + 3) 23 (.int .i64 6)) ∨ (co = .exit 0 ∧ ∃ (nx : Nat) (all : List Wl.Bat) (v : Value) (vs : List Value), R = some (all, nx) ∧ Boxed A (s + 1) 41 v ∧ Bats (N + 2) A v all vs ∧ Boxed A (s + 2) 3 (.int .i64 (nx : Int)) ∧ Boxed A (s + 3) 23 (.int .i64 0))

/-- Where the loop over segments stands. -/
structure FromIn (s N : Nat) (b : Nat) (D : Nat → Wl.Bs) (R : Option (List Wl.Bat × Nat)) (rest : List Nat) (top : Nat) (A : World) : Prop where
  at_ : ∃ (nx : Nat) (all : List Wl.Bat) (v : Value) (vs : List Value), R = Wl.rf D rest nx all ∧ nx ≤ 200 ∧ nx + rest.length ≤ 200 ∧ all.length ≤ top ∧ Boxed A (s + 1) 41 v ∧ Bats (N + 2) A v all vs ∧ Boxed A (s + 2) 3 (.int .i64 (nx : Int))
  err : Boxed A (s + 3) 23 (.int .i64 0)
  fbox : Boxed A s 37 (.pointer (some ⟨b, 0, none⟩))

theorem FromIn.kept {s N b top : Nat} {D : Nat → Wl.Bs} {R : Option (List Wl.Bat × Nat)} {rest : List Nat} {A B : World} (h : FromIn s N b D R rest top A) (hg : A.grownBy B none) : FromIn s N b D R rest top B := by
  obtain ⟨⟨nx, all, v, vs, h1, h2, h3, h4, h5, h6, h7⟩, h8, h9⟩ := h
  exact ⟨⟨nx, all, v, vs, h1, h2, h3, h4, h5.kept hg (by simp), h6.kept hg (fun r e => by cases e), h7.kept hg (by simp)⟩, h8.kept hg (by simp), h9.kept hg (by simp)⟩
theorem bats_put {base : Nat} {A : World} {v : Value} {l : List Wl.Bat} {vs : List Value} (h : Bats base A v l vs) {D : Nat} (hD : D < base) (o : Obj) : Bats base (A.putObj D o) v l vs := by
  have keep : ∀ {e sz n : Nat} {u : Value} {xs : List Value}, A.ownsRow base e sz u n xs → (A.putObj D o).ownsRow base e sz u n xs := fun {e sz n u xs} ho => by
    refine ⟨ho.1, ?_⟩
    rcases ho.2 with h' | ⟨g, cap, cur, e1, e2, e3, e4⟩
    · exact .inl h'
    · exact .inr ⟨g, cap, cur, e1, e2, (World.putObj_heap_other (by omega)).trans e3, e4⟩
  exact ⟨h.len, keep h.row, fun k hk hk' => keep (h.own k hk hk')⟩
theorem FromIn.put {s N b top : Nat} {D : Nat → Wl.Bs} {R : Option (List Wl.Bat × Nat)} {rest : List Nat} {A : World} (h : FromIn s N b D R rest top A) (hs : s + 3 < N) (o : Obj) : FromIn s N b D R rest top (A.putObj (N + 1) o) := by
  obtain ⟨⟨nx, all, v, vs, h1, h2, h3, h4, h5, h6, h7⟩, h8, h9⟩ := h
  exact ⟨⟨nx, all, v, vs, h1, h2, h3, h4, Boxed.put h5 (by omega) o, bats_put h6 (by omega) o, Boxed.put h7 (by omega) o⟩, Boxed.put h8 (by omega) o, Boxed.put h9 (by omega) o⟩

theorem five_boxes (w : World) (x0 x1 x2 x3 x4 : Value) (t0 t1 t2 t3 t4 : TypeId) (W : World) (hW : W = ((((w.alloc (.cells #[x0] t0)).alloc (.cells #[x1] t1)).alloc (.cells #[x2] t2)).alloc (.cells #[x3] t3)).alloc (.cells #[x4] t4)) :
    Boxed W w.heap.size t0 x0 ∧ Boxed W (w.heap.size + 1) t1 x1 ∧ Boxed W (w.heap.size + 2) t2 x2 ∧ Boxed W (w.heap.size + 3) t3 x3 ∧ Boxed W (w.heap.size + 4) t4 x4 ∧ Below w.heap.size w W ∧ W.heap.size = w.heap.size + 5 := by
  subst hW
  have h0 := ((((Boxed.new w t0 x0).alloc (.cells #[x1] t1)).alloc (.cells #[x2] t2)).alloc (.cells #[x3] t3)).alloc (.cells #[x4] t4)
  have h1 := (((Boxed.new (w.alloc (.cells #[x0] t0)) t1 x1).alloc (.cells #[x2] t2)).alloc (.cells #[x3] t3)).alloc (.cells #[x4] t4)
  have h2 := ((Boxed.new ((w.alloc (.cells #[x0] t0)).alloc (.cells #[x1] t1)) t2 x2).alloc (.cells #[x3] t3)).alloc (.cells #[x4] t4)
  have h3 := (Boxed.new (((w.alloc (.cells #[x0] t0)).alloc (.cells #[x1] t1)).alloc (.cells #[x2] t2)) t3 x3).alloc (.cells #[x4] t4)
  have h4 := Boxed.new ((((w.alloc (.cells #[x0] t0)).alloc (.cells #[x1] t1)).alloc (.cells #[x2] t2)).alloc (.cells #[x3] t3)) t4 x4
  simp only [World.size_alloc] at h1 h2 h3 h4
  refine ⟨h0, h1, h2, h3, h4, ?_, by simp only [World.size_alloc]⟩
  exact (((((Below.refl _ _).alloc (Nat.le_refl _) _).alloc (by simp) _).alloc (by simp; omega) _).alloc (by simp; omega) _).alloc (by simp; omega) _

theorem bats_off {base : Nat} {w : World} {v : Value} {l : List Wl.Bat} {vs : List Value} (h : Bats base w v l vs) {i : Nat} (hi : i < base) : some i ≠ v.ownBlock := fun e => by
  have := (h.row.lt i e.symm).1
  omega
theorem sep_rows {base : Nat} {w w' : World} {v u : Value} {l m : List Wl.Bat} {vs us : List Value} (h : Bats base w v l vs) (hu : Bats w.heap.size w' u m us) : ∀ r, v.ownBlock = some r → u.ownBlock ≠ some r ∧ ∀ k (hk : k < us.length), (us[k]).ownBlock ≠ some r := fun r hr => by
  have h1 := (h.row.lt r hr).2
  refine ⟨fun e => ?_, fun k hk e => ?_⟩
  · have := (hu.row.lt r e).1; omega
  · have := ((hu.own k hk (by rw [← hu.len]; exact hk)).lt r e).1; omega

set_option maxHeartbeats 2000000 in
/-- The three results stored again, and the loop's put-off calls taken. -/
theorem fin3 {w B : World} {N : Nat} {v : Value} {nx : Int} {all : List Wl.Bat} {vs : List Value} (hN : w.heap.size + 5 ≤ N) (hb : Below w.heap.size w B) (h1 : Boxed B (w.heap.size + 1) 41 v) (h2 : Boxed B (w.heap.size + 2) 3 (.int .i64 nx)) (h3 : Boxed B (w.heap.size + 3) 23 (.int .i64 0)) (h4 : Bats (N + 2) B v all vs) (hD : B.heap[N]? = some (.deferred (some []))) (C : World)
    (hC : C = (((B.setCell ⟨w.heap.size + 1, 0, none⟩ v).setCell ⟨w.heap.size + 1 + 1, 0, none⟩ (.int .i64 nx)).setCell ⟨w.heap.size + 1 + 1 + 1, 0, none⟩ (.int .i64 0)).drew) :
    C.heap[N]? = some (.deferred (some [])) ∧ Boxed (C.putObj N (.deferred none)) (w.heap.size + 1) 41 v ∧ Boxed (C.putObj N (.deferred none)) (w.heap.size + 2) 3 (.int .i64 nx) ∧ Boxed (C.putObj N (.deferred none)) (w.heap.size + 3) 23 (.int .i64 0) ∧ Bats (N + 2) (C.putObj N (.deferred none)) v all vs ∧ Below w.heap.size w (C.putObj N (.deferred none)) := by
  have zN : N < B.heap.size := (Array.getElem?_eq_some_iff.1 hD).1
  have y1 := grown_set B (w.heap.size + 1) 0 v
  have y2 := grown_set (B.setCell ⟨w.heap.size + 1, 0, none⟩ v) (w.heap.size + 1 + 1) 0 (.int .i64 nx)
  have y3 := grown_set ((B.setCell ⟨w.heap.size + 1, 0, none⟩ v).setCell ⟨w.heap.size + 1 + 1, 0, none⟩ (.int .i64 nx)) (w.heap.size + 1 + 1 + 1) 0 (.int .i64 0)
  have z1 := y1.size
  have z2 := y2.size
  have z3 := y3.size
  have d1 : (((B.setCell ⟨w.heap.size + 1, 0, none⟩ v).setCell ⟨w.heap.size + 1 + 1, 0, none⟩ (.int .i64 nx)).setCell ⟨w.heap.size + 1 + 1 + 1, 0, none⟩ (.int .i64 0)).heap[N]? = some (.deferred (some [])) := (y3.block N (by omega) (by simp; omega)).trans ((y2.block N (by omega) (by simp; omega)).trans ((y1.block N zN (by simp; omega)).trans hD))
  have X1 := ((h1.set v).kept y2 (by simp)).kept y3 (by simp)
  have X2 := ((h2.kept y1 (by simp)).set (.int .i64 nx)).kept y3 (by simp)
  have X3 := ((h3.kept y1 (by simp)).kept y2 (by simp)).set (.int .i64 0)
  have far : ∀ {A : World} (hA : Bats (N + 2) A v all vs) (q : Nat), q < N + 2 → ∀ r, some q = some r → v.ownBlock ≠ some r ∧ ∀ k (hk : k < vs.length), (vs[k]).ownBlock ≠ some r := fun {A} hA q hq r e => by
    cases e
    exact ⟨fun e' => by have := (hA.row.lt _ e').1; omega, fun k hk e' => by have := ((hA.own k hk (by rw [← hA.len]; exact hk)).lt _ e').1; omega⟩
  have X4a := h4.kept y1 (far h4 _ (by omega))
  have X4b := X4a.kept y2 (far X4a _ (by omega))
  have X4 := X4b.kept y3 (far X4b _ (by omega))
  have X5 : Below w.heap.size w _ := ((hb.grown y1 (by have := hb.size; omega) (fun k hk => by cases hk; omega)).grown y2 (by have := hb.size; omega) (fun k hk => by cases hk; omega)).grown y3 (by have := hb.size; omega) (fun k hk => by cases hk; omega)
  clear y1 y2 y3 z1 z2 z3 X4a X4b far
  generalize (((B.setCell ⟨w.heap.size + 1, 0, none⟩ v).setCell ⟨w.heap.size + 1 + 1, 0, none⟩ (.int .i64 nx)).setCell ⟨w.heap.size + 1 + 1 + 1, 0, none⟩ (.int .i64 0)) = Z at hC d1 X1 X2 X3 X4 X5
  have bC : Below Z.heap.size Z C := by rw [hC]; exact (Below.refl _ _).drew
  have d2 : C.heap[N]? = some (.deferred (some [])) := by rw [hC]; exact d1
  have c5 : Below w.heap.size w C := by rw [hC]; exact X5.drew
  refine ⟨d2, Boxed.put (boxedL X1 bC) (by omega) _, Boxed.put (boxedL X2 bC) (by omega) _, Boxed.put (boxedL X3 bC) (by omega) _, bats_put (X4.later bC) (by omega) _, ?_⟩
  exact c5.trans ⟨rfl, rfl, rfl, by simp [World.putObj], fun i hi => World.putObj_heap_other (by omega)⟩

set_option maxRecDepth 100000 in
set_option maxHeartbeats 8000000 in
theorem readFrom_any (w : World) (b first : Nat) (ns : List Nat) (D : Nat → Wl.Bs) (hns : ∀ k ∈ ns, 1 ≤ k ∧ k < 100) (hl : ns.length ≤ 99) (hf : first ≤ 100) (hD : ∀ k ∈ ns, (D k).length ≤ 10000000)
    (NM : ∀ W, Below w.heap.size w W → Calls Tryz.prog 96 #[.pointer (some ⟨b, 0, none⟩)] W fun e w' => ∃ v, e = .returned v ∧ w'.ownsRow W.heap.size 9 1 v ns.length (ns.map fun k => str (Wl.seg k)) ∧ Below W.heap.size W w')
    (RD : ∀ k ∈ ns, ∀ W, Below w.heap.size w W → Calls Tryz.prog 35 #[.pointer (some ⟨b, 0, none⟩), str (Wl.seg k)] W fun e w' => ∃ v', e = .returned (.tuple #[v', .int .i64 0]) ∧ w'.ownsRow W.heap.size 5 1 v' (D k).length (bc (D k)) ∧ Below W.heap.size W w') :
    Calls Tryz.prog 44 #[.pointer (some ⟨b, 0, none⟩), .int .i64 (first : Int)] w fun e w' => ∃ v x E, e = .returned (.tuple #[v, .int .i64 x, .int .i64 E]) ∧ FromOut w.heap.size (Wl.rf D ns first []) w' v x E ∧ Below w.heap.size w w' := by
  have SG := segments_any
  obtain ⟨R, hR⟩ : ∃ R, R = Wl.rf D ns first [] := ⟨_, rfl⟩
  have HR : Hid (R = Wl.rf D ns first []) := hR
  rw [← hR]
  clear hR
  refine (callsIn_wide (n := 5)).1 ?_
  refine callsIn_of_wp_marks Tryz.func44 rfl trivial ?_ rfl
  simp only [Tryz.ntmps44, List.size_toArray, List.length_cons, List.length_nil, Nat.reduceAdd, Nat.reduceSub, Array.replicate_succ, Array.replicate_zero, List.push_toArray, List.append_toArray, List.nil_append, List.cons_append]
  rw [wpIn_wide]
  go_wp2_with (first
    | (go_at_call 65; refine still2 (SG _ _) ?_))
  obtain ⟨W, hW⟩ : ∃ W, W = ((((w.alloc (.cells #[.pointer (some ⟨b, 0, none⟩)] 37)).alloc (.cells #[.slice none 0 0] 41)).alloc (.cells #[.int .i64 (first : Int)] 3)).alloc (.cells #[.int .i64 0] 23)).alloc (.cells #[.pointer (some ⟨b, 0, none⟩)] 37) := ⟨_, rfl⟩
  obtain ⟨X0, X1, X2, X3, X4, BW, zW⟩ := five_boxes w _ _ _ _ _ _ _ _ _ _ W hW
  have zW1 : w.heap.size + 5 ≤ W.heap.size := by omega
  have zW2 : W.heap.size ≤ w.heap.size + 5 := by omega
  clear zW
  rw [← hW]
  clear hW SG
  rw [← wpIn_wide (n := 5)]
  have HK := segs_hands (5 - 1) w.heap.size (w.heap.size + 4) b W ns hns (by omega) X4 (by omega) (by omega) (fun A hA => NM A (BW.trans hA.bel))
  have HNS := hide hns
  have HD := hide hD
  have HRD : Hid (∀ k ∈ ns, ∀ W, Below w.heap.size w W → Calls Tryz.prog 35 #[.pointer (some ⟨b, 0, none⟩), str (Wl.seg k)] W fun e w' => ∃ v', e = .returned (.tuple #[v', .int .i64 0]) ∧ w'.ownsRow W.heap.size 5 1 v' (D k).length (bc (D k)) ∧ Below W.heap.size W w') := RD
  clear hns hD RD NM
  refine wpIn_handsK5 rfl (by decide) (gf := 95) (lb := #[.pointer (some ⟨w.heap.size + 4, 0, none⟩)]) rfl trivial (enters_of Tryz.func95 (by kernel_rfl) rfl) HK (SegK.refl _ _ _ _) (fun h k => h.trans k) (fun A o hA => SegK.later ((Below.refl _ _).alloc (Nat.le_refl _) _) (by omega) (by omega)) (fun A o => SegK.put A o (by omega) (by omega)) (fun _ => rfl)
    (fun j A => FromIn w.heap.size W.heap.size b D R (ns.drop j) (j * 10000000) A ∧ Below w.heap.size w A)
    (fun co _ A => Below w.heap.size w A ∧ FromX w.heap.size W.heap.size R co A)
    (fun j A B h hg => ⟨h.1.kept hg, h.2.grown hg (by have := h.2.size; omega) (fun _ e => by cases e)⟩) (fun co _ A B h hg => by
      refine ⟨h.1.grown hg (by have := h.1.size; omega) (fun _ e => by cases e), ?_⟩
      rcases h.2 with ⟨h1, h2, h3, h4, h5⟩ | ⟨h1, nx, all, v, vs, h2, h3, h4, h5, h6⟩
      · exact .inl ⟨h1, h2, h3.kept hg (by simp), h4.kept hg (by simp), h5.kept hg (by simp)⟩
      · exact .inr ⟨h1, nx, all, v, vs, h2, h3.kept hg (by simp), h4.kept hg (fun r e => by cases e), h5.kept hg (by simp), h6.kept hg (by simp)⟩)
    (fun j A o h => ⟨h.1.put (by omega) o, h.2.trans (SegK.put (Bs := w.heap.size + 4) A o (by omega) (by omega)).bel⟩) (fun co _ A o h => by
      refine ⟨h.1.trans (SegK.put (Bs := w.heap.size + 4) A o (by omega) (by omega)).bel, ?_⟩
      rcases h.2 with ⟨h1, h2, h3, h4, h5⟩ | ⟨h1, nx, all, v, vs, h2, h3, h4, h5, h6⟩
      · exact .inl ⟨h1, h2, Boxed.put h3 (by omega) o, Boxed.put h4 (by omega) o, Boxed.put h5 (by omega) o⟩
      · exact .inr ⟨h1, nx, all, v, vs, h2, Boxed.put h3 (by omega) o, bats_put h4 (by omega) o, Boxed.put h5 (by omega) o, Boxed.put h6 (by omega) o⟩)
    (fun o => by
      have g1 : W.grownBy ((W.alloc (.deferred (some []))).alloc o) none := grownBy_trans (World.grownBy_alloc W _ none) (World.grownBy_alloc _ o none) (.inl rfl)
      refine ⟨FromIn.kept ⟨⟨first, [], _, [], HR.out, by omega, by rw [List.drop_zero]; omega, by simp, X1, Bats.nil _ _, X2⟩, X3, X0⟩ g1, BW.grown g1 (by omega) (fun _ e => by cases e)⟩) ?_ ?_ ?_ ?_ ?_
  rotate_left
  · intro L' j A K hK
    simp only [segArg]
    gi_wp2_with (fail)
    exact hK
  · rintro L' j A hj ⟨⟨⟨nx, all, v, vs, e1, e2, e3, e4, e5, e6, e7⟩, e8, e9⟩, bA⟩ hKp hA
    have hdr : ns.drop j = ns[j] :: ns.drop (j + 1) := (List.getElem_cons_drop hj).symm
    have ek : ns[j]?.getD 0 = ns[j] := by rw [List.getElem?_eq_getElem hj]; rfl
    obtain ⟨k1, k2⟩ := HNS.out ns[j] (List.getElem_mem hj)
    have hDk := HD.out ns[j] (List.getElem_mem hj)
    have RS := readSegment_any A b (Wl.seg ns[j]) (D ns[j]) (fun wx hw => HRD.out ns[j] (List.getElem_mem hj) wx (bA.trans (hw.mono (by omega)))) (by omega)
    rw [hdr] at e1 e3
    rw [List.length_cons] at e3
    rw [ek]
    generalize hq : ns[j] = q at RS e1 k1 k2 hDk
    have cn := e7.cell
    have ca := e5.cell
    have cf := e9.cell
    have fa := e5.frozen
    have fn := e7.frozen
    have fe := e8.frozen
    have ce := e8.cell
    have H5 := hide e5
    have H6 := hide e6
    have H7 := hide e7
    have H8 := hide e8
    have H9 := hide e9
    have HB := hide bA
    have zA : w.heap.size + 7 ≤ A.heap.size := by omega
    have e4' : all.length ≤ (j + 1) * 10000000 := Nat.le_trans e4 (Nat.mul_le_mul_right _ (Nat.le_succ j))
    clear hq hdr ek HK e5 e6 e7 e8 e9 HNS HD HRD hKp bA
    rcases Nat.lt_trichotomy q nx with hlt | heq | hgt
    · have i1 : (q : Int) < (nx : Int) := by omega
      rw [Wl.rf_skip hlt] at e1
      have E1 := hide e1
      clear e1 hlt RS
      gi_wp2_with (fail)
      exact ⟨⟨rfl, rfl⟩, SegK.refl _ _ _ _, ⟨⟨nx, all, v, vs, E1.out, e2, by omega, e4', H5.out, H6.out, H7.out⟩, H8.out, H9.out⟩, HB.out⟩
    · subst heq
      have i1 : ¬ (q : Int) < (q : Int) := by omega
      have i2 : ¬ (q : Int) > (q : Int) := by omega
      have HRE := hide e1
      have lq : all.length ≤ 990000000 := by
        have hj9 : j ≤ 99 := by omega
        clear i1 i2 k1 k2
        omega
      have RS' : Hid (Calls Tryz.prog 84 #[.pointer (some ⟨b, 0, none⟩), str (Wl.seg q)] A fun e w' => ∃ v E, e = .returned (.tuple #[v, .int .i64 E]) ∧ SegOut A.heap.size (D q) w' v E ∧ Below A.heap.size A w') := RS
      cases hsg : Wl.segB (D q) with
      | none =>
        have E1 : Hid (R = none) := by show _ = _; rw [HRE.out, Wl.rf_bad hsg]
        have RS2 : Hid (Calls Tryz.prog 84 #[.pointer (some ⟨b, 0, none⟩), str (Wl.seg q)] A fun e w' => e = .returned (.tuple #[.slice none 0 0, .int .i64 6]) ∧ Below A.heap.size A w') := by
          refine RS.mono ?_
          rintro e w' ⟨v, E, rfl, h1, h2⟩
          rcases h1 with ⟨l, us, h3, _⟩ | ⟨_, rfl, rfl⟩
          · rw [hsg] at h3; cases h3
          · exact ⟨rfl, h2⟩
        clear RS RS' hsg HRE e1
        generalize Wl.seg q = sq at RS2
        gi_wp2_with (first
          | (refine ⟨trivial, ?_⟩; gi_at_call 84; refine (CallsIn.inRound L' (callsIn_wide.2 RS2.out)).mono ?_; rintro e A1 ⟨rfl, b1⟩; have Y5 := boxedL H5.out b1; have Y7 := boxedL H7.out b1; have Y8 := boxedL H8.out b1; have ca := Y5.cell; have fa := Y5.frozen; have cn := Y7.cell; have fn := Y7.frozen; have ce := Y8.cell; have fe := Y8.frozen))
        have y1 := grown_set A1 (w.heap.size + 1) 0 (.slice none 0 0)
        have y2 := grown_set (A1.setCell ⟨w.heap.size + 1, 0, none⟩ (.slice none 0 0)) (w.heap.size + 1 + 1) 0 (.int .i64 0)
        have y3 := grown_set ((A1.setCell ⟨w.heap.size + 1, 0, none⟩ (.slice none 0 0)).setCell ⟨w.heap.size + 1 + 1, 0, none⟩ (.int .i64 0)) (w.heap.size + 1 + 1 + 1) 0 (.int .i64 6)
        have z1 := b1.size
        have q1 := y1.size
        have q2 := y2.size
        have KB : ∀ i, w.heap.size + 3 < i → i < A.heap.size → (((A1.setCell ⟨w.heap.size + 1, 0, none⟩ (.slice none 0 0)).setCell ⟨w.heap.size + 1 + 1, 0, none⟩ (.int .i64 0)).setCell ⟨w.heap.size + 1 + 1 + 1, 0, none⟩ (.int .i64 6)).heap[i]? = A.heap[i]? := fun i h1 h2 =>
          (y3.block i (by omega) (by simp; omega)).trans ((y2.block i (by omega) (by simp; omega)).trans ((y1.block i (by omega) (by simp; omega)).trans (b1.block i h2)))
        have X5 := ((Y5.set (.slice none 0 0)).kept y2 (by simp)).kept y3 (by simp)
        have X7 := ((Y7.kept y1 (by simp)).set (.int .i64 0)).kept y3 (by simp)
        have X8 := ((Y8.kept y1 (by simp)).kept y2 (by simp)).set (.int .i64 6)
        have B9 : Below w.heap.size w _ := (((HB.out.trans (b1.mono (by omega))).grown y1 (by omega) (fun k hk => by cases hk; omega)).grown y2 (by omega) (fun k hk => by cases hk; omega)).grown y3 (by omega) (fun k hk => by cases hk; omega)
        exact ⟨⟨KB _ (by omega) (by omega), KB _ (by omega) (by omega)⟩, B9, .inl ⟨rfl, E1.out, X5, X7, X8⟩⟩
      | some l =>
        have E1 : Hid (R = Wl.rf D (ns.drop (j + 1)) (q + 1) (all ++ l)) := by show _ = _; rw [HRE.out, Wl.rf_go hsg]
        have hll : l.length ≤ 10000000 := by
          have h1 : Wl.segB (D q) = some l := hsg
          unfold Wl.segB at h1
          split at h1
          · cases h1
          · have h2 := Wl.bats_length _ _ h1
            have h3 := scn_few (D q)
            omega
        have RS2 : Hid (Calls Tryz.prog 84 #[.pointer (some ⟨b, 0, none⟩), str (Wl.seg q)] A fun e w' => ∃ u, e = .returned (.tuple #[u, .int .i64 0]) ∧ Hid (∃ us, Bats A.heap.size w' u l us) ∧ Below A.heap.size A w') := by
          refine RS.mono ?_
          rintro e w' ⟨v, E, rfl, h1, h2⟩
          rcases h1 with ⟨l', us, h3, rfl, h4⟩ | ⟨h3, _⟩
          · rw [hsg] at h3
            cases h3
            exact ⟨v, rfl, ⟨us, h4⟩, h2⟩
          · rw [hsg] at h3; cases h3
        clear RS RS' hsg HRE e1
        generalize Wl.seg q = sq at RS2
        have ZL : Hid (all.length + l.length ≤ 2000000000) := by show _ ≤ _; omega
        gi_wp2_with (first
          | (refine ⟨trivial, ?_⟩; gi_at_call 84; refine (CallsIn.inRound L' (callsIn_wide.2 RS2.out)).mono ?_; rintro e A1 ⟨u1, rfl, HU, b1⟩; have Y5 := boxedL H5.out b1; have Y7 := boxedL H7.out b1; have Y8 := boxedL H8.out b1; have Y9 := boxedL H9.out b1; have ca := Y5.cell; have cn := Y7.cell; have Y6 := H6.out.later b1; obtain ⟨us, YU⟩ := HU.out; have YU2 := YU.mono (base' := W.heap.size + 2) (by omega); have AP := sep_rows H6.out YU)
          | (gi_at_builtin; refine wpListIn_append_bats _ rfl _ _ rfl (W.heap.size + 2) v all l vs us rfl Y6 u1 rfl YU2 AP ZL.out (by have := b1.size; omega) ?_; intro va2 vn2 vc2 A2 B2 g2; have g2n := fun i (hi : i < W.heap.size + 2) => bats_off Y6 hi; have U5 := Y5.kept g2 (g2n _ (by omega)); have U7 := Y7.kept g2 (g2n _ (by omega)); have U8 := Y8.kept g2 (g2n _ (by omega)); have U9 := Y9.kept g2 (g2n _ (by omega)); have ca := U5.cell; have fa := U5.frozen; have cn := U7.cell; have fn := U7.frozen))
        have y1 := grown_set A2 (w.heap.size + 1) 0 (.slice va2 vn2 vc2)
        have y2 := grown_set (A2.setCell ⟨w.heap.size + 1, 0, none⟩ (.slice va2 vn2 vc2)) (w.heap.size + 1 + 1) 0 (.int .i64 ((q : Int) + 1))
        have z1 := b1.size
        have z2 := g2.size
        have q1 := y1.size
        have KB : ∀ i, w.heap.size + 3 < i → i < W.heap.size + 2 → ((A2.setCell ⟨w.heap.size + 1, 0, none⟩ (.slice va2 vn2 vc2)).setCell ⟨w.heap.size + 1 + 1, 0, none⟩ (.int .i64 ((q : Int) + 1))).heap[i]? = A.heap[i]? := fun i h1 h2 =>
          (y2.block i (by omega) (by simp; omega)).trans ((y1.block i (by omega) (by simp; omega)).trans ((g2.block i (by omega) (g2n i h2)).trans (b1.block i (by omega))))
        have X5 := (U5.set (.slice va2 vn2 vc2)).kept y2 (by simp)
        have X7 := (U7.kept y1 (by simp)).set (.int .i64 ((q : Int) + 1))
        have X8 := (U8.kept y1 (by simp)).kept y2 (by simp)
        have X9 := (U9.kept y1 (by simp)).kept y2 (by simp; omega)
        have X6 := (B2.kept y1 (fun r e => by cases e; exact ⟨fun e' => by have := (B2.row.lt _ e').1; omega, fun k hk e' => by have := ((B2.own k hk (by rw [← B2.len]; exact hk)).lt _ e').1; omega⟩)).kept y2 (fun r e => by cases e; exact ⟨fun e' => by have := (B2.row.lt _ e').1; omega, fun k hk e' => by have := ((B2.own k hk (by rw [← B2.len]; exact hk)).lt _ e').1; omega⟩)
        have B8 : Below w.heap.size A A2 := (b1.mono (by omega)).grown g2 (by omega) (fun k hk => by have := (Y6.row.lt k hk).1; omega)
        have B9 : Below w.heap.size A _ := (B8.grown y1 (by omega) (fun k hk => by cases hk; omega)).grown y2 (by omega) (fun k hk => by cases hk; omega)
        have KS : SegK w.heap.size (w.heap.size + 4) W.heap.size A ((A2.setCell ⟨w.heap.size + 1, 0, none⟩ (.slice va2 vn2 vc2)).setCell ⟨w.heap.size + 1 + 1, 0, none⟩ (.int .i64 ((q : Int) + 1))) := by
          refine ⟨B9, KB _ (by omega) (by omega), fun i cs fr h1 h2 => ?_⟩
          have hi := (Array.getElem?_eq_some_iff.1 h2).1
          refine (y2.block i (by omega) (by simp; omega)).trans ((y1.block i (by omega) (by simp; omega)).trans ((g2.block i (by omega) (fun e => ?_)).trans (b1.block i hi)))
          obtain ⟨c1, fz, h3⟩ := Lib.ownsRow_kind H6.out.row i e.symm
          rw [h2] at h3
          simp only [Option.some.injEq, Obj.cells.injEq] at h3
          exact absurd h3.2.1 (by decide)
        have e10 : (all ++ l).length ≤ (j + 1) * 10000000 := by rw [List.length_append]; omega
        exact ⟨⟨KB _ (by omega) (by omega), KB _ (by omega) (by omega)⟩, KS, ⟨⟨q + 1, all ++ l, _, vs ++ us, E1.out, by omega, by omega, e10, X5, X6, by rw [Int.natCast_add]; exact X7⟩, X8, X9⟩, HB.out.trans B9⟩
    · have i1 : ¬ (q : Int) < (nx : Int) := by omega
      have i2 : (q : Int) > (nx : Int) := by omega
      rw [Wl.rf_stop hgt] at e1
      have E1 := hide e1
      clear e1 hgt RS
      gi_wp2_with (fail)
      exact ⟨⟨rfl, rfl⟩, HB.out, .inr ⟨rfl, nx, all, v, vs, E1.out, H5.out, H6.out, H7.out, H8.out⟩⟩
  · rintro B ⟨⟨⟨nx, all, v, vs, e1, e2, e3, e4, e5, e6, e7⟩, e8, e9⟩, bB⟩ hD
    have E1 : Hid (R = some (all, nx)) := by
      show _ = _
      rw [e1, List.drop_of_length_le (Nat.le_refl _)]
      rfl
    have H6 := hide e6
    obtain ⟨va, vc, rfl, _⟩ := e6.shape
    have ca := e5.cell
    have fa := e5.frozen
    have cn := e7.cell
    have fn := e7.frozen
    have ce := e8.cell
    have fe := e8.frozen
    have H5 := hide e5
    have H7 := hide e7
    have H8 := hide e8
    have HB := hide bB
    generalize all.length = al at ca H5 H6
    clear e1 e3 e4 e5 e6 e7 e8 e9 bB HK
    simp only [Exit.inBlock, Exit.then]
    apply_assumption
    go_wp2_with (fail)
    go_region
    obtain ⟨C, hC⟩ : ∃ C, C = (((B.setCell ⟨w.heap.size + 1, 0, none⟩ (.slice va al vc)).setCell ⟨w.heap.size + 1 + 1, 0, none⟩ (.int .i64 (nx : Int))).setCell ⟨w.heap.size + 1 + 1 + 1, 0, none⟩ (.int .i64 0)).drew := ⟨_, rfl⟩
    obtain ⟨f1, f2, f3, f4, f5, f6⟩ := fin3 zW1 HB.out H5.out H7.out H8.out H6.out hD C hC
    rw [← hC]
    clear hC H5 H6 H7 H8 HB hD ca cn ce fa fn fe
    go_wp2_with (fail)
    have g2 := f2.cell
    have g3 := f3.cell
    have g4 := f4.cell
    refine leaves_one f1 (v := .tuple #[.slice va al vc, .int .i64 (nx : Int), .int .i64 0]) (by simp [results, Tryz.results44, go_sem, g2, g3, g4]) ⟨_, _, _, rfl, .inl ⟨all, nx, vs, E1.out, rfl, rfl, f5.mono (by omega)⟩, f6⟩
  · rintro co j B hj ⟨bB, h⟩ hD
    rcases h with ⟨rfl, h1, h2, h3, h4⟩ | ⟨rfl, nx, all, v, vs, h1, h2, h3, h4, h5⟩
    · have X2 := Boxed.put (D := W.heap.size) h2 (by omega) (.deferred none)
      have X3 := Boxed.put (D := W.heap.size) h3 (by omega) (.deferred none)
      have X4 := Boxed.put (D := W.heap.size) h4 (by omega) (.deferred none)
      have g2 := X2.cell
      have g3 := X3.cell
      have g4 := X4.cell
      have HE := hide h1
      have B9 : Below w.heap.size w (B.putObj W.heap.size (.deferred none)) := bB.trans ⟨rfl, rfl, rfl, by simp [World.putObj], fun i hi => World.putObj_heap_other (by omega)⟩
      clear h1 h2 h3 h4 HK X2 X3 X4
      gi_wp2_with (fail)
      exact leaves_one hD (v := .tuple #[.slice none 0 0, .int .i64 0, .int .i64 6]) (by simp [results, Tryz.results44, go_sem, g2, g3, g4]) ⟨_, _, _, rfl, .inr ⟨HE.out, rfl, rfl, rfl⟩, B9⟩
    · have E1 := hide h1
      have H6 := hide h3
      obtain ⟨va, vc, rfl, _⟩ := h3.shape
      have ca := h2.cell
      have fa := h2.frozen
      have cn := h4.cell
      have fn := h4.frozen
      have ce := h5.cell
      have fe := h5.frozen
      have H5 := hide h2
      have H7 := hide h4
      have H8 := hide h5
      have HB := hide bB
      generalize all.length = al at ca H5 H6
      clear h1 h2 h3 h4 h5 bB HK
      gi_wp2_with (fail)
      go_wp2_with (fail)
      go_region
      obtain ⟨C, hC⟩ : ∃ C, C = (((B.setCell ⟨w.heap.size + 1, 0, none⟩ (.slice va al vc)).setCell ⟨w.heap.size + 1 + 1, 0, none⟩ (.int .i64 (nx : Int))).setCell ⟨w.heap.size + 1 + 1 + 1, 0, none⟩ (.int .i64 0)).drew := ⟨_, rfl⟩
      obtain ⟨f1, f2, f3, f4, f5, f6⟩ := fin3 zW1 HB.out H5.out H7.out H8.out H6.out hD C hC
      rw [← hC]
      clear hC H5 H6 H7 H8 HB hD ca cn ce fa fn fe
      go_wp2_with (fail)
      have g2 := f2.cell
      have g3 := f3.cell
      have g4 := f4.cell
      exact leaves_one f1 (v := .tuple #[.slice va al vc, .int .i64 (nx : Int), .int .i64 0]) (by simp [results, Tryz.results44, go_sem, g2, g3, g4]) ⟨_, _, _, rfl, .inl ⟨all, nx, vs, E1.out, rfl, rfl, f5.mono (by omega)⟩, f6⟩
end Go.Proofs.YtppfkhpofbbnbaaGreatDoor
