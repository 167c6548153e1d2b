/-
  Package parser: expressions made: literal, ofOne, ofTwo. .. and what follows from it.
-/
import Derived.Test.YtedamaccflhmfaaGreatDoorXPa
import Derived.Laws.Rows
namespace Go.Proofs.YtedamaccflhmfaaGreatDoor
open Go.RowKit
attribute [local go_sem ↓] Go.wp_at_zero Go.wp_at_succ

theorem sl9 {w : World} {B : Nat} {a b c d e f g h i : Value} {t : TypeId} (H : w.heap[B]? = some (.cells #[a, b, c, d, e, f, g, h, i] t (0, 0))) : (w.cell? ⟨B, 0, none⟩ = some a ∧ w.cell? ⟨B, 1, none⟩ = some b ∧ w.cell? ⟨B, 2, none⟩ = some c ∧ w.cell? ⟨B, 3, none⟩ = some d ∧ w.cell? ⟨B, 4, none⟩ = some e ∧ w.cell? ⟨B, 5, none⟩ = some f ∧ w.cell? ⟨B, 6, none⟩ = some g ∧ w.cell? ⟨B, 7, none⟩ = some h ∧ w.cell? ⟨B, 8, none⟩ = some i) ∧ (w.frozen? ⟨B, 0, none⟩ = false ∧ w.frozen? ⟨B, 1, none⟩ = false ∧ w.frozen? ⟨B, 2, none⟩ = false ∧ w.frozen? ⟨B, 3, none⟩ = false ∧ w.frozen? ⟨B, 4, none⟩ = false ∧ w.frozen? ⟨B, 5, none⟩ = false ∧ w.frozen? ⟨B, 6, none⟩ = false ∧ w.frozen? ⟨B, 7, none⟩ = false ∧ w.frozen? ⟨B, 8, none⟩ = false) ∧ B < w.heap.size :=
  ⟨⟨Joins.cell_of_block H 0, Joins.cell_of_block H 1, Joins.cell_of_block H 2, Joins.cell_of_block H 3, Joins.cell_of_block H 4, Joins.cell_of_block H 5, Joins.cell_of_block H 6, Joins.cell_of_block H 7, Joins.cell_of_block H 8⟩, ⟨Joins.unfrozen_of_block H 0, Joins.unfrozen_of_block H 1, Joins.unfrozen_of_block H 2, Joins.unfrozen_of_block H 3, Joins.unfrozen_of_block H 4, Joins.unfrozen_of_block H 5, Joins.unfrozen_of_block H 6, Joins.unfrozen_of_block H 7, Joins.unfrozen_of_block H 8⟩, (Array.getElem?_eq_some_iff.1 H).1⟩
theorem heap_new {w : World} {cs : Array Value} {T : TypeId} {n : Nat} (h : n = w.heap.size) : (w.alloc (.cells cs T)).heap[n]? = some (.cells cs T (0, 0)) := by subst h; exact heap_alloc_new w _
theorem alloc_keeps {w : World} {k : Nat} {o : Obj} (h : w.heap[k]? = some o) (o' : Obj) : (w.alloc o').heap[k]? = some o := (Below.heap_alloc w o' k (Array.getElem?_eq_some_iff.1 h).1).trans h
theorem heap_set_other {w : World} {k g i : Nat} {o : Obj} (h : w.heap[k]? = some o) (hn : k ≠ g) (v : Value) : (w.setCell ⟨g, i, none⟩ v).heap[k]? = some o := (Below.heap_setCell w ⟨g, i, none⟩ v k hn).trans h
theorem ne_of_lt' {a b : Nat} (h : a < b) : b ≠ a := by omega
/-- An expression of one or two in a new block. -/
theorem exs_one {P : Nat → Prop} {w : World} {x : Ps.Ex} {S : Value} (hx : ExAt P w x S) {b : Nat} (hb : w.heap[b]? = some (.cells (exC x S).toArray 34 (0, 0))) : ExsAt P w [x] b 0 := by
  rw [ExsAt, ExsAt]
  refine ⟨⟨S, fun i hi => ?_, hx⟩, trivial⟩
  rw [Nat.zero_add, Joins.cell_of_block hb i]
  simp

set_option maxHeartbeats 3200000 in
theorem literal_any2 (w : World) (v : Val) : Calls Tryz.prog 208 #[.agg #[.int .u8 v.k, .int .i64 v.n, .string v.t]] w fun e w' => e = .returned (exV (Ps.lit v) (.slice none 0 0)) ∧ Below w.heap.size w w' := by
  obtain ⟨k, n, t⟩ := v
  go_enter Tryz.func208, Tryz.ntmps208
  go_wp2
  exact bodyPost_ret (v := .agg #[.int .u8 1, .int .u8 k, .int .i64 n, .string t, .string ⟨#[]⟩, .string ⟨#[]⟩, .int .i64 0, .int .u8 0, .slice none 0 0]) (by simp [results, Tryz.results208, go_sem]; try rfl) rfl ⟨rfl, ((Below.refl _ w).alloc (Nat.le_refl _) _).alloc (by simp) _⟩


set_option maxHeartbeats 3200000 in
theorem ofOne_any (w : World) (op : Int) (x : Ps.Ex) (S : Value) (P : Nat → Prop) (hl : ∀ k, w.heap.size ≤ k → P k) (hx : ExAt P w x S) : Calls Tryz.prog 170 #[.int .u8 op, exV x S] w fun e w' => (∃ S', e = .returned (exV (Ps.one op x) S') ∧ ExAt P w' (Ps.one op x) S') ∧ Below w.heap.size w w' := by
  obtain ⟨o, ⟨k, n, t⟩, tb, nm, sl, kd, ag⟩ := x
  have HX := hide hx
  clear hx
  show Calls Tryz.prog 170 #[.int .u8 op, .agg #[.int .u8 o, .int .u8 k, .int .i64 n, .string t, .string ⟨tb.toArray⟩, .string ⟨nm.toArray⟩, .int .i64 sl, .int .u8 kd, S]] w _
  obtain ⟨tbs, htb⟩ : ∃ z : ByteArray, z = ⟨tb.toArray⟩ := ⟨_, rfl⟩
  obtain ⟨nms, hnm⟩ : ∃ z : ByteArray, z = ⟨nm.toArray⟩ := ⟨_, rfl⟩
  rw [← htb, ← hnm]
  have HT := hide htb
  have HN := hide hnm
  clear htb hnm
  go_enter Tryz.func170, Tryz.ntmps170
  go_wp2
  have hb := (((Below.refl w.heap.size w).alloc (Nat.le_refl _) (.cells #[.int .u8 o, .int .u8 k, .int .i64 n, .string t, .string tbs, .string nms, .int .i64 sl, .int .u8 kd, S] 34)).alloc (by simp) (.cells #[.int .u8 op, .int .u8 0, .int .i64 0, .string ⟨#[]⟩, .string ⟨#[]⟩, .string ⟨#[]⟩, .int .i64 0, .int .u8 0, .slice (some ⟨w.heap.size + 1 + 1, 0, none⟩) 1 1] 34)).alloc (by simp; omega) (.cells #[.int .u8 o, .int .u8 k, .int .i64 n, .string t, .string tbs, .string nms, .int .i64 sl, .int .u8 kd, S] 34)
  refine bodyPost_ret (v := .agg #[.int .u8 op, .int .u8 0, .int .i64 0, .string ⟨#[]⟩, .string ⟨#[]⟩, .string ⟨#[]⟩, .int .i64 0, .int .u8 0, .slice (some ⟨w.heap.size + 1 + 1, 0, none⟩) 1 1]) (by simp [results, Tryz.results170, go_sem]; try rfl) rfl ⟨⟨.slice (some ⟨w.heap.size + 1 + 1, 0, none⟩) 1 1, rfl, ?_⟩, hb⟩
  rw [Ps.one, exAt_mk]
  refine ⟨_, 1, rfl, fun _ => ⟨_, 0, rfl, hl _ (by omega), exs_one (HX.out.keep (Kept.of hb) (fun _ h _ => h) _ _) ?_⟩⟩
  rw [HT.out, HN.out]
  exact heap_new (by simp)

theorem exs_two {P : Nat → Prop} {w : World} {x y : Ps.Ex} {S S2 : Value} (hx : ExAt P w x S) (hy : ExAt P w y S2) {b : Nat} (hb : w.heap[b]? = some (.cells (exC x S ++ exC y S2).toArray 34 (0, 0))) : ExsAt P w [x, y] b 0 := by
  rw [ExsAt, ExsAt, ExsAt]
  refine ⟨⟨S, fun i hi => ?_, hx⟩, ⟨S2, fun i hi => ?_, hy⟩, trivial⟩
  · rw [Nat.zero_add, Joins.cell_of_block hb i]
    simp [List.getElem?_append_left, exC_len, hi]
  · rw [Nat.zero_add, Joins.cell_of_block hb (9 + i)]
    simp [List.getElem?_append_right, exC_len]

set_option maxHeartbeats 6400000 in
theorem ofTwo_any (w : World) (op : Int) (x y : Ps.Ex) (S S2 : Value) (P : Nat → Prop) (hl : ∀ k, w.heap.size ≤ k → P k) (hx : ExAt P w x S) (hy : ExAt P w y S2) : Calls Tryz.prog 138 #[.int .u8 op, exV x S, exV y S2] w fun e w' => (∃ S', e = .returned (exV (Ps.two op x y) S') ∧ ExAt P w' (Ps.two op x y) S') ∧ Below w.heap.size w w' := by
  obtain ⟨o, ⟨k, n, t⟩, tb, nm, sl, kd, ag⟩ := x
  obtain ⟨o2, ⟨k2, n2, t2⟩, tb2, nm2, sl2, kd2, ag2⟩ := y
  have HX := hide hx
  have HY := hide hy
  clear hx hy
  show Calls Tryz.prog 138 #[.int .u8 op, .agg #[.int .u8 o, .int .u8 k, .int .i64 n, .string t, .string ⟨tb.toArray⟩, .string ⟨nm.toArray⟩, .int .i64 sl, .int .u8 kd, S], .agg #[.int .u8 o2, .int .u8 k2, .int .i64 n2, .string t2, .string ⟨tb2.toArray⟩, .string ⟨nm2.toArray⟩, .int .i64 sl2, .int .u8 kd2, S2]] w _
  obtain ⟨tbs, htb⟩ : ∃ z : ByteArray, z = ⟨tb.toArray⟩ := ⟨_, rfl⟩
  obtain ⟨nms, hnm⟩ : ∃ z : ByteArray, z = ⟨nm.toArray⟩ := ⟨_, rfl⟩
  obtain ⟨tbs2, htb2⟩ : ∃ z : ByteArray, z = ⟨tb2.toArray⟩ := ⟨_, rfl⟩
  obtain ⟨nms2, hnm2⟩ : ∃ z : ByteArray, z = ⟨nm2.toArray⟩ := ⟨_, rfl⟩
  rw [← htb, ← hnm, ← htb2, ← hnm2]
  have HT := hide htb
  have HN := hide hnm
  have HT2 := hide htb2
  have HN2 := hide hnm2
  clear htb hnm htb2 hnm2
  go_enter Tryz.func138, Tryz.ntmps138
  go_wp2
  have hb := ((((Below.refl w.heap.size w).alloc (Nat.le_refl _) (.cells #[.int .u8 o, .int .u8 k, .int .i64 n, .string t, .string tbs, .string nms, .int .i64 sl, .int .u8 kd, S] 34)).alloc (by simp) (.cells #[.int .u8 o2, .int .u8 k2, .int .i64 n2, .string t2, .string tbs2, .string nms2, .int .i64 sl2, .int .u8 kd2, S2] 34)).alloc (by simp; omega) (.cells #[.int .u8 op, .int .u8 0, .int .i64 0, .string ⟨#[]⟩, .string ⟨#[]⟩, .string ⟨#[]⟩, .int .i64 0, .int .u8 0, .slice (some ⟨w.heap.size + 1 + 1 + 1, 0, none⟩) 2 2] 34)).alloc (by simp; omega) (.cells #[.int .u8 o, .int .u8 k, .int .i64 n, .string t, .string tbs, .string nms, .int .i64 sl, .int .u8 kd, S, .int .u8 o2, .int .u8 k2, .int .i64 n2, .string t2, .string tbs2, .string nms2, .int .i64 sl2, .int .u8 kd2, S2] 34)
  refine bodyPost_ret (v := .agg #[.int .u8 op, .int .u8 0, .int .i64 0, .string ⟨#[]⟩, .string ⟨#[]⟩, .string ⟨#[]⟩, .int .i64 0, .int .u8 0, .slice (some ⟨w.heap.size + 1 + 1 + 1, 0, none⟩) 2 2]) (by simp [results, Tryz.results138, go_sem]; try rfl) rfl ⟨⟨.slice (some ⟨w.heap.size + 1 + 1 + 1, 0, none⟩) 2 2, rfl, ?_⟩, hb⟩
  rw [Ps.two, exAt_mk]
  refine ⟨_, 2, rfl, fun _ => ⟨_, 0, rfl, hl _ (by omega), exs_two (HX.out.keep (Kept.of hb) (fun _ h _ => h) _ _) (HY.out.keep (Kept.of hb) (fun _ h _ => h) _ _) ?_⟩⟩
  rw [HT.out, HN.out, HT2.out, HN2.out]
  exact heap_new (by simp)

/-! ### The end of a call that answers an expression -/
abbrev put9 (w : World) (R : Nat) (v0 v1 v2 v3 v4 v5 v6 v7 v8 : Value) : World := (((((((((w.setCell ⟨R, 0, none⟩ v0).setCell ⟨R, 1, none⟩ v1).setCell ⟨R, 2, none⟩ v2).setCell ⟨R, 3, none⟩ v3).setCell ⟨R, 4, none⟩ v4).setCell ⟨R, 5, none⟩ v5).setCell ⟨R, 6, none⟩ v6).setCell ⟨R, 7, none⟩ v7).setCell ⟨R, 8, none⟩ v8)
theorem put9_heap {w : World} {R : Nat} {c0 c1 c2 c3 c4 c5 c6 c7 c8 : Value} {T : TypeId} (Z : w.heap[R]? = some (.cells #[c0, c1, c2, c3, c4, c5, c6, c7, c8] T (0, 0))) (v0 v1 v2 v3 v4 v5 v6 v7 v8 : Value) : (put9 w R v0 v1 v2 v3 v4 v5 v6 v7 v8).heap[R]? = some (.cells #[v0, v1, v2, v3, v4, v5, v6, v7, v8] T (0, 0)) := by
  have h0 : (w.setCell ⟨R, 0, none⟩ v0).heap[R]? = some (.cells #[v0, c1, c2, c3, c4, c5, c6, c7, c8] T (0, 0)) := heap_set Z v0
  have h1 : ((w.setCell ⟨R, 0, none⟩ v0).setCell ⟨R, 1, none⟩ v1).heap[R]? = some (.cells #[v0, v1, c2, c3, c4, c5, c6, c7, c8] T (0, 0)) := heap_set h0 v1
  have h2 : (((w.setCell ⟨R, 0, none⟩ v0).setCell ⟨R, 1, none⟩ v1).setCell ⟨R, 2, none⟩ v2).heap[R]? = some (.cells #[v0, v1, v2, c3, c4, c5, c6, c7, c8] T (0, 0)) := heap_set h1 v2
  have h3 : ((((w.setCell ⟨R, 0, none⟩ v0).setCell ⟨R, 1, none⟩ v1).setCell ⟨R, 2, none⟩ v2).setCell ⟨R, 3, none⟩ v3).heap[R]? = some (.cells #[v0, v1, v2, v3, c4, c5, c6, c7, c8] T (0, 0)) := heap_set h2 v3
  have h4 : (((((w.setCell ⟨R, 0, none⟩ v0).setCell ⟨R, 1, none⟩ v1).setCell ⟨R, 2, none⟩ v2).setCell ⟨R, 3, none⟩ v3).setCell ⟨R, 4, none⟩ v4).heap[R]? = some (.cells #[v0, v1, v2, v3, v4, c5, c6, c7, c8] T (0, 0)) := heap_set h3 v4
  have h5 : ((((((w.setCell ⟨R, 0, none⟩ v0).setCell ⟨R, 1, none⟩ v1).setCell ⟨R, 2, none⟩ v2).setCell ⟨R, 3, none⟩ v3).setCell ⟨R, 4, none⟩ v4).setCell ⟨R, 5, none⟩ v5).heap[R]? = some (.cells #[v0, v1, v2, v3, v4, v5, c6, c7, c8] T (0, 0)) := heap_set h4 v5
  have h6 : (((((((w.setCell ⟨R, 0, none⟩ v0).setCell ⟨R, 1, none⟩ v1).setCell ⟨R, 2, none⟩ v2).setCell ⟨R, 3, none⟩ v3).setCell ⟨R, 4, none⟩ v4).setCell ⟨R, 5, none⟩ v5).setCell ⟨R, 6, none⟩ v6).heap[R]? = some (.cells #[v0, v1, v2, v3, v4, v5, v6, c7, c8] T (0, 0)) := heap_set h5 v6
  have h7 : ((((((((w.setCell ⟨R, 0, none⟩ v0).setCell ⟨R, 1, none⟩ v1).setCell ⟨R, 2, none⟩ v2).setCell ⟨R, 3, none⟩ v3).setCell ⟨R, 4, none⟩ v4).setCell ⟨R, 5, none⟩ v5).setCell ⟨R, 6, none⟩ v6).setCell ⟨R, 7, none⟩ v7).heap[R]? = some (.cells #[v0, v1, v2, v3, v4, v5, v6, v7, c8] T (0, 0)) := heap_set h6 v7
  have h8 : (((((((((w.setCell ⟨R, 0, none⟩ v0).setCell ⟨R, 1, none⟩ v1).setCell ⟨R, 2, none⟩ v2).setCell ⟨R, 3, none⟩ v3).setCell ⟨R, 4, none⟩ v4).setCell ⟨R, 5, none⟩ v5).setCell ⟨R, 6, none⟩ v6).setCell ⟨R, 7, none⟩ v7).setCell ⟨R, 8, none⟩ v8).heap[R]? = some (.cells #[v0, v1, v2, v3, v4, v5, v6, v7, v8] T (0, 0)) := heap_set h7 v8
  exact h8
theorem put9_below (w : World) {b R : Nat} (hR : b ≤ R) (v0 v1 v2 v3 v4 v5 v6 v7 v8 : Value) : Below b w (put9 w R v0 v1 v2 v3 v4 v5 v6 v7 v8) := ((((((((((Below.refl b w).setCell (p := ⟨R, 0, none⟩) hR v0).setCell (p := ⟨R, 1, none⟩) hR v1).setCell (p := ⟨R, 2, none⟩) hR v2).setCell (p := ⟨R, 3, none⟩) hR v3).setCell (p := ⟨R, 4, none⟩) hR v4).setCell (p := ⟨R, 5, none⟩) hR v5).setCell (p := ⟨R, 6, none⟩) hR v6).setCell (p := ⟨R, 7, none⟩) hR v7).setCell (p := ⟨R, 8, none⟩) hR v8)
theorem put9_steps {a w : World} {B R : Nat} (h : Steps B a w) (hR : a.heap.size ≤ R) (v0 v1 v2 v3 v4 v5 v6 v7 v8 : Value) : Steps B a (put9 w R v0 v1 v2 v3 v4 v5 v6 v7 v8) :=
  ⟨(put9_below w (Nat.le_refl _) v0 v1 v2 v3 v4 v5 v6 v7 v8).os.trans h.os, (put9_below w (Nat.le_refl _) v0 v1 v2 v3 v4 v5 v6 v7 v8).tape.trans h.tape, (put9_below w (Nat.le_refl _) v0 v1 v2 v3 v4 v5 v6 v7 v8).output.trans h.output, Nat.le_trans h.size (put9_below w (Nat.le_refl R) v0 v1 v2 v3 v4 v5 v6 v7 v8).size, fun k hk hn => ((put9_below w hR v0 v1 v2 v3 v4 v5 v6 v7 v8).block k hk).trans (h.block k hk hn)⟩
theorem put9_kept (w : World) {P : Nat → Prop} {R : Nat} (hR : ¬ P R) (v0 v1 v2 v3 v4 v5 v6 v7 v8 : Value) : Kept P w (put9 w R v0 v1 v2 v3 v4 v5 v6 v7 v8) := fun k hl _ => by
  have hn : ¬ R = k := fun e => hR (e ▸ hl)
  simp only [put9, World.setCell, Array.getElem?_modify]
  simp only [if_neg hn]
theorem put9_other {w : World} {R k : Nat} {o : Obj} (h : w.heap[k]? = some o) (hn : k ≠ R) (v0 v1 v2 v3 v4 v5 v6 v7 v8 : Value) : (put9 w R v0 v1 v2 v3 v4 v5 v6 v7 v8).heap[k]? = some o := by
  refine Eq.trans ?_ h
  simp only [put9, World.setCell, Array.getElem?_modify]
  simp only [if_neg (show ¬ R = k from fun e => hn e.symm)]
theorem info_expr : (Tryz.prog.info? 34).map (·.size) = some 9 := by kernel_rfl
/-- The same in any world in which the result stands. -/
theorem ret_exW {fn : Func} {sl : Nat} (hf : fn.results = #[.cell sl 34]) {a : Act} (hd : a.defers = []) {R B p p' len d : Nat} (hp : a.tmps.getD sl undef = .pointer (some ⟨R, 0, none⟩)) {l : List Lx.Tk} {w wf : World} {v0 v1 v2 v3 v4 v5 v6 v7 v8 : Value} (hg : wf.heap[R]? = some (.cells #[v0, v1, v2, v3, v4, v5, v6, v7, v8] 34 (0, 0))) {x : Ps.Ex} {S : Value} {r : Ps.R Ps.Ex} (hr : r = .ok x (l.drop p')) (hs : Steps B w wf) (hx : ExAt (Fr w.heap.size) wf x S) (hpp : p ≤ p') (hrd : Rd wf B l p' len d) (hv : exC x S = [v0, v1, v2, v3, v4, v5, v6, v7, v8]) : bodyPost Tryz.prog fn (Ans exIs B l len d w p r) .ret a wf := by
  subst hr
  refine bodyPost_ret (v := .agg #[v0, v1, v2, v3, v4, v5, v6, v7, v8]) (results_cell_row hf a.tmps _ R 34 _ (0, 0) _ hp hg Tryz.underlying34 rfl info_expr) hd (Ans.ok p' hs ⟨S, ?_, hx⟩ hpp hrd)
  unfold exV; rw [hv]
/-- The end of a call whose result, an expression, lies in block R. -/
theorem ret_ex {fn : Func} {sl : Nat} (hf : fn.results = #[.cell sl 34]) {a : Act} (hd : a.defers = []) {R B p p' len d : Nat} (hp : a.tmps.getD sl undef = .pointer (some ⟨R, 0, none⟩)) {l : List Lx.Tk} {w w3 : World} {c0 c1 c2 c3 c4 c5 c6 c7 c8 : Value} (Z : w3.heap[R]? = some (.cells #[c0, c1, c2, c3, c4, c5, c6, c7, c8] 34 (0, 0))) {x : Ps.Ex} {S : Value} {r : Ps.R Ps.Ex} (hr : r = .ok x (l.drop p')) (hs : Steps B w w3) (hR : w.heap.size ≤ R) (hB : B < w.heap.size) {P : Nat → Prop} (hP : ¬ P R) (hPl : ∀ k, P k → w.heap.size ≤ k) (hx : ExAt P w3 x S) (hpp : p ≤ p') (hrd : Rd w3 B l p' len d) {v0 v1 v2 v3 v4 v5 v6 v7 v8 : Value} (hv : exC x S = [v0, v1, v2, v3, v4, v5, v6, v7, v8]) : bodyPost Tryz.prog fn (Ans exIs B l len d w p r) .ret a (put9 w3 R v0 v1 v2 v3 v4 v5 v6 v7 v8) := by
  subst hr
  have hg := put9_heap Z v0 v1 v2 v3 v4 v5 v6 v7 v8
  refine bodyPost_ret (v := .agg #[v0, v1, v2, v3, v4, v5, v6, v7, v8]) (results_cell_row hf a.tmps _ R 34 _ (0, 0) _ hp hg Tryz.underlying34 rfl info_expr) hd (Ans.ok p' (put9_steps hs hR v0 v1 v2 v3 v4 v5 v6 v7 v8) ⟨S, ?_, ?_⟩ hpp (hrd.keep (put9_below w3 (by omega) v0 v1 v2 v3 v4 v5 v6 v7 v8)))
  · unfold exV; rw [hv]
  · exact ExAt.keep (put9_kept w3 hP v0 v1 v2 v3 v4 v5 v6 v7 v8) (fun k hk _ => hPl k hk) _ _ hx
theorem ret_exA {fn : Func} {sl : Nat} (hf : fn.results = #[.cell sl 34]) {a : Act} (hd : a.defers = []) {R B p p' len d : Nat} (hp : a.tmps.getD sl undef = .pointer (some ⟨R, 0, none⟩)) {l : List Lx.Tk} {w w3 : World} {o : Obj} {c0 c1 c2 c3 c4 c5 c6 c7 c8 : Value} (Z : w3.heap[R]? = some (.cells #[c0, c1, c2, c3, c4, c5, c6, c7, c8] 34 (0, 0))) {x : Ps.Ex} {S : Value} {r : Ps.R Ps.Ex} (hr : r = .ok x (l.drop p')) (hs : Steps B w w3) (hR : w.heap.size ≤ R) (hB : B < w.heap.size) {P : Nat → Prop} (hP : ¬ P R) (hPl : ∀ k, P k → w.heap.size ≤ k) (hx : ExAt P w3 x S) (hpp : p ≤ p') (hrd : Rd w3 B l p' len d) {v0 v1 v2 v3 v4 v5 v6 v7 v8 : Value} (hv : exC x S = [v0, v1, v2, v3, v4, v5, v6, v7, v8]) : bodyPost Tryz.prog fn (Ans exIs B l len d w p r) .ret a ((put9 w3 R v0 v1 v2 v3 v4 v5 v6 v7 v8).alloc o) :=
  ret_exW hf hd hp (alloc_keeps (put9_heap Z v0 v1 v2 v3 v4 v5 v6 v7 v8) o) hr ((put9_steps hs hR v0 v1 v2 v3 v4 v5 v6 v7 v8).alloc o) (ExAt.keep (Kept.of ((Below.refl _ _).alloc (Nat.le_refl _) o)) (fun _ h _ => h) _ _ (ExAt.keep (put9_kept w3 hP v0 v1 v2 v3 v4 v5 v6 v7 v8) (fun k hk _ => hPl k hk) _ _ hx)) hpp ((hrd.keep (put9_below w3 (by omega) v0 v1 v2 v3 v4 v5 v6 v7 v8)).alloc o) hv
end Go.Proofs.YtedamaccflhmfaaGreatDoor
namespace Go.Proofs.YtedamaccflhmfaaGreatDoor
open Go.RowKit
attribute [local go_sem ↓] Go.wp_at_zero Go.wp_at_succ

def opsA : Value := .agg #[.int .u8 16, .string ⟨#[111, 114]⟩, .int .i64 0, .int .u8 15, .string ⟨#[97, 110, 100]⟩, .int .i64 1, .int .u8 9, .string ⟨#[61]⟩, .int .i64 3, .int .u8 10, .string ⟨#[60, 62]⟩, .int .i64 3, .int .u8 11, .string ⟨#[60]⟩, .int .i64 3, .int .u8 12, .string ⟨#[60, 61]⟩, .int .i64 3, .int .u8 13, .string ⟨#[62]⟩, .int .i64 3, .int .u8 14, .string ⟨#[62, 61]⟩, .int .i64 3, .int .u8 3, .string ⟨#[43]⟩, .int .i64 4, .int .u8 4, .string ⟨#[45]⟩, .int .i64 4, .int .u8 8, .string ⟨#[124, 124]⟩, .int .i64 4, .int .u8 5, .string ⟨#[42]⟩, .int .i64 5, .int .u8 6, .string ⟨#[47]⟩, .int .i64 5, .int .u8 7, .string ⟨#[37]⟩, .int .i64 5]
set_option maxRecDepth 100000 in
theorem ops_index (j : Nat) (hj : j < 14) : ∃ (o : Int) (s : List UInt8) (k : Nat), Ps.ops[j]? = some (o, s, k) ∧ k ≤ 5 ∧ ∀ w, (Instr.index 202 opsA (.int .i64 j)).run Tryz.prog w = .ok (.agg #[.int .u8 o, .string ⟨s.toArray⟩, .int .i64 k]) w := by
  match j, hj with
  | 0, _ => exact ⟨_, _, _, rfl, by decide, fun _ => rfl⟩
  | 1, _ => exact ⟨_, _, _, rfl, by decide, fun _ => rfl⟩
  | 2, _ => exact ⟨_, _, _, rfl, by decide, fun _ => rfl⟩
  | 3, _ => exact ⟨_, _, _, rfl, by decide, fun _ => rfl⟩
  | 4, _ => exact ⟨_, _, _, rfl, by decide, fun _ => rfl⟩
  | 5, _ => exact ⟨_, _, _, rfl, by decide, fun _ => rfl⟩
  | 6, _ => exact ⟨_, _, _, rfl, by decide, fun _ => rfl⟩
  | 7, _ => exact ⟨_, _, _, rfl, by decide, fun _ => rfl⟩
  | 8, _ => exact ⟨_, _, _, rfl, by decide, fun _ => rfl⟩
  | 9, _ => exact ⟨_, _, _, rfl, by decide, fun _ => rfl⟩
  | 10, _ => exact ⟨_, _, _, rfl, by decide, fun _ => rfl⟩
  | 11, _ => exact ⟨_, _, _, rfl, by decide, fun _ => rfl⟩
  | 12, _ => exact ⟨_, _, _, rfl, by decide, fun _ => rfl⟩
  | 13, _ => exact ⟨_, _, _, rfl, by decide, fun _ => rfl⟩
  | n + 14, h => omega

theorem sl3 {w : World} {B : Nat} {x y z : Value} {t : TypeId} (h : w.heap[B]? = some (.cells #[x, y, z] t (0, 0))) : w.cell? ⟨B, 0, none⟩ = some x ∧ w.cell? ⟨B, 1, none⟩ = some y ∧ w.cell? ⟨B, 2, none⟩ = some z ∧ B < w.heap.size :=
  ⟨Joins.cell_of_block h 0, Joins.cell_of_block h 1, Joins.cell_of_block h 2, (Array.getElem?_eq_some_iff.1 h).1⟩
theorem info_ops : (Tryz.prog.info? 202).map (·.size) = some opsC.toArray.size := by kernel_rfl
/-- What operation answers. -/
def OpAns (w : World) (B : Nat) (l : List Lx.Tk) (p len d : Nat) (z : Option Int) (e : Ending) (w' : World) : Prop := Steps B w w' ∧ match z with
    | none => e = .returned (.tuple #[.int .u8 0, .bool false]) ∧ Rd w' B l p len d
    | some op => e = .returned (.tuple #[.int .u8 op, .bool true]) ∧ Rd w' B l (p + 1) len d
set_option maxRecDepth 100000 in
set_option maxHeartbeats 12800000 in
theorem operation_any (w : World) (B : Nat) (l : List Lx.Tk) (p len d : Nat) (h : Rd w B l p len d) (rank : Nat) (hrk : rank ≤ 5) (z : Option Int) (hz : z = Ps.opAt rank (l.drop p)) : Calls Tryz.prog 137 #[.pointer (some ⟨B, 0, none⟩), .int .i64 rank] w (OpAns w B l p len d z) := by
  have HT := hide h.tab.ops
  have H0 := hide h
  have TK := hide (fun wx s b hx hb => took_any wx B l p len d hx s b hb)
  have HZ : Hid (z = ((Ps.ops.drop 0).find? fun o => o.2.2 == rank && Ps.has o.2.1 (l.drop p)).map (·.1)) := hz
  clear h hz
  go_enter Tryz.func137, Tryz.ntmps137
  go_wp2_with (refine wpList_load_row rfl 202 (.global 5) rfl 5 rfl _ _ _ _ HT.out Tryz.underlying202 rfl info_ops ?_)
  clear HT
  obtain ⟨A, hA⟩ : ∃ A, A = opsA := ⟨_, rfl⟩
  have HA := hide hA
  rw [show Value.agg opsC.toArray = opsA from rfl, ← hA]
  clear hA
  go_loopw [9] (fun i wr => ∃ j : Nat, i = .int .i64 j ∧ j ≤ 14 ∧ Rd wr B l p len d ∧ Steps B w wr ∧ Hid (z = ((Ps.ops.drop j).find? fun o => o.2.2 == rank && Ps.has o.2.1 (l.drop p)).map (·.1))) (fun i _ => 14 - (intOf i).toNat)
  case atStart => exact ⟨0, rfl, by omega, H0.out, Steps.refl _ _, HZ⟩
  case round =>
    clear HZ H0
    obtain ⟨j, rfl, hj, hR, hS, HZ⟩ := hrel
    by_cases hlt : j < 14
    · obtain ⟨o, s, k, hg, hk5, hix⟩ := ops_index j hlt
      rw [← HA.out] at hix
      have HR := hide hR
      have hne : wr.heap.size ≠ B := by have := hR.lt; omega
      have hd : Ps.ops.drop j = (o, s, k) :: Ps.ops.drop (j + 1) := by
        obtain ⟨h1, h2⟩ := List.getElem?_eq_some_iff.1 hg
        rw [List.drop_eq_getElem_cons h1, h2]
      have HZ2 := HZ.out
      rw [hd, List.find?_cons] at HZ2
      have Z1 : Hid (k = rank → Ps.has s (l.drop p) = true → z = some o) := fun e1 e2 => by rw [HZ2, e1, e2]; simp
      have Z2 : Hid (Ps.has s (l.drop p) = false → z = ((Ps.ops.drop (j + 1)).find? fun o => o.2.2 == rank && Ps.has o.2.1 (l.drop p)).map (·.1)) := fun e1 => by rw [HZ2, e1]; simp
      have Z3 : Hid (¬ k = rank → z = ((Ps.ops.drop (j + 1)).find? fun o => o.2.2 == rank && Ps.has o.2.1 (l.drop p)).map (·.1)) := fun e1 => by rw [HZ2, show (k == rank) = false from by simpa using e1]; simp
      obtain ⟨b, hb⟩ : ∃ b, b = Ps.has s (l.drop p) := ⟨_, rfl⟩
      rw [← hb] at Z1 Z2
      have TK2 := hide (fun wx hx => TK.out wx ⟨s.toArray⟩ b hx hb)
      obtain ⟨ss, hss⟩ : ∃ ss : ByteArray, ss = ⟨s.toArray⟩ := ⟨_, rfl⟩
      rw [← hss] at hix TK2
      clear hR hg hd HZ2 hb hss TK HZ
      by_cases hk : k = rank
      · subst hk
        cases b with
        | false =>
          go_wp2_with (go_at_call 50; refine (TK2.out _ (HR.out.alloc _)).mono ?_; rintro e w2 ⟨rfl, hR2, hS2⟩; have HR2 := hide hR2; clear hR2; obtain ⟨t0, t1, t2, t3⟩ := sl3 (hS2.keeps (heap_new rfl) hne))
          exact ⟨⟨j + 1, rfl, by omega, HR2.out, (hS.alloc _).trans hS2, Z2.out (by simp)⟩, by simp [intOf]; omega⟩
        | true =>
          go_wp2_with (go_at_call 50; refine (TK2.out _ (HR.out.alloc _)).mono ?_; rintro e w2 ⟨rfl, hR2, hS2⟩; have HR2 := hide hR2; clear hR2; obtain ⟨t0, t1, t2, t3⟩ := sl3 (hS2.keeps (heap_new rfl) hne))
          rw [Z1.out trivial trivial]
          exact bodyPost_ret (v := .tuple #[.int .u8 o, .bool true]) (by simp [results, Tryz.results137]) rfl ⟨(hS.alloc _).trans hS2, rfl, HR2.out⟩
      · have hk2 : ¬ (k : Int) = (rank : Int) := by omega
        go_wp2
        exact ⟨⟨j + 1, rfl, by omega, HR.out.alloc _, hS.alloc _, Z3.out hk⟩, by simp [intOf]; omega⟩
    · have e : j = 14 := by omega
      subst e
      have Z0 : z = none := HZ.out
      subst Z0
      have HR := hide hR
      clear hR
      go_wp2
      exact bodyPost_ret (v := .tuple #[.int .u8 0, .bool false]) (by simp [results, Tryz.results137]) rfl ⟨hS, rfl, HR.out⟩
end Go.Proofs.YtedamaccflhmfaaGreatDoor
namespace Go.Proofs.YtedamaccflhmfaaGreatDoor
open Go.RowKit
attribute [local go_sem ↓] Go.wp_at_zero Go.wp_at_succ

/-- What the calls answer, at any place. -/
abbrev Named (B : Nat) (l : List Lx.Tk) (len d : Nat) : Prop := ∀ (wx : World) (q : Nat), Rd wx B l q len d → Calls Tryz.prog 80 #[.pointer (some ⟨B, 0, none⟩)] wx (Ans strIs B l len d wx q (Ps.name (l.drop q)))
abbrev Took (B : Nat) (l : List Lx.Tk) (len d : Nat) : Prop := ∀ (wx : World) (q : Nat) (s : ByteArray) (b : Bool), Rd wx B l q len d → b = Ps.has s.data.toList (l.drop q) → Calls Tryz.prog 50 #[.pointer (some ⟨B, 0, none⟩), .string s] wx fun e w' => e = .returned (.bool b) ∧ Rd w' B l (if b then q + 1 else q) len d ∧ Steps B wx w'
theorem named_any (B : Nat) (l : List Lx.Tk) (len d : Nat) : Named B l len d := fun wx q h => name_any wx B l q len d h
theorem took_all (B : Nat) (l : List Lx.Tk) (len d : Nat) : Took B l len d := fun wx q s b h hb => took_any wx B l q len d h s b hb

set_option maxHeartbeats 6400000 in
theorem column_any (w : World) (B : Nat) (l : List Lx.Tk) (p len d : Nat) (h : Rd w B l p len d) : Calls Tryz.prog 125 #[.pointer (some ⟨B, 0, none⟩)] w (Ans exIs B l len d w p (Ps.column (l.drop p))) := by
  have NM := hide (named_any B l len d)
  have TK := hide (took_all B l len d)
  have H0 := hide h
  have hne : w.heap.size ≠ B := by have := h.lt; omega
  clear h
  go_enter Tryz.func125, Tryz.ntmps125
  go_wp2_with (first
    | (go_at_call 80; refine (NM.out _ _ (H0.out.alloc _)).mono ?_; rintro e w2 hA; rcases hA.elim with ⟨n, p1, V, hq, rfl, rfl, hp1, hr1, hs1⟩ | ⟨c, ts, hq, rfl, hs1⟩ <;> (have HQ := hide hq; clear hq hA); have HR1 := hide hr1; clear hr1)
    | (go_at_call 50; refine (TK.out _ _ _ _ (HR1.out.alloc _) rfl).mono ?_; rintro e w3 ⟨rfl, hr2, hs2⟩; have HR2 := hide hr2; clear hr2; have X3 := hs2.keeps (heap_new rfl) (ne_of_lt' HR1.out.lt); have Z3 := hs2.keeps (alloc_keeps (hs1.keeps (heap_new rfl) hne) _) hne; obtain ⟨⟨a0, a1, a2, a3, a4, a5, a6, a7, a8⟩, ⟨b0, b1, b2, b3, b4, b5, b6, b7, b8⟩, _⟩ := sl9 X3; obtain ⟨⟨c0, c1, c2, c3, c4, c5, c6, c7, c8⟩, ⟨d0, d1, d2, d3, d4, d5, d6, d7, d8⟩, _⟩ := sl9 Z3))
  · rename_i e2
    have hne2 : w2.heap.size ≠ B := ne_of_lt' HR1.out.lt
    rw [e2, if_pos rfl] at HR2
    have hlt2 : w.heap.size < w2.heap.size := by have := hs1.size; simp at this; omega
    have ne3 : ¬ w2.heap.size = w.heap.size := by omega
    have ne4 : ¬ w.heap.size = w2.heap.size := by omega
    have HC : Hid (Ps.column (l.drop p) = (Ps.name (l.drop (p1 + 1))).bind fun m ts => .ok (Ps.col n m) ts) := by
      show _ = _
      rw [Ps.column, HQ.out]; show (if Ps.has [46] (l.drop p1) = true then _ else _) = _; rw [e2, if_pos rfl, List.tail_drop]
    obtain ⟨r, hr⟩ : ∃ r, r = Ps.name (l.drop (p1 + 1)) := ⟨_, rfl⟩
    have NR : Hid (∀ wx, Rd wx B l (p1 + 1) len d → Calls Tryz.prog 80 #[.pointer (some ⟨B, 0, none⟩)] wx (Ans strIs B l len d wx (p1 + 1) r)) := fun wx hx => by rw [hr]; exact NM.out wx _ hx
    rw [← hr] at HC
    cases r with
    | ok m ts =>
      clear hr
      go_region_with (go_at_call 80; refine (NR.out _ (HR2.out.later (Below.refl _ _).drew)).mono ?_; rintro e w4 hA; obtain ⟨p2, V, ht, rfl, rfl, hp2, hr3, hs3⟩ := hA.of_ok; have HR3 := hide hr3; have HT := hide ht; clear hA hr3 ht; have X4 := hs3.keeps (show w3.drew.heap[w2.heap.size]? = _ from X3) hne2; have Z4 := hs3.keeps (show w3.drew.heap[w.heap.size]? = _ from Z3) hne; clear a0 a1 a2 a3 a4 a5 a6 a7 a8 b0 b1 b2 b3 b4 b5 b6 b7 b8 c0 c1 c2 c3 c4 c5 c6 c7 c8 d0 d1 d2 d3 d4 d5 d6 d7 d8; obtain ⟨⟨a0, a1, a2, a3, a4, a5, a6, a7, a8⟩, ⟨b0, b1, b2, b3, b4, b5, b6, b7, b8⟩, _⟩ := sl9 X4; obtain ⟨⟨c0, c1, c2, c3, c4, c5, c6, c7, c8⟩, ⟨d0, d1, d2, d3, d4, d5, d6, d7, d8⟩, _⟩ := sl9 Z4)
      all_goals
        go_wp2
        refine ret_ex rfl rfl rfl (R := w.heap.size) (heap_set_other (heap_set_other Z4 (fun e => ne3 e.symm) _) (fun e => ne3 e.symm) _) (x := Ps.col n m) (S := .slice none 0 0) (p' := p2) ?_ (Steps.setCell (Steps.setCell ((((((Steps.refl B w).alloc _).trans hs1).trans (((Steps.refl B w2).alloc _).trans hs2)).drew).trans hs3) (.inl (Nat.le_of_lt hlt2)) _) (.inl (Nat.le_of_lt hlt2)) _) (Nat.le_refl _) H0.out.lt (P := Fr (w.heap.size + 1)) (Nat.not_succ_le_self _) (fun _ hk => Nat.le_of_succ_le hk) ?_ (by omega) ((HR3.out.keep (((Below.refl _ w4).setCell (p := ⟨w2.heap.size, 4, none⟩) HR1.out.lt _).setCell (p := ⟨w2.heap.size, 5, none⟩) HR1.out.lt _))) rfl
        · rw [HC.out, ← HT.out]; rfl
        · rw [Ps.col, exAt_mk]; exact ⟨none, 0, rfl, fun h => absurd rfl h⟩
    | no c ts =>
      clear hr
      refine wp_region_any (by kernel_rfl) ?_
      change wpAny _ _ _ _ _ _ _ (World.drew _)
      refine wpAny_take (i := 0) (v := ?vz0_0) rfl (by kernel_rfl) (by kernel_rfl) (by kernel_rfl) (fun _ _ _ h => h) (Or.inl ⟨by rfl, ?hyz0_0⟩) ?restz0_0
      case hyz0_0 => (intro w; go_simp; try with_reducible rfl)
      refine wpAny_take (i := 2) (v := ?vz1_2) rfl (by kernel_rfl) (by kernel_rfl) (by kernel_rfl) (fun _ _ _ h => h) (Or.inl ⟨by rfl, ?hyz1_2⟩) ?restz1_2
      case hyz1_2 => (intro w; go_simp; try with_reducible rfl)
      refine wpAny_ready (rs := [1, 3]) (by kernel_rfl) (by simp) ?_
      refine AllReady.cons rfl (fun K hK => ?_) ?morez
      · go_simp
        refine hK _ _ ?_
        clear hK K
        refine wpAny_take (i := 4) (v := ?vza4_4) rfl (by kernel_rfl) (by kernel_rfl) (by kernel_rfl) (fun _ _ _ h => h) (Or.inl ⟨by rfl, ?hyza4_4⟩) ?restza4_4
        case hyza4_4 => (intro w; go_simp; try with_reducible rfl)
        refine wpAny_ready (rs := [3]) (by kernel_rfl) (by simp) ?_
        refine AllReady.cons rfl (fun K hK => ?_) AllReady.nil
        go_simp
        refine (NR.out _ (HR2.out.later (Below.refl _ _).drew)).mono ?_
        rintro e wz hA
        obtain ⟨rfl, hsz⟩ := hA.of_no
        exact bodyPost_thrown rfl (by rw [HC.out]; exact Ans.no (((((Steps.refl B w).alloc _).trans hs1).trans (((Steps.refl B w2).alloc _).trans hs2)).drew.trans hsz))
      refine AllReady.cons rfl (fun K hK => ?_) AllReady.nil
      go_simp
      refine (NR.out _ (HR2.out.later (Below.refl _ _).drew)).mono ?_
      rintro e wz hA
      obtain ⟨rfl, hsz⟩ := hA.of_no
      exact bodyPost_thrown rfl (by rw [HC.out]; exact Ans.no (((((Steps.refl B w).alloc _).trans hs1).trans (((Steps.refl B w2).alloc _).trans hs2)).drew.trans hsz))
  · rename_i e2
    rw [e2, if_neg (by decide)] at HR2
    refine ret_ex rfl rfl rfl Z3 (x := Ps.col [] n) (S := .slice none 0 0) ?_ ((((Steps.refl B w).alloc _).trans hs1).trans (((Steps.refl B w2).alloc _).trans hs2)) (Nat.le_refl _) H0.out.lt (P := Fr (w.heap.size + 1)) (Nat.not_succ_le_self _) (fun _ hk => Nat.le_of_succ_le hk) ?_ hp1 HR2.out rfl
    · rw [Ps.column, HQ.out]; show (if Ps.has [46] (l.drop p1) = true then _ else _) = _; rw [e2]; rfl
    · rw [Ps.col, exAt_mk]; exact ⟨none, 0, rfl, fun h => absurd rfl h⟩
  · refine bodyPost_thrown rfl ?_
    rw [show Ps.column (l.drop p) = .no c ts from by rw [Ps.column, HQ.out]; rfl]
    exact Ans.no (((Steps.refl B w).alloc _).trans hs1)
end Go.Proofs.YtedamaccflhmfaaGreatDoor
