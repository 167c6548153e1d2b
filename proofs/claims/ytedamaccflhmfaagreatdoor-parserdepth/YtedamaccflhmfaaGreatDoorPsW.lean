/-
  Package parser: a statement being built.
-/
import Derived.Test.YtedamaccflhmfaaGreatDoorXV
namespace Go.Proofs.YtedamaccflhmfaaGreatDoor
open Go.RowKit
attribute [local go_sem ↓] Go.wp_at_zero Go.wp_at_succ

abbrev put9_10 (w : World) (R : Nat) (v0 v1 v2 v3 v4 v5 v6 v7 v8 : Value) : World := (((((((((w.setCell ⟨R, 10, none⟩ v0).setCell ⟨R, 11, none⟩ v1).setCell ⟨R, 12, none⟩ v2).setCell ⟨R, 13, none⟩ v3).setCell ⟨R, 14, none⟩ v4).setCell ⟨R, 15, none⟩ v5).setCell ⟨R, 16, none⟩ v6).setCell ⟨R, 17, none⟩ v7).setCell ⟨R, 18, none⟩ v8)
theorem put9_10_heap {w : World} {R : Nat} {c0 c1 c2 c3 c4 c5 c6 c7 c8 c9 c10 c11 c12 c13 c14 c15 c16 c17 c18 c19 c20 c21 c22 : Value} {T : TypeId} (Z : w.heap[R]? = some (.cells #[c0, c1, c2, c3, c4, c5, c6, c7, c8, c9, c10, c11, c12, c13, c14, c15, c16, c17, c18, c19, c20, c21, c22] T (0, 0))) (v0 v1 v2 v3 v4 v5 v6 v7 v8 : Value) : (put9_10 w R v0 v1 v2 v3 v4 v5 v6 v7 v8).heap[R]? = some (.cells #[c0, c1, c2, c3, c4, c5, c6, c7, c8, c9, v0, v1, v2, v3, v4, v5, v6, v7, v8, c19, c20, c21, c22] T (0, 0)) := by
  have h0 : (w.setCell ⟨R, 10, none⟩ v0).heap[R]? = some (.cells #[c0, c1, c2, c3, c4, c5, c6, c7, c8, c9, v0, c11, c12, c13, c14, c15, c16, c17, c18, c19, c20, c21, c22] T (0, 0)) := heap_set Z v0
  have h1 : ((w.setCell ⟨R, 10, none⟩ v0).setCell ⟨R, 11, none⟩ v1).heap[R]? = some (.cells #[c0, c1, c2, c3, c4, c5, c6, c7, c8, c9, v0, v1, c12, c13, c14, c15, c16, c17, c18, c19, c20, c21, c22] T (0, 0)) := heap_set h0 v1
  have h2 : (((w.setCell ⟨R, 10, none⟩ v0).setCell ⟨R, 11, none⟩ v1).setCell ⟨R, 12, none⟩ v2).heap[R]? = some (.cells #[c0, c1, c2, c3, c4, c5, c6, c7, c8, c9, v0, v1, v2, c13, c14, c15, c16, c17, c18, c19, c20, c21, c22] T (0, 0)) := heap_set h1 v2
  have h3 : ((((w.setCell ⟨R, 10, none⟩ v0).setCell ⟨R, 11, none⟩ v1).setCell ⟨R, 12, none⟩ v2).setCell ⟨R, 13, none⟩ v3).heap[R]? = some (.cells #[c0, c1, c2, c3, c4, c5, c6, c7, c8, c9, v0, v1, v2, v3, c14, c15, c16, c17, c18, c19, c20, c21, c22] T (0, 0)) := heap_set h2 v3
  have h4 : (((((w.setCell ⟨R, 10, none⟩ v0).setCell ⟨R, 11, none⟩ v1).setCell ⟨R, 12, none⟩ v2).setCell ⟨R, 13, none⟩ v3).setCell ⟨R, 14, none⟩ v4).heap[R]? = some (.cells #[c0, c1, c2, c3, c4, c5, c6, c7, c8, c9, v0, v1, v2, v3, v4, c15, c16, c17, c18, c19, c20, c21, c22] T (0, 0)) := heap_set h3 v4
  have h5 : ((((((w.setCell ⟨R, 10, none⟩ v0).setCell ⟨R, 11, none⟩ v1).setCell ⟨R, 12, none⟩ v2).setCell ⟨R, 13, none⟩ v3).setCell ⟨R, 14, none⟩ v4).setCell ⟨R, 15, none⟩ v5).heap[R]? = some (.cells #[c0, c1, c2, c3, c4, c5, c6, c7, c8, c9, v0, v1, v2, v3, v4, v5, c16, c17, c18, c19, c20, c21, c22] T (0, 0)) := heap_set h4 v5
  have h6 : (((((((w.setCell ⟨R, 10, none⟩ v0).setCell ⟨R, 11, none⟩ v1).setCell ⟨R, 12, none⟩ v2).setCell ⟨R, 13, none⟩ v3).setCell ⟨R, 14, none⟩ v4).setCell ⟨R, 15, none⟩ v5).setCell ⟨R, 16, none⟩ v6).heap[R]? = some (.cells #[c0, c1, c2, c3, c4, c5, c6, c7, c8, c9, v0, v1, v2, v3, v4, v5, v6, c17, c18, c19, c20, c21, c22] T (0, 0)) := heap_set h5 v6
  have h7 : ((((((((w.setCell ⟨R, 10, none⟩ v0).setCell ⟨R, 11, none⟩ v1).setCell ⟨R, 12, none⟩ v2).setCell ⟨R, 13, none⟩ v3).setCell ⟨R, 14, none⟩ v4).setCell ⟨R, 15, none⟩ v5).setCell ⟨R, 16, none⟩ v6).setCell ⟨R, 17, none⟩ v7).heap[R]? = some (.cells #[c0, c1, c2, c3, c4, c5, c6, c7, c8, c9, v0, v1, v2, v3, v4, v5, v6, v7, c18, c19, c20, c21, c22] T (0, 0)) := heap_set h6 v7
  have h8 : (((((((((w.setCell ⟨R, 10, none⟩ v0).setCell ⟨R, 11, none⟩ v1).setCell ⟨R, 12, none⟩ v2).setCell ⟨R, 13, none⟩ v3).setCell ⟨R, 14, none⟩ v4).setCell ⟨R, 15, none⟩ v5).setCell ⟨R, 16, none⟩ v6).setCell ⟨R, 17, none⟩ v7).setCell ⟨R, 18, none⟩ v8).heap[R]? = some (.cells #[c0, c1, c2, c3, c4, c5, c6, c7, c8, c9, v0, v1, v2, v3, v4, v5, v6, v7, v8, c19, c20, c21, c22] T (0, 0)) := heap_set h7 v8
  exact h8
theorem put9_10_below (w : World) {b R : Nat} (hR : b ≤ R) (v0 v1 v2 v3 v4 v5 v6 v7 v8 : Value) : Below b w (put9_10 w R v0 v1 v2 v3 v4 v5 v6 v7 v8) := ((((((((((Below.refl b w).setCell (p := ⟨R, 10, none⟩) hR v0).setCell (p := ⟨R, 11, none⟩) hR v1).setCell (p := ⟨R, 12, none⟩) hR v2).setCell (p := ⟨R, 13, none⟩) hR v3).setCell (p := ⟨R, 14, none⟩) hR v4).setCell (p := ⟨R, 15, none⟩) hR v5).setCell (p := ⟨R, 16, none⟩) hR v6).setCell (p := ⟨R, 17, none⟩) hR v7).setCell (p := ⟨R, 18, none⟩) hR v8)
theorem put9_10_steps {a w : World} {B R : Nat} (h : Steps B a w) (hR : a.heap.size ≤ R) (v0 v1 v2 v3 v4 v5 v6 v7 v8 : Value) : Steps B a (put9_10 w R v0 v1 v2 v3 v4 v5 v6 v7 v8) :=
  ⟨(put9_10_below w (Nat.le_refl _) v0 v1 v2 v3 v4 v5 v6 v7 v8).os.trans h.os, (put9_10_below w (Nat.le_refl _) v0 v1 v2 v3 v4 v5 v6 v7 v8).tape.trans h.tape, (put9_10_below w (Nat.le_refl _) v0 v1 v2 v3 v4 v5 v6 v7 v8).output.trans h.output, Nat.le_trans h.size (put9_10_below w (Nat.le_refl R) v0 v1 v2 v3 v4 v5 v6 v7 v8).size, fun k hk hn => ((put9_10_below w hR v0 v1 v2 v3 v4 v5 v6 v7 v8).block k hk).trans (h.block k hk hn)⟩
theorem put9_10_other {w : World} {R k : Nat} {o : Obj} (h : w.heap[k]? = some o) (hn : k ≠ R) (v0 v1 v2 v3 v4 v5 v6 v7 v8 : Value) : (put9_10 w R v0 v1 v2 v3 v4 v5 v6 v7 v8).heap[k]? = some o := by
  refine Eq.trans ?_ h
  simp only [put9_10, World.setCell, Array.getElem?_modify]
  simp only [if_neg (show ¬ R = k from fun e => hn e.symm)]
theorem put9_10_kept (w : World) {P : Nat → Prop} {R : Nat} (hR : ¬ P R) (v0 v1 v2 v3 v4 v5 v6 v7 v8 : Value) : Kept P w (put9_10 w R v0 v1 v2 v3 v4 v5 v6 v7 v8) := fun k hl _ => by
  have hn : ¬ R = k := fun e => hR (e ▸ hl)
  simp only [put9_10, World.setCell, Array.getElem?_modify]
  simp only [if_neg hn]

/-- The slices of a statement. -/
structure Sls where
  cols : Value
  key : Value
  names : Value
  rows : Value
  items : Value
  src : Value
  wh : Value
  group : Value
  order : Value
  sets : Value
def nilS : Value := .slice none 0 0
def noSls : Sls := ⟨nilS, nilS, nilS, nilS, nilS, nilS, nilS, nilS, nilS, nilS⟩
def stC (s : Ps.St) (S : Sls) : List Value := [.int .u8 s.kind, .string ⟨s.nm.toArray⟩, .string ⟨s.tb.toArray⟩, S.cols, S.key, .bool s.uniq, S.names, S.rows, S.items, S.src] ++ (exC s.wh S.wh ++ [S.group, S.order, .int .i64 s.limit, S.sets])
theorem stC_len (s : Ps.St) (S : Sls) : (stC s S).length = 23 := by unfold stC; rw [List.length_append, List.length_append, exC_len]; rfl
theorem stC_size (s : Ps.St) (S : Sls) : (stC s S).toArray.size = 23 := by rw [List.size_toArray]; exact stC_len s S
structure StAt (lo : Nat) (w : World) (s : Ps.St) (S : Sls) : Prop where
  cols : listIs colCod lo w s.cols S.cols
  key : listIs strCod lo w s.key S.key
  names : listIs strCod lo w s.names S.names
  rows : listIs rowCod lo w s.rows S.rows
  items : listIs itemCod lo w s.items S.items
  src : listIs srcCod lo w s.src S.src
  group : listIs exCod lo w s.group S.group
  order : listIs ordCod lo w s.order S.order
  sets : listIs asgCod lo w s.sets S.sets
  wh : ExAt (Fr lo) w s.wh S.wh
def stIs (lo : Nat) (w : World) (s : Ps.St) (V : Value) : Prop := ∃ S, V = .agg (stC s S).toArray ∧ StAt lo w s S
theorem cod_pos : (∀ a S, 0 < (colCod.cells a S).length) ∧ (∀ a S, 0 < (strCod.cells a S).length) ∧ (∀ a S, 0 < (rowCod.cells a S).length) ∧ (∀ a S, 0 < (itemCod.cells a S).length) ∧ (∀ a S, 0 < (srcCod.cells a S).length) ∧ (∀ a S, 0 < (exCod.cells a S).length) ∧ (∀ a S, 0 < (ordCod.cells a S).length) ∧ (∀ a S, 0 < (asgCod.cells a S).length) :=
  ⟨fun _ _ => Nat.succ_pos _, fun _ _ => Nat.succ_pos _, fun _ _ => Nat.succ_pos _, fun _ _ => Nat.succ_pos _, fun _ _ => Nat.succ_pos _, fun a S => by show 0 < (exC a S).length; rw [exC_len]; decide, fun a S => by show 0 < (exC a.x S ++ [Value.bool a.desc]).length; rw [List.length_append]; exact Nat.succ_pos _, fun _ _ => Nat.succ_pos _⟩
theorem StAt.keep {lo lo' : Nat} {w w' : World} {s : Ps.St} {S : Sls} (h : StAt lo w s S) (hk : Kept (Fr lo) w w') (hl : lo' ≤ lo) : StAt lo' w' s S := by
  obtain ⟨p1, p2, p3, p4, p5, p6, p7, p8⟩ := cod_pos
  exact ⟨h.cols.keep hk hl p1, h.key.keep hk hl p2, h.names.keep hk hl p2, h.rows.keep hk hl p3, h.items.keep hk hl p4, h.src.keep hk hl p5, h.group.keep hk hl p6, h.order.keep hk hl p7, h.sets.keep hk hl p8, ExAt.keep hk (fun k hk _ => Nat.le_trans hl hk) _ _ h.wh⟩
theorem nil_list {α : Type} (C : Cod α) (lo : Nat) (w : World) : listIs C lo w [] nilS := ⟨none, 0, [], rfl, rfl, fun h => absurd rfl h⟩
/-- The statement of that kind with nothing else. -/
theorem StAt.nil (lo : Nat) (w : World) (k : Int) (n t : List UInt8) (u : Bool) (li : Int) : StAt lo w { kind := k, nm := n, tb := t, uniq := u, limit := li } noSls :=
  ⟨nil_list _ _ _, nil_list _ _ _, nil_list _ _ _, nil_list _ _ _, nil_list _ _ _, nil_list _ _ _, nil_list _ _ _, nil_list _ _ _, nil_list _ _ _, zero_ex _ _⟩
theorem list_one {α : Type} {C : Cod α} {lo : Nat} {w : World} {xs : List α} {V : Value} (h : listIs C lo w xs V) : V.oneCell' = true := by
  obtain ⟨a, cap, c, rfl, _⟩ := h; rfl
theorem stC_one {lo : Nat} {w : World} {s : Ps.St} {S : Sls} (h : StAt lo w s S) : (stC s S).toArray.all (·.oneCell') = true := by
  rw [Array.all_eq_true_iff_forall_mem]
  intro u hu
  rw [List.mem_toArray] at hu
  obtain ⟨kind, nm, tb, cols, key, uniq, names, rows, items, src, ⟨o, ⟨k, n, t⟩, tb2, nm2, sl, kd, ag⟩, group, order, limit, sets⟩ := s
  have hw : S.wh.oneCell' = true := by
    have := h.wh
    obtain ⟨a, c, e⟩ := ExAt.slice this
    rw [e]; rfl
  simp only [stC, exC, List.cons_append, List.nil_append, List.mem_cons, List.not_mem_nil, or_false] at hu
  rcases hu with rfl | rfl | rfl | rfl | rfl | rfl | rfl | rfl | rfl | rfl | rfl | rfl | rfl | rfl | rfl | rfl | rfl | rfl | rfl | rfl | rfl | rfl | rfl
  all_goals first | rfl | exact hw | exact list_one h.cols | exact list_one h.key | exact list_one h.names | exact list_one h.rows | exact list_one h.items | exact list_one h.src | exact list_one h.group | exact list_one h.order | exact list_one h.sets

/-- A statement being built: R the result's block, X the block of what is there. -/
structure Bld (w : World) (B : Nat) (l : List Lx.Tk) (len p R X : Nat) (wc : World) (q : Nat) (s : Ps.St) (S : Sls) : Prop where
  rd : Rd wc B l q len 0
  st : Steps B w wc
  zr : wc.heap[R]? = some (.cells (stC { kind := 0 } noSls).toArray 38 (0, 0))
  zx : wc.heap[X]? = some (.cells (stC s S).toArray 38 (0, 0))
  on : StAt (X + 1) wc s S
  pq : p ≤ q
  br : B < R
  rx : R < X
  wr : w.heap.size ≤ R
theorem Bld.go {w : World} {B : Nat} {l : List Lx.Tk} {len p R X : Nat} {wc w' : World} {q q' : Nat} {s : Ps.St} {S : Sls} (h : Bld w B l len p R X wc q s S) (hs : Steps B wc w') (hr : Rd w' B l q' len 0) (hq : q ≤ q') : Bld w B l len p R X w' q' s S := by
  have h1 := h.br; have h2 := h.rx
  exact ⟨hr, h.st.trans hs, hs.keeps h.zr (by omega), hs.keeps h.zx (by omega), h.on.keep (Kept.steps hs (show ¬ X + 1 ≤ B by omega)) (Nat.le_refl _), Nat.le_trans h.pq hq, h1, h2, h.wr⟩
theorem Bld.alloc {w : World} {B : Nat} {l : List Lx.Tk} {len p R X : Nat} {wc : World} {q : Nat} {s : Ps.St} {S : Sls} (h : Bld w B l len p R X wc q s S) (o : Obj) : Bld w B l len p R X (wc.alloc o) q s S := h.go (step_alloc B wc o) (h.rd.alloc o) (Nat.le_refl _)
theorem Bld.xlt {w : World} {B : Nat} {l : List Lx.Tk} {len p R X : Nat} {wc : World} {q : Nat} {s : Ps.St} {S : Sls} (h : Bld w B l len p R X wc q s S) : X < wc.heap.size := (Array.getElem?_eq_some_iff.1 h.zx).1
/-- The first world of it. -/
theorem Bld.start {w : World} {B : Nat} {l : List Lx.Tk} {len p R : Nat} {wc : World} {q : Nat} (hr : Rd wc B l q len 0) (hs : Steps B w wc) (zr : wc.heap[R]? = some (.cells (stC { kind := 0 } noSls).toArray 38 (0, 0))) (hq : p ≤ q) (hB : B < w.heap.size) (hR : w.heap.size ≤ R) (k : Int) (n t : List UInt8) (u : Bool) (li : Int) {cs : Array Value} (hc : cs = (stC { kind := k, nm := n, tb := t, uniq := u, limit := li } noSls).toArray) {X : Nat} (hX : X = wc.heap.size) : Bld w B l len p R X (wc.alloc (.cells cs 38)) q { kind := k, nm := n, tb := t, uniq := u, limit := li } noSls := by
  subst hc hX
  exact ⟨hr.alloc _, hs.alloc _, alloc_keeps zr _, heap_new rfl, StAt.nil _ _ _ _ _ _ _, hq, by omega, (Array.getElem?_eq_some_iff.1 zr).1, hR⟩
theorem x_kept {w : World} {X i : Nat} (V : Value) : Kept (Fr (X + 1)) w (w.setCell ⟨X, i, none⟩ V) := fun k hk _ => Below.heap_setCell _ _ _ _ (by have h : X + 1 ≤ k := hk; show k ≠ X; omega)

theorem Bld.cell_cols {w : World} {B : Nat} {l : List Lx.Tk} {len p R X : Nat} {wc : World} {q : Nat} {s : Ps.St} {S : Sls} (h : Bld w B l len p R X wc q s S) : wc.cell? ⟨X, 3, none⟩ = some S.cols ∧ wc.frozen? ⟨X, 3, none⟩ = false := by
  refine ⟨(Joins.cell_of_block h.zx 3).trans ?_, Joins.unfrozen_of_block h.zx 3⟩
  obtain ⟨kind, nm, tb, cols, key, uniq, names, rows, items, src, ⟨o, ⟨k, n, t⟩, tb2, nm2, sl, kd, ag⟩, group, order, limit, sets⟩ := s
  rfl
theorem Bld.set_cols {w : World} {B : Nat} {l : List Lx.Tk} {len p R X : Nat} {wc : World} {q : Nat} {s : Ps.St} {S : Sls} (h : Bld w B l len p R X wc q s S) {xs : List (Ps.Col)} {V : Value} (hv : listIs colCod (X + 1) wc xs V) : Bld w B l len p R X (wc.setCell ⟨X, 3, none⟩ V) q { s with cols := xs } { S with cols := V } := by
  obtain ⟨p1, p2, p3, p4, p5, p6, p7, p8⟩ := cod_pos
  have h1 := h.br; have h2 := h.rx; have h3 := h.wr
  have hk := x_kept (w := wc) (X := X) (i := 3) V
  have ho := h.on.keep hk (Nat.le_refl _)
  have hv2 := hv.keep hk (Nat.le_refl _) p1
  refine ⟨h.rd.keep ((Below.refl _ _).setCell (p := ⟨X, 3, none⟩) (show B + 1 ≤ X by omega) V), h.st.setCell (p := ⟨X, 3, none⟩) (.inl (show w.heap.size ≤ X by omega)) V, heap_set_other h.zr (by omega) V, ?_, ?_, h.pq, h1, h2, h3⟩
  · refine (heap_set h.zx V).trans ?_
    obtain ⟨kind, nm, tb, cols, key, uniq, names, rows, items, src, ⟨o, ⟨k, n, t⟩, tb2, nm2, sl, kd, ag⟩, group, order, limit, sets⟩ := s
    rfl
  · exact ⟨hv2, ho.key, ho.names, ho.rows, ho.items, ho.src, ho.group, ho.order, ho.sets, ho.wh⟩

theorem Bld.cell_key {w : World} {B : Nat} {l : List Lx.Tk} {len p R X : Nat} {wc : World} {q : Nat} {s : Ps.St} {S : Sls} (h : Bld w B l len p R X wc q s S) : wc.cell? ⟨X, 4, none⟩ = some S.key ∧ wc.frozen? ⟨X, 4, none⟩ = false := by
  refine ⟨(Joins.cell_of_block h.zx 4).trans ?_, Joins.unfrozen_of_block h.zx 4⟩
  obtain ⟨kind, nm, tb, cols, key, uniq, names, rows, items, src, ⟨o, ⟨k, n, t⟩, tb2, nm2, sl, kd, ag⟩, group, order, limit, sets⟩ := s
  rfl
theorem Bld.set_key {w : World} {B : Nat} {l : List Lx.Tk} {len p R X : Nat} {wc : World} {q : Nat} {s : Ps.St} {S : Sls} (h : Bld w B l len p R X wc q s S) {xs : List (List UInt8)} {V : Value} (hv : listIs strCod (X + 1) wc xs V) : Bld w B l len p R X (wc.setCell ⟨X, 4, none⟩ V) q { s with key := xs } { S with key := V } := by
  obtain ⟨p1, p2, p3, p4, p5, p6, p7, p8⟩ := cod_pos
  have h1 := h.br; have h2 := h.rx; have h3 := h.wr
  have hk := x_kept (w := wc) (X := X) (i := 4) V
  have ho := h.on.keep hk (Nat.le_refl _)
  have hv2 := hv.keep hk (Nat.le_refl _) p2
  refine ⟨h.rd.keep ((Below.refl _ _).setCell (p := ⟨X, 4, none⟩) (show B + 1 ≤ X by omega) V), h.st.setCell (p := ⟨X, 4, none⟩) (.inl (show w.heap.size ≤ X by omega)) V, heap_set_other h.zr (by omega) V, ?_, ?_, h.pq, h1, h2, h3⟩
  · refine (heap_set h.zx V).trans ?_
    obtain ⟨kind, nm, tb, cols, key, uniq, names, rows, items, src, ⟨o, ⟨k, n, t⟩, tb2, nm2, sl, kd, ag⟩, group, order, limit, sets⟩ := s
    rfl
  · exact ⟨ho.cols, hv2, ho.names, ho.rows, ho.items, ho.src, ho.group, ho.order, ho.sets, ho.wh⟩

theorem Bld.cell_names {w : World} {B : Nat} {l : List Lx.Tk} {len p R X : Nat} {wc : World} {q : Nat} {s : Ps.St} {S : Sls} (h : Bld w B l len p R X wc q s S) : wc.cell? ⟨X, 6, none⟩ = some S.names ∧ wc.frozen? ⟨X, 6, none⟩ = false := by
  refine ⟨(Joins.cell_of_block h.zx 6).trans ?_, Joins.unfrozen_of_block h.zx 6⟩
  obtain ⟨kind, nm, tb, cols, key, uniq, names, rows, items, src, ⟨o, ⟨k, n, t⟩, tb2, nm2, sl, kd, ag⟩, group, order, limit, sets⟩ := s
  rfl
theorem Bld.set_names {w : World} {B : Nat} {l : List Lx.Tk} {len p R X : Nat} {wc : World} {q : Nat} {s : Ps.St} {S : Sls} (h : Bld w B l len p R X wc q s S) {xs : List (List UInt8)} {V : Value} (hv : listIs strCod (X + 1) wc xs V) : Bld w B l len p R X (wc.setCell ⟨X, 6, none⟩ V) q { s with names := xs } { S with names := V } := by
  obtain ⟨p1, p2, p3, p4, p5, p6, p7, p8⟩ := cod_pos
  have h1 := h.br; have h2 := h.rx; have h3 := h.wr
  have hk := x_kept (w := wc) (X := X) (i := 6) V
  have ho := h.on.keep hk (Nat.le_refl _)
  have hv2 := hv.keep hk (Nat.le_refl _) p2
  refine ⟨h.rd.keep ((Below.refl _ _).setCell (p := ⟨X, 6, none⟩) (show B + 1 ≤ X by omega) V), h.st.setCell (p := ⟨X, 6, none⟩) (.inl (show w.heap.size ≤ X by omega)) V, heap_set_other h.zr (by omega) V, ?_, ?_, h.pq, h1, h2, h3⟩
  · refine (heap_set h.zx V).trans ?_
    obtain ⟨kind, nm, tb, cols, key, uniq, names, rows, items, src, ⟨o, ⟨k, n, t⟩, tb2, nm2, sl, kd, ag⟩, group, order, limit, sets⟩ := s
    rfl
  · exact ⟨ho.cols, ho.key, hv2, ho.rows, ho.items, ho.src, ho.group, ho.order, ho.sets, ho.wh⟩

theorem Bld.cell_rows {w : World} {B : Nat} {l : List Lx.Tk} {len p R X : Nat} {wc : World} {q : Nat} {s : Ps.St} {S : Sls} (h : Bld w B l len p R X wc q s S) : wc.cell? ⟨X, 7, none⟩ = some S.rows ∧ wc.frozen? ⟨X, 7, none⟩ = false := by
  refine ⟨(Joins.cell_of_block h.zx 7).trans ?_, Joins.unfrozen_of_block h.zx 7⟩
  obtain ⟨kind, nm, tb, cols, key, uniq, names, rows, items, src, ⟨o, ⟨k, n, t⟩, tb2, nm2, sl, kd, ag⟩, group, order, limit, sets⟩ := s
  rfl
theorem Bld.set_rows {w : World} {B : Nat} {l : List Lx.Tk} {len p R X : Nat} {wc : World} {q : Nat} {s : Ps.St} {S : Sls} (h : Bld w B l len p R X wc q s S) {xs : List (List Ps.Ex)} {V : Value} (hv : listIs rowCod (X + 1) wc xs V) : Bld w B l len p R X (wc.setCell ⟨X, 7, none⟩ V) q { s with rows := xs } { S with rows := V } := by
  obtain ⟨p1, p2, p3, p4, p5, p6, p7, p8⟩ := cod_pos
  have h1 := h.br; have h2 := h.rx; have h3 := h.wr
  have hk := x_kept (w := wc) (X := X) (i := 7) V
  have ho := h.on.keep hk (Nat.le_refl _)
  have hv2 := hv.keep hk (Nat.le_refl _) p3
  refine ⟨h.rd.keep ((Below.refl _ _).setCell (p := ⟨X, 7, none⟩) (show B + 1 ≤ X by omega) V), h.st.setCell (p := ⟨X, 7, none⟩) (.inl (show w.heap.size ≤ X by omega)) V, heap_set_other h.zr (by omega) V, ?_, ?_, h.pq, h1, h2, h3⟩
  · refine (heap_set h.zx V).trans ?_
    obtain ⟨kind, nm, tb, cols, key, uniq, names, rows, items, src, ⟨o, ⟨k, n, t⟩, tb2, nm2, sl, kd, ag⟩, group, order, limit, sets⟩ := s
    rfl
  · exact ⟨ho.cols, ho.key, ho.names, hv2, ho.items, ho.src, ho.group, ho.order, ho.sets, ho.wh⟩

theorem Bld.cell_items {w : World} {B : Nat} {l : List Lx.Tk} {len p R X : Nat} {wc : World} {q : Nat} {s : Ps.St} {S : Sls} (h : Bld w B l len p R X wc q s S) : wc.cell? ⟨X, 8, none⟩ = some S.items ∧ wc.frozen? ⟨X, 8, none⟩ = false := by
  refine ⟨(Joins.cell_of_block h.zx 8).trans ?_, Joins.unfrozen_of_block h.zx 8⟩
  obtain ⟨kind, nm, tb, cols, key, uniq, names, rows, items, src, ⟨o, ⟨k, n, t⟩, tb2, nm2, sl, kd, ag⟩, group, order, limit, sets⟩ := s
  rfl
theorem Bld.set_items {w : World} {B : Nat} {l : List Lx.Tk} {len p R X : Nat} {wc : World} {q : Nat} {s : Ps.St} {S : Sls} (h : Bld w B l len p R X wc q s S) {xs : List (Ps.Item)} {V : Value} (hv : listIs itemCod (X + 1) wc xs V) : Bld w B l len p R X (wc.setCell ⟨X, 8, none⟩ V) q { s with items := xs } { S with items := V } := by
  obtain ⟨p1, p2, p3, p4, p5, p6, p7, p8⟩ := cod_pos
  have h1 := h.br; have h2 := h.rx; have h3 := h.wr
  have hk := x_kept (w := wc) (X := X) (i := 8) V
  have ho := h.on.keep hk (Nat.le_refl _)
  have hv2 := hv.keep hk (Nat.le_refl _) p4
  refine ⟨h.rd.keep ((Below.refl _ _).setCell (p := ⟨X, 8, none⟩) (show B + 1 ≤ X by omega) V), h.st.setCell (p := ⟨X, 8, none⟩) (.inl (show w.heap.size ≤ X by omega)) V, heap_set_other h.zr (by omega) V, ?_, ?_, h.pq, h1, h2, h3⟩
  · refine (heap_set h.zx V).trans ?_
    obtain ⟨kind, nm, tb, cols, key, uniq, names, rows, items, src, ⟨o, ⟨k, n, t⟩, tb2, nm2, sl, kd, ag⟩, group, order, limit, sets⟩ := s
    rfl
  · exact ⟨ho.cols, ho.key, ho.names, ho.rows, hv2, ho.src, ho.group, ho.order, ho.sets, ho.wh⟩

theorem Bld.cell_src {w : World} {B : Nat} {l : List Lx.Tk} {len p R X : Nat} {wc : World} {q : Nat} {s : Ps.St} {S : Sls} (h : Bld w B l len p R X wc q s S) : wc.cell? ⟨X, 9, none⟩ = some S.src ∧ wc.frozen? ⟨X, 9, none⟩ = false := by
  refine ⟨(Joins.cell_of_block h.zx 9).trans ?_, Joins.unfrozen_of_block h.zx 9⟩
  obtain ⟨kind, nm, tb, cols, key, uniq, names, rows, items, src, ⟨o, ⟨k, n, t⟩, tb2, nm2, sl, kd, ag⟩, group, order, limit, sets⟩ := s
  rfl
theorem Bld.set_src {w : World} {B : Nat} {l : List Lx.Tk} {len p R X : Nat} {wc : World} {q : Nat} {s : Ps.St} {S : Sls} (h : Bld w B l len p R X wc q s S) {xs : List (Ps.Src)} {V : Value} (hv : listIs srcCod (X + 1) wc xs V) : Bld w B l len p R X (wc.setCell ⟨X, 9, none⟩ V) q { s with src := xs } { S with src := V } := by
  obtain ⟨p1, p2, p3, p4, p5, p6, p7, p8⟩ := cod_pos
  have h1 := h.br; have h2 := h.rx; have h3 := h.wr
  have hk := x_kept (w := wc) (X := X) (i := 9) V
  have ho := h.on.keep hk (Nat.le_refl _)
  have hv2 := hv.keep hk (Nat.le_refl _) p5
  refine ⟨h.rd.keep ((Below.refl _ _).setCell (p := ⟨X, 9, none⟩) (show B + 1 ≤ X by omega) V), h.st.setCell (p := ⟨X, 9, none⟩) (.inl (show w.heap.size ≤ X by omega)) V, heap_set_other h.zr (by omega) V, ?_, ?_, h.pq, h1, h2, h3⟩
  · refine (heap_set h.zx V).trans ?_
    obtain ⟨kind, nm, tb, cols, key, uniq, names, rows, items, src, ⟨o, ⟨k, n, t⟩, tb2, nm2, sl, kd, ag⟩, group, order, limit, sets⟩ := s
    rfl
  · exact ⟨ho.cols, ho.key, ho.names, ho.rows, ho.items, hv2, ho.group, ho.order, ho.sets, ho.wh⟩

theorem Bld.cell_group {w : World} {B : Nat} {l : List Lx.Tk} {len p R X : Nat} {wc : World} {q : Nat} {s : Ps.St} {S : Sls} (h : Bld w B l len p R X wc q s S) : wc.cell? ⟨X, 19, none⟩ = some S.group ∧ wc.frozen? ⟨X, 19, none⟩ = false := by
  refine ⟨(Joins.cell_of_block h.zx 19).trans ?_, Joins.unfrozen_of_block h.zx 19⟩
  obtain ⟨kind, nm, tb, cols, key, uniq, names, rows, items, src, ⟨o, ⟨k, n, t⟩, tb2, nm2, sl, kd, ag⟩, group, order, limit, sets⟩ := s
  rfl
theorem Bld.set_group {w : World} {B : Nat} {l : List Lx.Tk} {len p R X : Nat} {wc : World} {q : Nat} {s : Ps.St} {S : Sls} (h : Bld w B l len p R X wc q s S) {xs : List (Ps.Ex)} {V : Value} (hv : listIs exCod (X + 1) wc xs V) : Bld w B l len p R X (wc.setCell ⟨X, 19, none⟩ V) q { s with group := xs } { S with group := V } := by
  obtain ⟨p1, p2, p3, p4, p5, p6, p7, p8⟩ := cod_pos
  have h1 := h.br; have h2 := h.rx; have h3 := h.wr
  have hk := x_kept (w := wc) (X := X) (i := 19) V
  have ho := h.on.keep hk (Nat.le_refl _)
  have hv2 := hv.keep hk (Nat.le_refl _) p6
  refine ⟨h.rd.keep ((Below.refl _ _).setCell (p := ⟨X, 19, none⟩) (show B + 1 ≤ X by omega) V), h.st.setCell (p := ⟨X, 19, none⟩) (.inl (show w.heap.size ≤ X by omega)) V, heap_set_other h.zr (by omega) V, ?_, ?_, h.pq, h1, h2, h3⟩
  · refine (heap_set h.zx V).trans ?_
    obtain ⟨kind, nm, tb, cols, key, uniq, names, rows, items, src, ⟨o, ⟨k, n, t⟩, tb2, nm2, sl, kd, ag⟩, group, order, limit, sets⟩ := s
    rfl
  · exact ⟨ho.cols, ho.key, ho.names, ho.rows, ho.items, ho.src, hv2, ho.order, ho.sets, ho.wh⟩

theorem Bld.cell_order {w : World} {B : Nat} {l : List Lx.Tk} {len p R X : Nat} {wc : World} {q : Nat} {s : Ps.St} {S : Sls} (h : Bld w B l len p R X wc q s S) : wc.cell? ⟨X, 20, none⟩ = some S.order ∧ wc.frozen? ⟨X, 20, none⟩ = false := by
  refine ⟨(Joins.cell_of_block h.zx 20).trans ?_, Joins.unfrozen_of_block h.zx 20⟩
  obtain ⟨kind, nm, tb, cols, key, uniq, names, rows, items, src, ⟨o, ⟨k, n, t⟩, tb2, nm2, sl, kd, ag⟩, group, order, limit, sets⟩ := s
  rfl
theorem Bld.set_order {w : World} {B : Nat} {l : List Lx.Tk} {len p R X : Nat} {wc : World} {q : Nat} {s : Ps.St} {S : Sls} (h : Bld w B l len p R X wc q s S) {xs : List (Ps.Ord)} {V : Value} (hv : listIs ordCod (X + 1) wc xs V) : Bld w B l len p R X (wc.setCell ⟨X, 20, none⟩ V) q { s with order := xs } { S with order := V } := by
  obtain ⟨p1, p2, p3, p4, p5, p6, p7, p8⟩ := cod_pos
  have h1 := h.br; have h2 := h.rx; have h3 := h.wr
  have hk := x_kept (w := wc) (X := X) (i := 20) V
  have ho := h.on.keep hk (Nat.le_refl _)
  have hv2 := hv.keep hk (Nat.le_refl _) p7
  refine ⟨h.rd.keep ((Below.refl _ _).setCell (p := ⟨X, 20, none⟩) (show B + 1 ≤ X by omega) V), h.st.setCell (p := ⟨X, 20, none⟩) (.inl (show w.heap.size ≤ X by omega)) V, heap_set_other h.zr (by omega) V, ?_, ?_, h.pq, h1, h2, h3⟩
  · refine (heap_set h.zx V).trans ?_
    obtain ⟨kind, nm, tb, cols, key, uniq, names, rows, items, src, ⟨o, ⟨k, n, t⟩, tb2, nm2, sl, kd, ag⟩, group, order, limit, sets⟩ := s
    rfl
  · exact ⟨ho.cols, ho.key, ho.names, ho.rows, ho.items, ho.src, ho.group, hv2, ho.sets, ho.wh⟩

theorem Bld.cell_sets {w : World} {B : Nat} {l : List Lx.Tk} {len p R X : Nat} {wc : World} {q : Nat} {s : Ps.St} {S : Sls} (h : Bld w B l len p R X wc q s S) : wc.cell? ⟨X, 22, none⟩ = some S.sets ∧ wc.frozen? ⟨X, 22, none⟩ = false := by
  refine ⟨(Joins.cell_of_block h.zx 22).trans ?_, Joins.unfrozen_of_block h.zx 22⟩
  obtain ⟨kind, nm, tb, cols, key, uniq, names, rows, items, src, ⟨o, ⟨k, n, t⟩, tb2, nm2, sl, kd, ag⟩, group, order, limit, sets⟩ := s
  rfl
theorem Bld.set_sets {w : World} {B : Nat} {l : List Lx.Tk} {len p R X : Nat} {wc : World} {q : Nat} {s : Ps.St} {S : Sls} (h : Bld w B l len p R X wc q s S) {xs : List (Ps.Asg)} {V : Value} (hv : listIs asgCod (X + 1) wc xs V) : Bld w B l len p R X (wc.setCell ⟨X, 22, none⟩ V) q { s with sets := xs } { S with sets := V } := by
  obtain ⟨p1, p2, p3, p4, p5, p6, p7, p8⟩ := cod_pos
  have h1 := h.br; have h2 := h.rx; have h3 := h.wr
  have hk := x_kept (w := wc) (X := X) (i := 22) V
  have ho := h.on.keep hk (Nat.le_refl _)
  have hv2 := hv.keep hk (Nat.le_refl _) p8
  refine ⟨h.rd.keep ((Below.refl _ _).setCell (p := ⟨X, 22, none⟩) (show B + 1 ≤ X by omega) V), h.st.setCell (p := ⟨X, 22, none⟩) (.inl (show w.heap.size ≤ X by omega)) V, heap_set_other h.zr (by omega) V, ?_, ?_, h.pq, h1, h2, h3⟩
  · refine (heap_set h.zx V).trans ?_
    obtain ⟨kind, nm, tb, cols, key, uniq, names, rows, items, src, ⟨o, ⟨k, n, t⟩, tb2, nm2, sl, kd, ag⟩, group, order, limit, sets⟩ := s
    rfl
  · exact ⟨ho.cols, ho.key, ho.names, ho.rows, ho.items, ho.src, ho.group, ho.order, hv2, ho.wh⟩

theorem Bld.cell_nm {w : World} {B : Nat} {l : List Lx.Tk} {len p R X : Nat} {wc : World} {q : Nat} {s : Ps.St} {S : Sls} (h : Bld w B l len p R X wc q s S) : wc.cell? ⟨X, 1, none⟩ = some (.string ⟨s.nm.toArray⟩) ∧ wc.frozen? ⟨X, 1, none⟩ = false := by
  refine ⟨(Joins.cell_of_block h.zx 1).trans ?_, Joins.unfrozen_of_block h.zx 1⟩
  obtain ⟨kind, nm, tb, cols, key, uniq, names, rows, items, src, ⟨o, ⟨k, n, t⟩, tb2, nm2, sl, kd, ag⟩, group, order, limit, sets⟩ := s
  rfl
theorem Bld.set_nm {w : World} {B : Nat} {l : List Lx.Tk} {len p R X : Nat} {wc : World} {q : Nat} {s : Ps.St} {S : Sls} (h : Bld w B l len p R X wc q s S) (v : List UInt8) : Bld w B l len p R X (wc.setCell ⟨X, 1, none⟩ (.string ⟨v.toArray⟩)) q { s with nm := v } S := by
  have h1 := h.br; have h2 := h.rx; have h3 := h.wr
  have ho := h.on.keep (x_kept (w := wc) (X := X) (i := 1) (.string ⟨v.toArray⟩)) (Nat.le_refl _)
  refine ⟨h.rd.keep ((Below.refl _ _).setCell (p := ⟨X, 1, none⟩) (show B + 1 ≤ X by omega) _), h.st.setCell (p := ⟨X, 1, none⟩) (.inl (show w.heap.size ≤ X by omega)) _, heap_set_other h.zr (by omega) _, ?_, ⟨ho.cols, ho.key, ho.names, ho.rows, ho.items, ho.src, ho.group, ho.order, ho.sets, ho.wh⟩, h.pq, h1, h2, h3⟩
  refine (heap_set h.zx _).trans ?_
  obtain ⟨kind, nm, tb, cols, key, uniq, names, rows, items, src, ⟨o, ⟨k, n, t⟩, tb2, nm2, sl, kd, ag⟩, group, order, limit, sets⟩ := s
  rfl

theorem Bld.cell_tb {w : World} {B : Nat} {l : List Lx.Tk} {len p R X : Nat} {wc : World} {q : Nat} {s : Ps.St} {S : Sls} (h : Bld w B l len p R X wc q s S) : wc.cell? ⟨X, 2, none⟩ = some (.string ⟨s.tb.toArray⟩) ∧ wc.frozen? ⟨X, 2, none⟩ = false := by
  refine ⟨(Joins.cell_of_block h.zx 2).trans ?_, Joins.unfrozen_of_block h.zx 2⟩
  obtain ⟨kind, nm, tb, cols, key, uniq, names, rows, items, src, ⟨o, ⟨k, n, t⟩, tb2, nm2, sl, kd, ag⟩, group, order, limit, sets⟩ := s
  rfl
theorem Bld.set_tb {w : World} {B : Nat} {l : List Lx.Tk} {len p R X : Nat} {wc : World} {q : Nat} {s : Ps.St} {S : Sls} (h : Bld w B l len p R X wc q s S) (v : List UInt8) : Bld w B l len p R X (wc.setCell ⟨X, 2, none⟩ (.string ⟨v.toArray⟩)) q { s with tb := v } S := by
  have h1 := h.br; have h2 := h.rx; have h3 := h.wr
  have ho := h.on.keep (x_kept (w := wc) (X := X) (i := 2) (.string ⟨v.toArray⟩)) (Nat.le_refl _)
  refine ⟨h.rd.keep ((Below.refl _ _).setCell (p := ⟨X, 2, none⟩) (show B + 1 ≤ X by omega) _), h.st.setCell (p := ⟨X, 2, none⟩) (.inl (show w.heap.size ≤ X by omega)) _, heap_set_other h.zr (by omega) _, ?_, ⟨ho.cols, ho.key, ho.names, ho.rows, ho.items, ho.src, ho.group, ho.order, ho.sets, ho.wh⟩, h.pq, h1, h2, h3⟩
  refine (heap_set h.zx _).trans ?_
  obtain ⟨kind, nm, tb, cols, key, uniq, names, rows, items, src, ⟨o, ⟨k, n, t⟩, tb2, nm2, sl, kd, ag⟩, group, order, limit, sets⟩ := s
  rfl

theorem Bld.cell_limit {w : World} {B : Nat} {l : List Lx.Tk} {len p R X : Nat} {wc : World} {q : Nat} {s : Ps.St} {S : Sls} (h : Bld w B l len p R X wc q s S) : wc.cell? ⟨X, 21, none⟩ = some (.int .i64 s.limit) ∧ wc.frozen? ⟨X, 21, none⟩ = false := by
  refine ⟨(Joins.cell_of_block h.zx 21).trans ?_, Joins.unfrozen_of_block h.zx 21⟩
  obtain ⟨kind, nm, tb, cols, key, uniq, names, rows, items, src, ⟨o, ⟨k, n, t⟩, tb2, nm2, sl, kd, ag⟩, group, order, limit, sets⟩ := s
  rfl
theorem Bld.set_limit {w : World} {B : Nat} {l : List Lx.Tk} {len p R X : Nat} {wc : World} {q : Nat} {s : Ps.St} {S : Sls} (h : Bld w B l len p R X wc q s S) (v : Int) : Bld w B l len p R X (wc.setCell ⟨X, 21, none⟩ (.int .i64 v)) q { s with limit := v } S := by
  have h1 := h.br; have h2 := h.rx; have h3 := h.wr
  have ho := h.on.keep (x_kept (w := wc) (X := X) (i := 21) (.int .i64 v)) (Nat.le_refl _)
  refine ⟨h.rd.keep ((Below.refl _ _).setCell (p := ⟨X, 21, none⟩) (show B + 1 ≤ X by omega) _), h.st.setCell (p := ⟨X, 21, none⟩) (.inl (show w.heap.size ≤ X by omega)) _, heap_set_other h.zr (by omega) _, ?_, ⟨ho.cols, ho.key, ho.names, ho.rows, ho.items, ho.src, ho.group, ho.order, ho.sets, ho.wh⟩, h.pq, h1, h2, h3⟩
  refine (heap_set h.zx _).trans ?_
  obtain ⟨kind, nm, tb, cols, key, uniq, names, rows, items, src, ⟨o, ⟨k, n, t⟩, tb2, nm2, sl, kd, ag⟩, group, order, limit, sets⟩ := s
  rfl

theorem Bld.cell_wh {w : World} {B : Nat} {l : List Lx.Tk} {len p R X : Nat} {wc : World} {q : Nat} {s : Ps.St} {S : Sls} (h : Bld w B l len p R X wc q s S) : ∃ c0 c1 c2 c3 c4 c5 c6 c7 c8 : Value, wc.cell? ⟨X, 10, none⟩ = some c0 ∧ wc.cell? ⟨X, 11, none⟩ = some c1 ∧ wc.cell? ⟨X, 12, none⟩ = some c2 ∧ wc.cell? ⟨X, 13, none⟩ = some c3 ∧ wc.cell? ⟨X, 14, none⟩ = some c4 ∧ wc.cell? ⟨X, 15, none⟩ = some c5 ∧ wc.cell? ⟨X, 16, none⟩ = some c6 ∧ wc.cell? ⟨X, 17, none⟩ = some c7 ∧ wc.cell? ⟨X, 18, none⟩ = some c8 ∧ wc.frozen? ⟨X, 10, none⟩ = false ∧ wc.frozen? ⟨X, 11, none⟩ = false ∧ wc.frozen? ⟨X, 12, none⟩ = false ∧ wc.frozen? ⟨X, 13, none⟩ = false ∧ wc.frozen? ⟨X, 14, none⟩ = false ∧ wc.frozen? ⟨X, 15, none⟩ = false ∧ wc.frozen? ⟨X, 16, none⟩ = false ∧ wc.frozen? ⟨X, 17, none⟩ = false ∧ wc.frozen? ⟨X, 18, none⟩ = false := by
  obtain ⟨kind, nm, tb, cols, key, uniq, names, rows, items, src, ⟨o, ⟨k, n, t⟩, tb2, nm2, sl, kd, ag⟩, group, order, limit, sets⟩ := s
  exact ⟨_, _, _, _, _, _, _, _, _, Joins.cell_of_block h.zx 10, Joins.cell_of_block h.zx 11, Joins.cell_of_block h.zx 12, Joins.cell_of_block h.zx 13, Joins.cell_of_block h.zx 14, Joins.cell_of_block h.zx 15, Joins.cell_of_block h.zx 16, Joins.cell_of_block h.zx 17, Joins.cell_of_block h.zx 18, Joins.unfrozen_of_block h.zx 10, Joins.unfrozen_of_block h.zx 11, Joins.unfrozen_of_block h.zx 12, Joins.unfrozen_of_block h.zx 13, Joins.unfrozen_of_block h.zx 14, Joins.unfrozen_of_block h.zx 15, Joins.unfrozen_of_block h.zx 16, Joins.unfrozen_of_block h.zx 17, Joins.unfrozen_of_block h.zx 18⟩
theorem Bld.set_wh {w : World} {B : Nat} {l : List Lx.Tk} {len p R X : Nat} {wc : World} {q : Nat} {s : Ps.St} {S : Sls} (h : Bld w B l len p R X wc q s S) {x : Ps.Ex} {V : Value} (hx : ExAt (Fr (X + 1)) wc x V) {v0 v1 v2 v3 v4 v5 v6 v7 v8 : Value} (hv : exC x V = [v0, v1, v2, v3, v4, v5, v6, v7, v8]) : Bld w B l len p R X (put9_10 wc X v0 v1 v2 v3 v4 v5 v6 v7 v8) q { s with wh := x } { S with wh := V } := by
  have h1 := h.br; have h2 := h.rx; have h3 := h.wr
  have hk : Kept (Fr (X + 1)) wc (put9_10 wc X v0 v1 v2 v3 v4 v5 v6 v7 v8) := put9_10_kept wc (show ¬ X + 1 ≤ X by omega) _ _ _ _ _ _ _ _ _
  have ho := h.on.keep hk (Nat.le_refl _)
  have hx2 := ExAt.keep hk (fun _ h _ => h) _ _ hx
  refine ⟨h.rd.keep (put9_10_below _ (show B + 1 ≤ X by omega) _ _ _ _ _ _ _ _ _), put9_10_steps h.st (show w.heap.size ≤ X by omega) _ _ _ _ _ _ _ _ _, put9_10_other h.zr (by omega) _ _ _ _ _ _ _ _ _, ?_, ⟨ho.cols, ho.key, ho.names, ho.rows, ho.items, ho.src, ho.group, ho.order, ho.sets, hx2⟩, h.pq, h1, h2, h3⟩
  have hz := h.zx
  obtain ⟨kind, nm, tb, cols, key, uniq, names, rows, items, src, ⟨o, ⟨k, n, t⟩, tb2, nm2, sl, kd, ag⟩, group, order, limit, sets⟩ := s
  refine (put9_10_heap hz v0 v1 v2 v3 v4 v5 v6 v7 v8).trans ?_
  show some (Obj.cells _ _ _) = some (Obj.cells ([_, _, _, _, _, _, _, _, _, _] ++ (exC x V ++ _)).toArray _ _)
  rw [hv]
  rfl
end Go.Proofs.YtedamaccflhmfaaGreatDoor
