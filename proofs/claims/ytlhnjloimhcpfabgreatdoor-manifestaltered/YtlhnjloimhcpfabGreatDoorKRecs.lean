/-
  Lists of lists of bytes that a call owns: the list in a block of its own, each of its bytes in another, no two in one; a variable's box that holds such a list; one more list of bytes put behind it.
-/
import Derived.Test.YtlhnjloimhcpfabGreatDoorKMake
import Derived.RangeFuncBox
import Derived.Lib.OwnKind
namespace Go.Proofs.YtlhnjloimhcpfabGreatDoor
open Go.RowKit

theorem infoR : (Tryz.prog.info? 33).map (fun i => (i.zero, i.size, i.bytes)) = some (some (.slice none 0 0), 1, 24) := by kernel_rfl

structure Recs (base : Nat) (w : World) (v : Value) (rs : List (List UInt8)) (vs : List Value) : Prop where
  len : vs.length = rs.length
  row : w.ownsRow base 33 1 v rs.length vs
  own : ∀ k (h : k < vs.length) (h' : k < rs.length), w.ownsRow base 5 1 (vs[k]) (rs[k]).length (bc (rs[k]))
  two : ∀ i k (hi : i < vs.length) (hk : k < vs.length), i < k → (vs[i]).ownBlock ≠ none → (vs[i]).ownBlock ≠ (vs[k]).ownBlock

theorem Recs.nil (base : Nat) (w : World) : Recs base w (.slice none 0 0) [] [] := ⟨rfl, World.ownsRow_nil _ _ _ _, fun k h => by simp at h, fun i k hi => by simp at hi⟩

/-- Two lists of other kinds lie in other blocks. -/
theorem own_ne {w : World} {b b' s s' n n' : Nat} {e e' : TypeId} {v v' : Value} {xs xs' : List Value} (h : w.ownsRow b e s v n xs) (h' : w.ownsRow b' e' s' v' n' xs') (hne : e ≠ e') : v.ownBlock = none ∨ v.ownBlock ≠ v'.ownBlock := by
  cases hv : v.ownBlock with
  | none => exact .inl rfl
  | some g =>
    refine .inr fun e1 => ?_
    obtain ⟨c, fz, h1⟩ := Lib.ownsRow_kind h g hv
    obtain ⟨c', fz', h2⟩ := Lib.ownsRow_kind h' g e1.symm
    rw [h1] at h2
    simp only [Option.some.injEq, Obj.cells.injEq] at h2
    exact hne h2.2.1

theorem Recs.kept {base : Nat} {w w' : World} {v : Value} {rs : List (List UInt8)} {vs : List Value} {row : Option Nat} (h : Recs base w v rs vs) (hg : w.grownBy w' row) (hv : v.ownBlock = none ∨ v.ownBlock ≠ row) (hu : ∀ k (hk : k < vs.length), (vs[k]).ownBlock = none ∨ (vs[k]).ownBlock ≠ row) : Recs base w' v rs vs :=
  ⟨h.len, h.row.kept hg hv, fun k hk hk' => (h.own k hk hk').kept hg (hu k hk), h.two⟩
theorem Recs.later {base : Nat} {w w' : World} {v : Value} {rs : List (List UInt8)} {vs : List Value} (h : Recs base w v rs vs) (hb : Below w.heap.size w w') : Recs base w' v rs vs :=
  h.kept (row := none) ⟨hb.os, hb.tape, hb.output, hb.size, fun k hk _ => hb.block k hk⟩ (none_kept _) (fun _ _ => none_kept _)
theorem Recs.alloc {base : Nat} {w : World} {v : Value} {rs : List (List UInt8)} {vs : List Value} (h : Recs base w v rs vs) (o : Obj) : Recs base (w.alloc o) v rs vs := h.later ((Below.refl _ _).alloc (Nat.le_refl _) _)
theorem Recs.mono {base base' : Nat} {w : World} {v : Value} {rs : List (List UInt8)} {vs : List Value} (h : Recs base w v rs vs) (hb : base' ≤ base) : Recs base' w v rs vs :=
  ⟨h.len, by
    refine ⟨h.row.1, ?_⟩
    rcases h.row.2 with h' | ⟨g, cap, cur, e, h1, h2⟩
    · exact .inl h'
    · exact .inr ⟨g, cap, cur, e, Nat.le_trans hb h1, h2⟩, fun k hk hk' => own_base (h.own k hk hk') hb, h.two⟩
/-- A store into a variable's box leaves the list. -/
theorem Recs.box {base : Nat} {w : World} {v u : Value} {rs : List (List UInt8)} {vs : List Value} {B : Nat} (h : Recs base w v rs vs) (hB : Boxed w B 120 u) (u' : Value) : Recs base (w.setCell ⟨B, 0, none⟩ u') v rs vs :=
  h.kept (row := some B) (grownBy_setCell' w B u') (.inr (fun e => (hB.not_row (by decide) h.row) e.symm)) (fun k hk => .inr (fun e => (hB.not_row (by decide) (h.own k hk (by rw [← h.len]; exact hk))) e.symm))

theorem Recs.shape {base : Nat} {w : World} {v : Value} {rs : List (List UInt8)} {vs : List Value} (h : Recs base w v rs vs) : ∃ a c, v = .slice a rs.length c ∧ rs.length ≤ c ∧ (a = none → rs = []) := by
  rcases h.row.2 with ⟨rfl, h0⟩ | ⟨g, cap, cur, rfl, _, _, hnc, _⟩
  · exact ⟨_, _, by rw [h0], by omega, fun _ => List.eq_nil_of_length_eq_zero h0⟩
  · exact ⟨_, _, rfl, hnc, fun e => by cases e⟩

theorem slice_one (u : Value) (h : ∃ a n c, u = .slice a n c) : u.oneCell' = true := by obtain ⟨a, n, c, rfl⟩ := h; rfl

/-- One list of bytes put behind a list of them. -/
theorem wpList_append_rec (w : World) {ops : Array Oper} {rest : List Oper} {o : Oper} {a : Act} {Q : Exit → Act → World → Prop} (hg : o.guard = none) (s x : Operand)
    (hop : o.op = .call { callee := .builtin .append, args := #[s, x], argTypes := #[120, 120] })
    (base : Nat) (v : Value) (rs : List (List UInt8)) (vs : List Value) (hs : a.eval s = v) (hR : Recs base w v rs vs) (u : Value) (r : List UInt8) (hu : w.ownsRow base 5 1 u r.length (bc r))
    (hne : ∀ k (hk : k < vs.length), (vs[k]).ownBlock ≠ none → (vs[k]).ownBlock ≠ u.ownBlock) (B c : Nat) (hx : a.eval x = .slice (some ⟨B, 0, none⟩) 1 c) (hc : w.cell? ⟨B, 0, none⟩ = some u) (hroom : rs.length ≤ 1000000000) (hbase : base ≤ w.heap.size)
    (h : ∀ g cap w', Recs base w' (.slice (some ⟨g, 0, none⟩) (rs.length + 1) cap) (rs ++ [r]) (vs ++ [u]) → w.grownBy w' v.ownBlock → g < w'.heap.size → wpList Tryz.prog ops Q rest (a.put o.dst (.slice (some ⟨g, 0, none⟩) (rs.length + 1) cap)) w') :
    wpList Tryz.prog ops Q (o :: rest) a w := by
  obtain ⟨i0, hi, hz0, hz1, hz2⟩ := info_parts infoR
  have hform : ∃ a n c, u = .slice a n c := by
    rcases hu.2 with ⟨rfl, _⟩ | ⟨g, cap, cur, rfl, _⟩
    · exact ⟨_, _, _, rfl⟩
    · exact ⟨_, _, _, rfl⟩
  refine wpList_append_lies w hg s x 120 hop base 33 i0 (.slice none 0 0) 1 24 Tryz.underlying120 hi hz0 hz1 hz2 rfl (by decide) v rs.length vs hs hR.row ⟨B, 0, none⟩ 1 c [u] hx rfl ?_ ?_ (by decide) (by unfold maxLen; omega) (by omega) hbase _ rfl ?_
  · intro j y hj
    match j, hj with
    | 0, hj =>
      simp only [List.getElem?_cons_zero, Option.some.injEq] at hj
      subst hj
      exact hc
  · intro y hy
    simp only [List.mem_singleton] at hy
    subst hy
    exact slice_one _ hform
  · intro g cap w' h1 h2 h3 h4
    refine h g cap w' ⟨by simp [hR.len], by rw [List.length_append]; exact h1, ?_, ?_⟩ h2 h4
    · intro k hk hk'
      rcases Nat.lt_or_ge k vs.length with hlt | hge
      · have hlt' : k < rs.length := by rw [← hR.len]; exact hlt
        rw [List.getElem_append_left hlt, List.getElem_append_left hlt']
        exact (hR.own k hlt hlt').kept h2 (own_ne (hR.own k hlt hlt') hR.row (by decide))
      · have ek : k = vs.length := by simp at hk; omega
        have hge' : rs.length ≤ k := by rw [← hR.len]; exact hge
        rw [List.getElem_append_right hge, List.getElem_append_right hge']
        simp only [List.getElem_singleton]
        exact hu.kept h2 (own_ne hu hR.row (by decide))
    · intro i k hi hk hik
      have hil : i < vs.length := by simp at hk; omega
      rw [List.getElem_append_left hil]
      rcases Nat.lt_or_ge k vs.length with hlt | hge
      · rw [List.getElem_append_left hlt]
        exact hR.two i k hil hlt hik
      · rw [List.getElem_append_right hge]
        simp only [List.getElem_singleton]
        exact hne i hil

/-- The same, where the statement asks for it only if something else held. -/
theorem wpList_append_rec_if (w : World) {ops : Array Oper} {rest : List Oper} {o : Oper} {a : Act} {Q : Exit → Act → World → Prop} (hw : Region.wanted o (yielded ops a.tmps) = true) (s x : Operand)
    (hop : o.op = .call { callee := .builtin .append, args := #[s, x], argTypes := #[120, 120] })
    (base : Nat) (v : Value) (rs : List (List UInt8)) (vs : List Value) (hs : a.eval s = v) (hR : Recs base w v rs vs) (u : Value) (r : List UInt8) (hu : w.ownsRow base 5 1 u r.length (bc r))
    (hne : ∀ k (hk : k < vs.length), (vs[k]).ownBlock ≠ none → (vs[k]).ownBlock ≠ u.ownBlock) (B c : Nat) (hx : a.eval x = .slice (some ⟨B, 0, none⟩) 1 c) (hc : w.cell? ⟨B, 0, none⟩ = some u) (hroom : rs.length ≤ 1000000000) (hbase : base ≤ w.heap.size)
    (h : ∀ g cap w', Recs base w' (.slice (some ⟨g, 0, none⟩) (rs.length + 1) cap) (rs ++ [r]) (vs ++ [u]) → w.grownBy w' v.ownBlock → g < w'.heap.size → wpList Tryz.prog ops Q rest (a.put o.dst (.slice (some ⟨g, 0, none⟩) (rs.length + 1) cap)) w') :
    wpList Tryz.prog ops Q (o :: rest) a w := by
  obtain ⟨i0, hi, hz0, hz1, hz2⟩ := info_parts infoR
  have hform : ∃ a n c, u = .slice a n c := by
    rcases hu.2 with ⟨rfl, _⟩ | ⟨g, cap, cur, rfl, _⟩
    · exact ⟨_, _, _, rfl⟩
    · exact ⟨_, _, _, rfl⟩
  refine wpList_step fun K hK => ?_
  rw [if_pos hw]
  refine wp_append_lies w s x 120 hop base 33 i0 (.slice none 0 0) 1 24 Tryz.underlying120 hi hz0 hz1 hz2 rfl (by decide) v rs.length vs hs hR.row ⟨B, 0, none⟩ 1 c [u] hx rfl ?_ ?_ (by decide) (by unfold maxLen; omega) (by omega) hbase _ rfl ?_
  · intro j y hj
    match j, hj with
    | 0, hj =>
      simp only [List.getElem?_cons_zero, Option.some.injEq] at hj
      subst hj
      exact hc
  · intro y hy
    simp only [List.mem_singleton] at hy
    subst hy
    exact slice_one _ hform
  · intro g cap w' h1 h2 h3 h4
    refine hK _ _ (h g cap w' ⟨by simp [hR.len], by rw [List.length_append]; exact h1, ?_, ?_⟩ h2 h4)
    · intro k hk hk'
      rcases Nat.lt_or_ge k vs.length with hlt | hge
      · have hlt' : k < rs.length := by rw [← hR.len]; exact hlt
        rw [List.getElem_append_left hlt, List.getElem_append_left hlt']
        exact (hR.own k hlt hlt').kept h2 (own_ne (hR.own k hlt hlt') hR.row (by decide))
      · have ek : k = vs.length := by simp at hk; omega
        have hge' : rs.length ≤ k := by rw [← hR.len]; exact hge
        rw [List.getElem_append_right hge, List.getElem_append_right hge']
        simp only [List.getElem_singleton]
        exact hu.kept h2 (own_ne hu hR.row (by decide))
    · intro i k hi hk hik
      have hil : i < vs.length := by simp at hk; omega
      rw [List.getElem_append_left hil]
      rcases Nat.lt_or_ge k vs.length with hlt | hge
      · rw [List.getElem_append_left hlt]
        exact hR.two i k hil hlt hik
      · rw [List.getElem_append_right hge]
        simp only [List.getElem_singleton]
        exact hne i hil
end Go.Proofs.YtlhnjloimhcpfabGreatDoor
