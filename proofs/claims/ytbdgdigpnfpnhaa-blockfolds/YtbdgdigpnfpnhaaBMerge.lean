/-
  Lists of entries merged: what the program's call answers.
-/
import Derived.Test.YtbdgdigpnfpnhaaBFore
import Derived.Test.YtbdgdigpnfpnhaaBDel
import Derived.Test.YtbdgdigpnfpnhaaKE
import Derived.Test.YtbdgdigpnfpnhaaBChk
namespace Go.Proofs.Ytbdgdigpnfpnhaa
open Go.RowKit

theorem LLs.erase {w : World} {vs : List Value} {ls : List (List Mm.Ent)} (h : LLs w vs ls) (i : Nat) (hi : i < ls.length) : LLs w (vs.eraseIdx i) (ls.eraseIdx i) := by
  have hl := h.len
  refine ⟨by rw [List.length_eraseIdx, List.length_eraseIdx, if_pos (by omega), if_pos hi, hl], fun k h1 h2 => ?_⟩
  rw [List.length_eraseIdx, if_pos hi] at h1
  by_cases hk : k < i
  · obtain ⟨a, c, e, h3⟩ := h.at' k (by omega) (by omega)
    rw [List.getElem_eraseIdx_of_lt _ hk, List.getElem_eraseIdx_of_lt _ hk]
    exact ⟨a, c, e, h3⟩
  · obtain ⟨a, c, e, h3⟩ := h.at' (k + 1) (by omega) (by omega)
    rw [List.getElem_eraseIdx_of_ge _ (by omega), List.getElem_eraseIdx_of_ge _ (by omega)]
    exact ⟨a, c, e, h3⟩
theorem LLs.put {w : World} {vs : List Value} {ls : List (List Mm.Ent)} (h : LLs w vs ls) (i : Nat) (v : Value) (l : List Mm.Ent) (hv : ∃ a c, v = .slice a l.length c ∧ l.length ≤ c ∧ c ≤ 9223372036854775807 ∧ EntsAt w (.slice a l.length c) l) : LLs w (vs.set i v) (ls.set i l) := by
  have hl := h.len
  refine ⟨by simp [hl], fun k h1 h2 => ?_⟩
  rw [List.length_set] at h1 h2
  by_cases hk : i = k
  · subst hk
    rw [List.getElem_set_self, List.getElem_set_self]
    exact hv
  · rw [List.getElem_set_ne hk, List.getElem_set_ne hk]
    exact h.at' k h1 h2
theorem LLs.snoc {w : World} {vs : List Value} {ls : List (List Mm.Ent)} (h : LLs w vs ls) (v : Value) (l : List Mm.Ent) (hv : ∃ a c, v = .slice a l.length c ∧ l.length ≤ c ∧ c ≤ 9223372036854775807 ∧ EntsAt w (.slice a l.length c) l) : LLs w (vs ++ [v]) (ls ++ [l]) := by
  have hl := h.len
  refine ⟨by simp [hl], fun k h1 h2 => ?_⟩
  rw [List.length_append, List.length_singleton] at h1 h2
  by_cases hk : k < ls.length
  · rw [List.getElem_append_left (by omega), List.getElem_append_left hk]
    exact h.at' k hk (by omega)
  · obtain rfl : k = ls.length := by omega
    rw [List.getElem_append_right (by omega), List.getElem_append_right (by omega)]
    simp only [hl, Nat.sub_self, List.getElem_cons_zero]
    exact hv
theorem LLs.nil (w : World) : LLs w [] [] := ⟨rfl, fun k h _ => by simp at h⟩
theorem LLs.one {w : World} {vs : List Value} {ls : List (List Mm.Ent)} (h : LLs w vs ls) : ∀ u ∈ vs, u.oneCell' = true := fun u hu => by
  obtain ⟨k, hk, rfl⟩ := List.mem_iff_getElem.1 hu
  obtain ⟨a, c, e, _⟩ := h.at' k (by have := h.len; omega) hk
  rw [e]; rfl

/-- What is behind the first entry. -/
theorem ents_behind {w : World} {b off m c : Nat} {l : List Mm.Ent} (h : EntsAt w (.slice (some ⟨b, off, none⟩) (m + 1) c) l) (hl : l.length = m + 1) (A : Addr) (hA : (if c = 1 then some (⟨b, off, none⟩ : Addr) else some ⟨b, off + 4, none⟩) = some A) (hc : m + 1 ≤ c) : EntsAt w (.slice (some A) m (c - 1)) l.tail := by
  have ht : l.tail.length = m := by rw [List.length_tail]; omega
  refine ⟨⟨some A, c - 1, by rw [ht], fun h0 => ?_⟩⟩
  have hm : 0 < m := by
    have := List.length_pos_iff.2 h0
    omega
  rw [if_neg (by omega)] at hA
  obtain rfl := (Option.some.inj hA).symm
  refine ⟨b, off + 4, rfl, fun j hj => ?_⟩
  have := h.cells (j + 1) (by omega)
  have e1 : off + (j + 1) * 4 = off + 4 + j * 4 := by omega
  rw [e1] at this
  have e2 : l.tail[j] = l[j + 1] := by simp
  rw [e2]
  exact this

theorem entInfo : (Try.prog.info? 38).map (fun i => (i.zero, i.size, i.bytes)) = some (some (.agg #[.string ⟨#[]⟩, .string ⟨#[]⟩, .int .i64 0, .bool false]), 4, 48) := by kernel_rfl

/-- One entry put behind entries that the call owns, none of them, too. -/
theorem wpList_app_ent (w : World) {ops : Array Oper} {rest : List Oper} {o : Oper} {a : Act} {Q : Exit → Act → World → Prop} (hg : o.guard = none) (s x : Operand)
    (hop : o.op = .call { callee := .builtin .append, args := #[s, x], argTypes := #[23, 23] })
    (base : Nat) (v : Value) (O : List Mm.Ent) (e : Mm.Ent) (n : Nat) (hn : n = O.length) (hs : a.eval s = v) (hown : w.ownsRow base 38 4 v n (ecs O))
    (B : Nat) (hx : a.eval x = .slice (some ⟨B, 0, none⟩) 1 1) (hB : ∀ j u, (ec e)[j]? = some u → w.cell? ⟨B, j, none⟩ = some u) (hroom : n + 1 ≤ 1000000) (hbase : base ≤ w.heap.size)
    (h : ∀ g' cap' w', w'.ownsRow base 38 4 (.slice (some ⟨g', 0, none⟩) (n + 1) cap') (n + 1) (ecs (O ++ [e])) → w.grownBy w' v.ownBlock → (v.ownBlock = some g' ∨ g' = w.heap.size) → g' < w'.heap.size → wpList Try.prog ops Q rest (a.put o.dst (.slice (some ⟨g', 0, none⟩) (n + 1) cap')) w') :
    wpList Try.prog ops Q (o :: rest) a w := by
  obtain ⟨i0, hi, hz0, hz1, hz2⟩ := info_parts entInfo
  refine wpList_append_lies w hg s x 23 hop base 38 i0 _ 4 48 Try.underlying23 hi hz0 hz1 hz2 rfl (by decide) v n (ecs O) hs hown ⟨B, 0, none⟩ 1 1 (ec e) hx rfl (fun j u hu => ?_) (fun u hu => ecs_one [e] u (by simpa [ecs] using hu)) (by decide) (by unfold maxLen; omega) (by omega) hbase w.heap.size rfl ?_
  · have hadd : (⟨B, 0, none⟩ : Addr).add j = ⟨B, j, none⟩ := by unfold Addr.add; split <;> simp_all
    rw [hadd]
    exact hB j u hu
  · intro g' cap' w' h1 h2 h3 h4
    refine h g' cap' w' ?_ h2 h3 h4
    rw [ecs_append, show ecs [e] = ec e from by simp [ecs]]
    exact h1
/-- One list put behind lists that the call owns, none of them, too. -/
theorem wpList_app_list (w : World) {ops : Array Oper} {rest : List Oper} {o : Oper} {a : Act} {Q : Exit → Act → World → Prop} (hg : o.guard = none) (s x : Operand)
    (hop : o.op = .call { callee := .builtin .append, args := #[s, x], argTypes := #[51, 51] })
    (base : Nat) (v : Value) (vs : List Value) (u : Value) (n : Nat) (hu : u.oneCell' = true) (hs : a.eval s = v) (hown : w.ownsRow base 23 1 v n vs)
    (B : Nat) (hx : a.eval x = .slice (some ⟨B, 0, none⟩) 1 1) (hB : w.cell? ⟨B, 0, none⟩ = some u) (hroom : n + 1 ≤ 1000000) (hbase : base ≤ w.heap.size)
    (h : ∀ g' cap' w', w'.ownsRow base 23 1 (.slice (some ⟨g', 0, none⟩) (n + 1) cap') (n + 1) (vs ++ [u]) → w.grownBy w' v.ownBlock → wpList Try.prog ops Q rest (a.put o.dst (.slice (some ⟨g', 0, none⟩) (n + 1) cap')) w') :
    wpList Try.prog ops Q (o :: rest) a w := by
  obtain ⟨i0, hi, hz0, hz1, hz2⟩ := info_parts infoLE2
  refine wpList_append_lies w hg s x 51 hop base 23 i0 _ 1 24 Try.underlying51 hi hz0 hz1 hz2 rfl (by decide) v n vs hs hown ⟨B, 0, none⟩ 1 1 [u] hx rfl (fun j y hy => ?_) (fun y hy => by rw [List.mem_singleton.mp hy]; exact hu) (by decide) (by unfold maxLen; omega) (by omega) hbase w.heap.size rfl (fun g' cap' w' h1 h2 _ _ => h g' cap' w' h1 h2)
  cases j with
  | zero =>
    have hadd : (⟨B, 0, none⟩ : Addr).add 0 = ⟨B, 0, none⟩ := by unfold Addr.add; split <;> simp_all
    rw [hadd, hB]
    simpa using hy
  | succ j => simp at hy

/-- How it stands in the second loop. -/
structure Mg (w : World) (ls : List (List Mm.Ent)) (va vb : Option Addr) (m cp p cq : Nat) (us : List Value) (Lf : List (List Mm.Ent)) (O : List Mm.Ent) (wr : World) : Prop where
  left : wr.ownsRow w.heap.size 23 1 (.slice va m cp) m us
  out : wr.ownsRow w.heap.size 38 4 (.slice vb p cq) p (ecs O)
  ml : m = Lf.length
  pl : p = O.length
  lists : LLs w us Lf
  ne : ∀ x ∈ Lf, x ≠ []
  sum : O.length + Bk.total Lf = Bk.total ls
  same : Bk.mrg (Bk.total Lf) Lf O = Bk.mergeO ls
  short : ∀ x ∈ Lf, ∀ y ∈ x, y.key.length ≤ 1000000 ∧ y.value.length ≤ 1000000
  apart : ∀ g, (Value.slice va m cp).ownBlock = some g → (Value.slice vb p cq).ownBlock ≠ some g
  bel : Below w.heap.size w wr

theorem own_laterV {w w' : World} {base e size n : Nat} {v : Value} {xs : List Value} (h : w.ownsRow base e size v n xs) (hb : Below w.heap.size w w') : w'.ownsRow base e size v n xs :=
  h.kept (w' := w') (row := none) ⟨hb.os, hb.tape, hb.output, hb.size, fun k hk _ => hb.block k hk⟩ (none_kept _)
theorem set_erase (us : List Value) (i : Nat) (v : Value) : (us.set i v).eraseIdx i = us.eraseIdx i := by
  induction us generalizing i with
  | nil => simp
  | cons x us ih =>
    cases i with
    | zero => simp
    | succ i => simp [ih]

/-- One round. -/
theorem Mg.step {w : World} {ls : List (List Mm.Ent)} {g4 : Nat} {vb : Option Addr} {m cp p cq : Nat} {us : List Value} {Lf : List (List Mm.Ent)} {O : List Mm.Ent} {wr : World} (M : Mg w ls (some ⟨g4, 0, none⟩) vb m cp p cq us Lf O wr) (hl : Lf ≠ []) (hf : Bk.mayFollow O (Bk.hdAt Lf (Bk.fore Lf)) = true)
    {W3 w4 : World} {g' cap' : Nat} (b3 : Below wr.heap.size wr W3) (o4 : w4.ownsRow w.heap.size 38 4 (.slice (some ⟨g', 0, none⟩) (p + 1) cap') (p + 1) (ecs (O ++ [Bk.hdAt Lf (Bk.fore Lf)]))) (gr : W3.grownBy w4 (Value.slice vb p cq).ownBlock) (hat : (Value.slice vb p cq).ownBlock = some g' ∨ g' = W3.heap.size)
    (v' : Value) (hv : ∃ a c, v' = .slice a (Lf.getD (Bk.fore Lf) []).tail.length c ∧ (Lf.getD (Bk.fore Lf) []).tail.length ≤ c ∧ c ≤ 9223372036854775807 ∧ EntsAt w (.slice a (Lf.getD (Bk.fore Lf) []).tail.length c) (Lf.getD (Bk.fore Lf) []).tail) :
    w4.ownsRow w.heap.size 23 1 (.slice (some ⟨g4, 0, none⟩) m cp) m us ∧ Below w.heap.size w w4 ∧
    ((Lf.getD (Bk.fore Lf) []).tail ≠ [] → Mg w ls (some ⟨g4, 0, none⟩) (some ⟨g', 0, none⟩) m cp (p + 1) cap' (us.set (Bk.fore Lf) v') (Bk.cutAt Lf (Bk.fore Lf)) (O ++ [Bk.hdAt Lf (Bk.fore Lf)]) (w4.setCell ⟨g4, Bk.fore Lf, none⟩ v')) ∧
    (w4.setCell ⟨g4, Bk.fore Lf, none⟩ v').ownsRow w.heap.size 23 1 (.slice (some ⟨g4, 0, none⟩) m cp) m (us.set (Bk.fore Lf) v') ∧
    ((Lf.getD (Bk.fore Lf) []).tail = [] → ∀ w6, w6.ownsRow w.heap.size 23 1 (.slice (some ⟨g4, 0, none⟩) (m - 1) cp) (m - 1) ((us.set (Bk.fore Lf) v').eraseIdx (Bk.fore Lf)) → (w4.setCell ⟨g4, Bk.fore Lf, none⟩ v').grownBy w6 (some g4) → Mg w ls (some ⟨g4, 0, none⟩) (some ⟨g', 0, none⟩) (m - 1) cp (p + 1) cap' (us.eraseIdx (Bk.fore Lf)) (Bk.cutAt Lf (Bk.fore Lf)) (O ++ [Bk.hdAt Lf (Bk.fore Lf)]) w6) := by
  have hi := Bk.fore_lt Lf hl
  have hni := M.ne _ (List.getElem_mem hi)
  have htc := Bk.total_cut Lf (Bk.fore Lf) hi hni
  have hstep := Bk.mrg_step Lf O hl M.ne hf
  clear hf
  generalize Bk.fore Lf = i at *
  have hb4 := (M.left.lt g4 rfl)
  have hne4 : g' ≠ g4 := by
    rcases hat with h | h
    · intro e
      exact M.apart g4 rfl (by rw [← e]; exact h)
    · have := b3.size; omega
  have l3 := own_laterV M.left b3
  have l4 : w4.ownsRow w.heap.size 23 1 (.slice (some ⟨g4, 0, none⟩) m cp) m us := l3.kept gr (.inr (fun e => M.apart g4 rfl e.symm))
  have B3 : Below w.heap.size w W3 := M.bel.trans (b3.mono M.bel.size)
  have B4 : Below w.heap.size w w4 := B3.grown gr B3.size (fun k e => (M.out.lt k e).1)
  obtain ⟨l5, g5⟩ := l4.stored i v'
  have B5 : Below w.heap.size w (w4.setCell ⟨g4, i, none⟩ v') := B4.grown g5 B4.size (fun k e => by have := Option.some.inj e; omega)
  have o5 := o4.kept g5 (.inr (fun e => hne4 (Option.some.inj e)))
  have hlen : (O ++ [Bk.hdAt Lf i]).length = p + 1 := by rw [List.length_append, ← M.pl]; rfl
  have hsum : (O ++ [Bk.hdAt Lf i]).length + Bk.total (Bk.cutAt Lf i) = Bk.total ls := by have := M.sum; have := M.pl; omega
  have hcn := Bk.cut_ne Lf i M.ne
  have hsh : ∀ x ∈ Bk.cutAt Lf i, ∀ y ∈ x, y.key.length ≤ 1000000 ∧ y.value.length ≤ 1000000 := by
    intro x hx y hy
    unfold Bk.cutAt at hx
    split at hx
    · exact M.short x (List.mem_of_mem_eraseIdx hx) y hy
    · rcases List.mem_or_eq_of_mem_set hx with h | h
      · exact M.short x h y hy
      · subst h
        rw [Bk.getD_at Lf i hi] at hy
        exact M.short _ (List.getElem_mem hi) y (List.mem_of_mem_tail hy)
  refine ⟨l4, B4, fun ht => ?_, l5, fun ht w6 r6 g6 => ?_⟩
  · have hc : Bk.cutAt Lf i = Lf.set i (Lf.getD i []).tail := by unfold Bk.cutAt; rw [if_neg ht]
    refine ⟨l5, o5, by rw [hc, List.length_set]; exact M.ml, hlen.symm, by rw [hc]; exact M.lists.put i v' _ hv, hcn, hsum, by rw [← hstep]; exact M.same, hsh, fun g hg e => ?_, B5⟩
    have h1 : g4 = g := Option.some.inj hg
    have h2 : g' = g := Option.some.inj e
    omega
  · have hc : Bk.cutAt Lf i = Lf.eraseIdx i := by unfold Bk.cutAt; rw [if_pos ht]
    rw [set_erase] at r6
    refine ⟨r6, o5.kept g6 (.inr (fun e => hne4 (Option.some.inj e))), by rw [hc, List.length_eraseIdx, if_pos hi, ← M.ml], hlen.symm, by rw [hc]; exact M.lists.erase i hi, hcn, hsum, by rw [← hstep]; exact M.same, hsh, fun g hg e => ?_, B5.grown g6 B5.size (fun k e => by have := Option.some.inj e; omega)⟩
    have h1 : g4 = g := Option.some.inj hg
    have h2 : g' = g := Option.some.inj e
    omega
end Go.Proofs.Ytbdgdigpnfpnhaa
