/-
  How the document's merge stands in its second loop; and one round of it.
-/
import Derived.Test.YtbdgdigpnfpnhaaBMg8P
import Derived.Test.YtbdgdigpnfpnhaaKK
import Derived.Test.YtbdgdigpnfpnhaaKR
namespace Go.Proofs.Ytbdgdigpnfpnhaa.Q
open Go.RowKit

def nats (l : List Nat) : List Value := l.map fun (k : Nat) => Value.int .i64 (k : Int)
theorem nats_len (l : List Nat) : (nats l).length = l.length := by simp [nats]
theorem nats_get (l : List Nat) (i : Nat) (h : i < l.length) : (nats l)[i]? = some (.int .i64 ((l.getD i 0 : Nat) : Int)) := by simp [nats, List.getD, h]
theorem nats_set (l : List Nat) (i k : Nat) : (nats l).set i (.int .i64 (k : Int)) = nats (l.set i k) := by simp [nats, List.map_set]
theorem nats_zero (n : Nat) : (madeCells #[.int .i64 0] n).toList = nats (List.replicate n 0) := by
  rw [toList_madeCells_one]
  simp [nats]

theorem infoI8 : (Try.prog.info? 3).map (fun i => (i.zero, i.size, i.bytes)) = some (some (.int .i64 0), 1, 8) := by kernel_rfl
theorem make_ints (n : Nat) (hn : n ≤ 1000000) (u : World) : (Instr.makeSlice 22 (.int .i64 (n : Int)) (.int .i64 (n : Int))).run Try.prog u = .ok (.slice (some ⟨u.heap.size, 0, none⟩) n n) (u.alloc (.cells (madeCells #[.int .i64 0] n) 3)) := by
  obtain ⟨i0, hi, hz0, hz1, hz2⟩ := info_parts infoI8
  have h := run_make (P := Try.prog) u 22 3 i0 (.int .i64 0) Try.underlying22 hi hz0 .i64 .i64 (n : Int) (n : Int) (by omega) (Int.le_refl _) (by rw [hz2]; omega) (by omega)
  rw [hz1, Int.toNat_natCast, Nat.mul_one] at h
  exact h

structure Rm (w : World) (ls : List (List Mm.Ent)) (g n : Nat) (vb : Option Addr) (p cq : Nat) (at' : List Nat) (R : List (List Mm.Ent)) (O : List Mm.Ent) (wr : World) : Prop where
  ats : wr.ownsRow w.heap.size 3 1 (.slice (some ⟨g, 0, none⟩) n n) n (nats at')
  out : wr.ownsRow w.heap.size 38 4 (.slice vb p cq) p (ecs O)
  ll : ls.length = n
  al : at'.length = n
  rl : R.length = n
  pl : p = O.length
  left : ∀ i, i < n → R.getD i [] = (ls.getD i []).drop (at'.getD i 0) ∧ at'.getD i 0 ≤ (ls.getD i []).length
  sum : O.length + Bk.total (Bk.lefts R) = Bk.total ls
  same : Bk.mrg (Bk.total (Bk.lefts R)) (Bk.lefts R) O = Bk.mergeO ls
  ord : ∀ x ∈ R, Bk.inOrd x = true
  beh : Bk.Behind R O
  apart : (Value.slice vb p cq).ownBlock ≠ some g
  bel : Below w.heap.size w wr

/-- Where the first entry that is left of a list lies. -/
theorem Rm.there {w : World} {ls : List (List Mm.Ent)} {g n : Nat} {vb : Option Addr} {p cq : Nat} {at' : List Nat} {R : List (List Mm.Ent)} {O : List Mm.Ent} {wr : World} (M : Rm w ls g n vb p cq at' R O wr) {vs : List Value} (hL : LLs w vs ls) (i : Nat) (hi : i < n) (hne : R.getD i [] ≠ []) (hv : i < vs.length) :
    ∃ b off m c, vs[i] = .slice (some ⟨b, off, none⟩) m c ∧ at'.getD i 0 < m ∧ m = (ls.getD i []).length ∧ ∀ wx, Below w.heap.size w wx →
      (wx.cell? ⟨b, off + at'.getD i 0 * 4, none⟩ = some (str (Bk.hdAt R i).key) ∧ wx.cell? ⟨b, off + at'.getD i 0 * 4 + 1, none⟩ = some (str (Bk.hdAt R i).value) ∧ wx.cell? ⟨b, off + at'.getD i 0 * 4 + 2, none⟩ = some (.int .i64 (Bk.hdAt R i).seq) ∧ wx.cell? ⟨b, off + at'.getD i 0 * 4 + 3, none⟩ = some (.bool (Bk.hdAt R i).del)) := by
  have hl : i < ls.length := by rw [M.ll]; exact hi
  obtain ⟨a, c, e, h3, h4, h5⟩ := hL.at' i hl hv
  obtain ⟨h6, h7⟩ := M.left i hi
  rw [Bk.getD_at ls i hl] at h6 h7 ⊢
  have hk : at'.getD i 0 < ls[i].length := by
    rcases Nat.lt_or_ge (at'.getD i 0) ls[i].length with h | h
    · exact h
    · rw [List.drop_of_length_le h] at h6
      exact absurd h6 hne
  obtain ⟨b, off, rfl⟩ := h5.some (by omega)
  refine ⟨b, off, ls[i].length, c, e, hk, rfl, fun wx hb => ?_⟩
  have hh : Bk.hdAt R i = ls[i][at'.getD i 0] := by
    unfold Bk.hdAt
    rw [h6, List.drop_eq_getElem_cons hk]
    rfl
  rw [hh]
  exact (h5.later hb).cells _ hk
/-- Nothing is left of it. -/
theorem Rm.used {w : World} {ls : List (List Mm.Ent)} {g n : Nat} {vb : Option Addr} {p cq : Nat} {at' : List Nat} {R : List (List Mm.Ent)} {O : List Mm.Ent} {wr : World} (M : Rm w ls g n vb p cq at' R O wr) {vs : List Value} (hL : LLs w vs ls) (i : Nat) (hi : i < n) (he : R.getD i [] = []) (hv : i < vs.length) :
    ∃ a m c, vs[i] = .slice a m c ∧ at'.getD i 0 = m := by
  have hl : i < ls.length := by rw [M.ll]; exact hi
  obtain ⟨a, c, e, h3, h4, h5⟩ := hL.at' i hl hv
  obtain ⟨h6, h7⟩ := M.left i hi
  rw [Bk.getD_at ls i hl] at h6 h7
  refine ⟨a, _, c, e, ?_⟩
  rw [he] at h6
  have := List.drop_eq_nil_iff.1 h6.symm
  omega
theorem Rm.atcell {w : World} {ls : List (List Mm.Ent)} {g n : Nat} {vb : Option Addr} {p cq : Nat} {at' : List Nat} {R : List (List Mm.Ent)} {O : List Mm.Ent} {wr : World} (M : Rm w ls g n vb p cq at' R O wr) (i : Nat) (hi : i < n) (wx : World) (hb : Below wr.heap.size wr wx) : wx.cell? ⟨g, i, none⟩ = some (.int .i64 ((at'.getD i 0 : Nat) : Int)) := by
  rw [(own_laterV M.ats hb).cellAt i (by omega), nats_get _ _ (by rw [M.al]; exact hi)]
theorem getD_set_same (l : List Nat) (i k : Nat) (h : i < l.length) : (l.set i k).getD i 0 = k := by simp [List.getD, h]
theorem getD_set_other (l : List Nat) (i j k : Nat) (h : i ≠ j) : (l.set i k).getD j 0 = l.getD j 0 := by simp [List.getD, h]

/-- One round. -/
theorem Rm.step {w : World} {ls : List (List Mm.Ent)} {g n : Nat} {vb : Option Addr} {p cq : Nat} {at' : List Nat} {R : List (List Mm.Ent)} {O : List Mm.Ent} {wr : World} (M : Rm w ls g n vb p cq at' R O wr) (b : Nat) (hb : Bk.rbN R n = some b) (hf : Bk.mayFollow O (Bk.hdAt R b) = true)
    {W3 w4 : World} {g' cap' : Nat} (b3 : Below wr.heap.size wr W3) (o4 : w4.ownsRow w.heap.size 38 4 (.slice (some ⟨g', 0, none⟩) (p + 1) cap') (p + 1) (ecs (O ++ [Bk.hdAt R b]))) (gr : W3.grownBy w4 (Value.slice vb p cq).ownBlock) (hat : (Value.slice vb p cq).ownBlock = some g' ∨ g' = W3.heap.size) :
    w4.ownsRow w.heap.size 3 1 (.slice (some ⟨g, 0, none⟩) n n) n (nats at') ∧
    Rm w ls g n (some ⟨g', 0, none⟩) (p + 1) cap' (at'.set b (at'.getD b 0 + 1)) (R.set b (R.getD b []).tail) (O ++ [Bk.hdAt R b]) (w4.setCell ⟨g, b, none⟩ (.int .i64 ((at'.getD b 0 + 1 : Nat) : Int))) := by
  have hR : R.take n = R := List.take_of_length_le (by rw [M.rl]; exact Nat.le_refl _)
  obtain ⟨bb, h1, h2, h3, h4, h5, h6⟩ : ∃ b', Bk.rbN R n = some b' ∧ b' < n ∧ R.getD b' [] ≠ [] ∧ Bk.lefts R ≠ [] ∧ Bk.hdAt R b' = Bk.hdAt (Bk.lefts R) (Bk.fore (Bk.lefts R)) ∧ Bk.fore (Bk.lefts R) = (Bk.lefts (R.take b')).length := by
    rcases Bk.rb_fore R n (by rw [M.rl]; exact Nat.le_refl _) with ⟨h, _⟩ | h
    · rw [hb] at h; cases h
    · rw [hR] at h; exact h
  rw [hb] at h1
  obtain rfl : b = bb := Option.some.inj h1
  have hbR : b < R.length := by rw [M.rl]; exact h2
  have hgR := Bk.getD_at R b hbR
  rw [hgR] at h3 ⊢
  have hcut : Bk.lefts (R.set b R[b].tail) = Bk.cutAt (Bk.lefts R) (Bk.fore (Bk.lefts R)) := by rw [Bk.rb_cut R b hbR h3, h6]
  have hstep := Bk.mrg_step (Bk.lefts R) O h4 (Bk.lefts_ne R) (by rw [← h5]; exact hf)
  have htc := Bk.total_cut (Bk.lefts R) _ (Bk.fore_lt _ h4) (Bk.lefts_ne R _ (List.getElem_mem (Bk.fore_lt _ h4)))
  have hcons := Bk.hdAt_cons R b hbR h3
  have hb4 := (M.ats.lt g rfl)
  have hne4 : g' ≠ g := by
    rcases hat with h | h
    · intro e
      exact M.apart (by rw [← e]; exact h)
    · have := b3.size; omega
  have l3 := own_laterV M.ats b3
  have l4 : w4.ownsRow w.heap.size 3 1 (.slice (some ⟨g, 0, none⟩) n n) n (nats at') := l3.kept gr (.inr (fun e => M.apart e.symm))
  have B3 : Below w.heap.size w W3 := M.bel.trans (b3.mono M.bel.size)
  have B4 : Below w.heap.size w w4 := B3.grown gr B3.size (fun k e => (M.out.lt k e).1)
  obtain ⟨l5, g5⟩ := l4.stored b (.int .i64 ((at'.getD b 0 + 1 : Nat) : Int))
  rw [nats_set] at l5
  have B5 : Below w.heap.size w (w4.setCell ⟨g, b, none⟩ (.int .i64 ((at'.getD b 0 + 1 : Nat) : Int))) := B4.grown g5 B4.size (fun k e => by have := Option.some.inj e; omega)
  have o5 := o4.kept g5 (.inr (fun e => hne4 (Option.some.inj e)))
  refine ⟨l4, l5, o5, M.ll, by rw [List.length_set]; exact M.al, by rw [List.length_set]; exact M.rl, by rw [List.length_append, ← M.pl]; rfl, fun i hi => ?_, ?_, ?_, ?_, ?_, ?_, B5⟩
  · obtain ⟨h7, h8⟩ := M.left i hi
    by_cases e : b = i
    · subst e
      rw [getD_set_same _ _ _ (by rw [M.al]; exact hi), Bk.getD_at _ b (by rw [List.length_set]; exact hbR), List.getElem_set_self]
      rw [hgR] at h7
      have hlt : at'.getD b 0 < (ls.getD b []).length := by
        rcases Nat.lt_or_ge (at'.getD b 0) (ls.getD b []).length with h | h
        · exact h
        · rw [List.drop_of_length_le h] at h7
          exact absurd h7 h3
      refine ⟨?_, by omega⟩
      rw [h7, List.tail_drop]
    · rw [getD_set_other _ _ _ _ e]
      have : (R.set b R[b].tail).getD i [] = R.getD i [] := by simp [List.getD, e]
      rw [this]
      exact ⟨h7, h8⟩
  · rw [hcut, List.length_append]
    have := M.sum
    have e1 : [Bk.hdAt R b].length = 1 := rfl
    omega
  · rw [hcut, h5, ← hstep]
    exact M.same
  · intro x hx
    rcases List.mem_or_eq_of_mem_set hx with h | h
    · exact M.ord x h
    · have h9 := M.ord _ (List.getElem_mem hbR)
      rw [hcons] at h9
      rw [h]
      exact Bk.inOrd_tail h9
  · exact Bk.behind_step hbR hcons h5 (M.ord _ (List.getElem_mem hbR)) O
  · intro e
    exact hne4 (Option.some.inj e)
/-- What follows of the choice. -/
theorem Rm.chosen {w : World} {ls : List (List Mm.Ent)} {g n : Nat} {vb : Option Addr} {p cq : Nat} {at' : List Nat} {R : List (List Mm.Ent)} {O : List Mm.Ent} {wr : World} (M : Rm w ls g n vb p cq at' R O wr) (b : Nat) (hb : Bk.rbN R n = some b) :
    b < n ∧ R.getD b [] ≠ [] ∧ p + 1 ≤ Bk.total ls ∧ (Bk.mayFollow O (Bk.hdAt R b) = false → Bk.mergeO ls = none) ∧ (∀ o y, O = o ++ [y] → Bk.mayFollow O (Bk.hdAt R b) = !(decide (y.key = (Bk.hdAt R b).key) && decide (y.seq = (Bk.hdAt R b).seq))) := by
  have hR : R.take n = R := List.take_of_length_le (by rw [M.rl]; exact Nat.le_refl _)
  obtain ⟨bb, h1, h2, h3, h4, h5, h6⟩ : ∃ b', Bk.rbN R n = some b' ∧ b' < n ∧ R.getD b' [] ≠ [] ∧ Bk.lefts R ≠ [] ∧ Bk.hdAt R b' = Bk.hdAt (Bk.lefts R) (Bk.fore (Bk.lefts R)) ∧ Bk.fore (Bk.lefts R) = (Bk.lefts (R.take b')).length := by
    rcases Bk.rb_fore R n (by rw [M.rl]; exact Nat.le_refl _) with ⟨h, _⟩ | h
    · rw [hb] at h; cases h
    · rw [hR] at h; exact h
  rw [hb] at h1
  obtain rfl : b = bb := Option.some.inj h1
  have hbR : b < R.length := by rw [M.rl]; exact h2
  have hgR := Bk.getD_at R b hbR
  have htc := Bk.total_cut (Bk.lefts R) _ (Bk.fore_lt _ h4) (Bk.lefts_ne R _ (List.getElem_mem (Bk.fore_lt _ h4)))
  refine ⟨h2, h3, ?_, fun hf => ?_, fun o y ho => ?_⟩
  · have := M.sum
    have := M.pl
    omega
  · rw [← M.same]
    exact Bk.mrg_stop (Bk.lefts R) O h4 (Bk.lefts_ne R) (by rw [← h5]; exact hf)
  · subst ho
    rw [hgR] at h3
    exact Bk.follow_there M.beh (List.getElem_mem hbR) (Bk.hdAt_cons R b hbR h3)
/-- Nothing is left. -/
theorem Rm.done {w : World} {ls : List (List Mm.Ent)} {g n : Nat} {vb : Option Addr} {p cq : Nat} {at' : List Nat} {R : List (List Mm.Ent)} {O : List Mm.Ent} {wr : World} (M : Rm w ls g n vb p cq at' R O wr) (hb : Bk.rbN R n = none) : Bk.mergeO ls = some O := by
  have hR : R.take n = R := List.take_of_length_le (by rw [M.rl]; exact Nat.le_refl _)
  have h0 : Bk.lefts R = [] := by
    rcases Bk.rb_fore R n (by rw [M.rl]; exact Nat.le_refl _) with ⟨_, h⟩ | ⟨b, h, _⟩
    · rw [hR] at h; exact h
    · rw [hb] at h; cases h
  rw [← M.same, h0]
  exact Bk.mrg_nil O
end Go.Proofs.Ytbdgdigpnfpnhaa.Q
