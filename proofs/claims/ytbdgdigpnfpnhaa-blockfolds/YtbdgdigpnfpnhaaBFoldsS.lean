/-
  What the walk of BlockFolds holds: the lists that were lent; where what comes out comes from.
-/
import Derived.Test.YtbdgdigpnfpnhaaBMg8W
import Derived.Test.YtbdgdigpnfpnhaaKM
import Derived.Test.YtbdgdigpnfpnhaaBRef8
import Derived.Test.YtbdgdigpnfpnhaaKL
import Derived.Test.YtbdgdigpnfpnhaaBMgF
import Derived.Test.YtbdgdigpnfpnhaaBAsk
import Derived.Test.YtbdgdigpnfpnhaaBAsks
namespace Go.Proofs.Ytbdgdigpnfpnhaa.Q
open Go.ChangeShapes Go.WideShapes Go.ChangeAt Go.RowKit

namespace Bk
theorem cut_mem (l : List (List Mm.Ent)) (i : Nat) (hi : i < l.length) : ∀ x ∈ cutAt l i, ∃ y ∈ l, ∀ e ∈ x, e ∈ y := by
  intro x hx
  unfold cutAt at hx
  split at hx
  · exact ⟨x, List.mem_of_mem_eraseIdx hx, fun e he => he⟩
  · rcases List.mem_or_eq_of_mem_set hx with h | h
    · exact ⟨x, h, fun e he => he⟩
    · subst h
      rw [getD_at l i hi]
      exact ⟨l[i], List.getElem_mem hi, fun e he => List.mem_of_mem_tail he⟩
/-- What comes out comes from the lists. -/
theorem mrg_mem (f : Nat) : ∀ (l : List (List Mm.Ent)) (out a : List Mm.Ent), (∀ x ∈ l, x ≠ []) → mrg f l out = some a → ∀ e ∈ a, e ∈ out ∨ ∃ x ∈ l, e ∈ x := by
  induction f with
  | zero =>
    intro l out a _ h e he
    simp only [mrg, Option.some.injEq] at h
    subst h
    exact .inl he
  | succ f ih =>
    intro l out a hne h e he
    rw [mrg] at h
    split at h
    · simp only [Option.some.injEq] at h
      subst h
      exact .inl he
    · rename_i hl
      split at h
      · have hi := fore_lt l hl
        rcases ih _ _ _ (cut_ne l (fore l) hne) h e he with h1 | ⟨x, hx, hex⟩
        · rcases List.mem_append.1 h1 with h2 | h2
          · exact .inl h2
          · right
            refine ⟨l[fore l], List.getElem_mem hi, ?_⟩
            rw [List.mem_singleton.1 h2, hdAt_cons l (fore l) hi (hne _ (List.getElem_mem hi))]
            simp
        · obtain ⟨y, hy, h3⟩ := cut_mem l (fore l) hi x hx
          exact .inr ⟨y, hy, h3 e hex⟩
      · cases h
theorem merge_mem (ls : List (List Mm.Ent)) : ∀ e ∈ mergeL ls, ∃ x ∈ ls, e ∈ x := by
  intro e he
  unfold mergeL at he
  split at he
  · cases hm : mergeO ls with
    | none => rw [hm] at he; cases he
    | some a =>
      rw [hm] at he
      rcases mrg_mem _ _ _ _ (lefts_ne ls) hm e he with h | ⟨x, hx, h⟩
      · cases h
      · exact ⟨x, (List.mem_filter.1 hx).1, h⟩
  · cases he
theorem merge_len (ls : List (List Mm.Ent)) : (mergeL ls).length ≤ total ls := by
  by_cases h : mergeE ls = 0
  · rw [(merge_all ls h).1]; exact Nat.le_refl _
  · rw [(merge_bad ls h).1]; exact Nat.zero_le _
theorem merge_ord (ls : List (List Mm.Ent)) : inOrd (mergeL ls) = true := by
  by_cases h : mergeE ls = 0
  · exact (merge_all ls h).2.1
  · rw [(merge_bad ls h).1]; rfl
theorem rest_mem : ∀ (l : List Mm.Ent), ∀ e ∈ restR l, e ∈ l
  | [], e, h => h
  | x :: r, e, h => by
    rw [restR] at h
    split at h
    · rcases List.mem_append.1 h with h1 | h1
      · exact List.mem_cons_of_mem _ (rest_mem r e h1)
      · rw [List.mem_singleton.1 h1]; simp
    · exact List.mem_cons_of_mem _ (rest_mem r e h)
end Bk
theorem foldF_mem (l : List Mm.Ent) (keep : List Int) (last : Bool) : ∀ e ∈ foldF l keep last, e ∈ l := by
  intro e he
  unfold foldF at he
  split at he
  · exact (List.mem_filter.1 (Bk.rest_mem _ e (List.mem_reverse.1 he))).1
  · exact (List.mem_filter.1 he).1
theorem foldF_len (l : List Mm.Ent) (keep : List Int) (last : Bool) : (foldF l keep last).length ≤ l.length := by
  unfold foldF
  have h1 : (outF l keep).length ≤ l.length := List.length_filter_le _ _
  split
  · rw [List.length_reverse]
    exact Nat.le_trans (Bk.rest_le _) h1
  · exact h1
theorem foldF_is {l : List Mm.Ent} (h : Bk.inOrd l = true) (keep : List Int) (last : Bool) : Bk.foldR (1073741824 :: keep) last none l = foldF l keep last := Bk.fold_ref (up_inOrd h) keep last l [] rfl

theorem ents_grownO {w w' : World} {b off n c : Nat} {r : Option Nat} {l : List Mm.Ent} (h : EntsAt w (.slice (some ⟨b, off, none⟩) n c) l) (hg : w.grownBy w' r) (hne : r ≠ some b) : EntsAt w' (.slice (some ⟨b, off, none⟩) n c) l := by
  obtain ⟨⟨a, cap, e, hf⟩⟩ := h
  refine ⟨⟨a, cap, e, fun h0 => ?_⟩⟩
  obtain ⟨b', off', ha, hat⟩ := hf h0
  have hb : b' = b := by
    cases e
    cases ha
    rfl
  have K : ∀ i u, w.cell? ⟨b', i, none⟩ = some u → w'.cell? ⟨b', i, none⟩ = some u := fun i u hu => hg.cell hu (fun e => hne (by rw [← hb]; exact e.symm))
  exact ⟨b', off', ha, fun j hj => ⟨K _ _ (hat j hj).1, K _ _ (hat j hj).2.1, K _ _ (hat j hj).2.2.1, K _ _ (hat j hj).2.2.2⟩⟩

/-- The lists that were lent. -/
structure Ln (w : World) (ls : List (List Mm.Ent)) (us : List Value) (va : Option Addr) (j cp : Nat) (wr : World) : Prop where
  row : wr.ownsRow w.heap.size 23 1 (.slice va j cp) j us
  len : us.length = j
  ent : ∀ k (_ : k < us.length) (_ : k < ls.length), ∃ g cap, us[k] = .slice (some ⟨g, 0, none⟩) ls[k].length cap ∧ ls[k].length + 3 ≤ cap ∧ cap ≤ 9223372036854775807 ∧ EntsAt wr (.slice (some ⟨g, 0, none⟩) (ls[k].length + 3) cap) (lentE ls[k] 3) ∧ g < wr.heap.size ∧ (Value.slice va j cp).ownBlock ≠ some g
  bel : Below w.heap.size w wr
theorem Ln.later {w : World} {ls : List (List Mm.Ent)} {us : List Value} {va : Option Addr} {j cp : Nat} {wr w' : World} (h : Ln w ls us va j cp wr) (hb : Below wr.heap.size wr w') : Ln w ls us va j cp w' :=
  ⟨own_laterV h.row hb, h.len, fun k h1 h2 => by
    obtain ⟨g, cap, e, h3, h4, h5, h6, h7⟩ := h.ent k h1 h2
    exact ⟨g, cap, e, h3, h4, h5.later hb, Nat.lt_of_lt_of_le h6 hb.size, h7⟩, h.bel.trans (hb.mono h.bel.size)⟩
theorem Ln.nil (w wr : World) (ls : List (List Mm.Ent)) (hb : Below w.heap.size w wr) : Ln w ls [] none 0 0 wr :=
  ⟨World.ownsRow_nil _ _ _ _, rfl, fun k h => by simp at h, hb⟩
theorem Ln.lls {w : World} {ls : List (List Mm.Ent)} {us : List Value} {va : Option Addr} {j cp : Nat} {wr : World} (h : Ln w ls us va j cp wr) (hj : ls.length = j) : LLs wr us ls :=
  ⟨by rw [h.len, hj], fun k h1 h2 => by
    obtain ⟨g, cap, e, h3, h4, h5, _⟩ := h.ent k h2 h1
    exact ⟨some ⟨g, 0, none⟩, cap, e, by omega, h4, ents_front h5⟩⟩
theorem Ln.snoc {w : World} {ls : List (List Mm.Ent)} {us : List Value} {va : Option Addr} {j cp : Nat} {wr : World} (L : Ln w ls us va j cp wr) (jl : j < ls.length) {W1 W2 w2 : World} {g cap g2 cap2 : Nat} (b1 : Below wr.heap.size wr W1) (hc : ls[j].length + 3 ≤ cap) (hc2 : cap ≤ 9223372036854775807) (E1 : EntsAt W1 (.slice (some ⟨g, 0, none⟩) (ls[j].length + 3) cap) (lentE ls[j] 3)) (hg : wr.heap.size ≤ g) (hg2 : g < W1.heap.size) (b2 : Below W1.heap.size W1 W2)
    (o2 : w2.ownsRow w.heap.size 23 1 (.slice (some ⟨g2, 0, none⟩) (j + 1) cap2) (j + 1) (us ++ [.slice (some ⟨g, 0, none⟩) ls[j].length cap])) (gr : W2.grownBy w2 (Value.slice va j cp).ownBlock) (hat : (Value.slice va j cp).ownBlock = some g2 ∨ g2 = W2.heap.size) :
    Ln w ls (us ++ [.slice (some ⟨g, 0, none⟩) ls[j].length cap]) (some ⟨g2, 0, none⟩) (j + 1) cap2 w2 := by
  have B12 : Below wr.heap.size wr W2 := b1.trans (b2.mono b1.size)
  have hne : (Value.slice va j cp).ownBlock ≠ some g := fun e => by have := (L.row.lt g e).2; omega
  have hsz : W2.heap.size ≤ w2.heap.size := gr.size
  refine ⟨o2, by rw [List.length_append, L.len]; rfl, fun k h1 h2 => ?_, ?_⟩
  · rw [List.length_append, List.length_singleton] at h1
    by_cases hk : k < us.length
    · obtain ⟨gk, ck, e, h3, h4, h5, h6, h7⟩ := L.ent k hk h2
      rw [List.getElem_append_left hk]
      refine ⟨gk, ck, e, h3, h4, ents_grownO (h5.later B12) gr h7, ?_, fun e => ?_⟩
      · have := B12.size; omega
      · have h8 : g2 = gk := Option.some.inj e
        rcases hat with h | h
        · rw [h8] at h; exact h7 h
        · have := B12.size; omega
    · have hk2 : k = us.length := by omega
      subst hk2
      rw [List.getElem_append_right (Nat.le_refl _)]
      simp only [Nat.sub_self, List.getElem_cons_zero]
      have e1 : ls[us.length] = ls[j] := by congr 1; exact L.len
      rw [e1]
      refine ⟨g, cap, rfl, hc, hc2, ents_grownO (E1.later b2) gr hne, ?_, fun e => ?_⟩
      · have := b2.size; omega
      · have h8 : g2 = g := Option.some.inj e
        rcases hat with h | h
        · rw [h8] at h; exact hne h
        · have := b2.size; omega
  · exact (L.bel.trans (B12.mono L.bel.size)).grown gr (L.bel.trans (B12.mono L.bel.size)).size (fun k e => (L.row.lt k e).1)

/-- One list put behind lists that the call owns, in a drawn region. -/
theorem step_app_list (w : World) {ops : Array Oper} {o : Oper} {a : Act} {K : Act → World → Prop} {Q : Exit → Act → World → Prop} {E : Prop} (hgd : o.guard = none) (s x : Operand)
    (hop : o.op = .call { callee := .builtin .append, args := #[s, x], argTypes := #[51, 51] })
    (base : Nat) (v : Value) (vs : List Value) (u : Value) (n : Nat) (hu : u.oneCell' = true) (hs : a.eval s = v) (hown : w.ownsRow base 23 1 v n vs)
    (B : Nat) (hx : a.eval x = .slice (some ⟨B, 0, none⟩) 1 1) (hB : w.cell? ⟨B, 0, none⟩ = some u) (hroom : n + 1 ≤ 1000000) (hbase : base ≤ w.heap.size)
    (h : ∀ g' cap' w', w'.ownsRow base 23 1 (.slice (some ⟨g', 0, none⟩) (n + 1) cap') (n + 1) (vs ++ [u]) → w.grownBy w' v.ownBlock → (v.ownBlock = some g' ∨ g' = w.heap.size) → K (a.put o.dst (.slice (some ⟨g', 0, none⟩) (n + 1) cap')) w') :
    if Region.wanted o (yielded ops a.tmps) = true then Oper.wp Try.prog o a w K Q else E := by
  have hw : Region.wanted o (yielded ops a.tmps) = true := by simp [Region.wanted, hgd]
  rw [if_pos hw]
  obtain ⟨i0, hi, hz0, hz1, hz2⟩ := info_parts infoLE2
  refine wp_append_lies w s x 51 hop base 23 i0 _ 1 24 Try.underlying51 hi hz0 hz1 hz2 rfl (by decide) v n vs hs hown ⟨B, 0, none⟩ 1 1 [u] hx rfl (fun j y hy => ?_) (fun y hy => by rw [List.mem_singleton.mp hy]; exact hu) (by decide) (by unfold maxLen; omega) (by omega) hbase w.heap.size rfl (fun g' cap' w' h1 h2 h3 _ => h g' cap' w' h1 h2 h3)
  cases j with
  | zero =>
    have hadd : (⟨B, 0, none⟩ : Addr).add 0 = ⟨B, 0, none⟩ := by unfold Addr.add; split <;> simp_all
    rw [hadd, hB]
    simpa using hy
  | succ j => simp at hy
theorem wpList_app_list2 (w : World) {ops : Array Oper} {rest : List Oper} {o : Oper} {a : Act} {Q : Exit → Act → World → Prop} (hg : o.guard = none) (s x : Operand)
    (hop : o.op = .call { callee := .builtin .append, args := #[s, x], argTypes := #[51, 51] })
    (base : Nat) (v : Value) (vs : List Value) (u : Value) (n : Nat) (hu : u.oneCell' = true) (hs : a.eval s = v) (hown : w.ownsRow base 23 1 v n vs)
    (B : Nat) (hx : a.eval x = .slice (some ⟨B, 0, none⟩) 1 1) (hB : w.cell? ⟨B, 0, none⟩ = some u) (hroom : n + 1 ≤ 1000000) (hbase : base ≤ w.heap.size)
    (h : ∀ g' cap' w', w'.ownsRow base 23 1 (.slice (some ⟨g', 0, none⟩) (n + 1) cap') (n + 1) (vs ++ [u]) → w.grownBy w' v.ownBlock → (v.ownBlock = some g' ∨ g' = w.heap.size) → wpList Try.prog ops Q rest (a.put o.dst (.slice (some ⟨g', 0, none⟩) (n + 1) cap')) w') :
    wpList Try.prog ops Q (o :: rest) a w := by
  obtain ⟨i0, hi, hz0, hz1, hz2⟩ := info_parts infoLE2
  refine wpList_append_lies w hg s x 51 hop base 23 i0 _ 1 24 Try.underlying51 hi hz0 hz1 hz2 rfl (by decide) v n vs hs hown ⟨B, 0, none⟩ 1 1 [u] hx rfl (fun j y hy => ?_) (fun y hy => by rw [List.mem_singleton.mp hy]; exact hu) (by decide) (by unfold maxLen; omega) (by omega) hbase w.heap.size rfl (fun g' cap' w' h1 h2 h3 _ => h g' cap' w' h1 h2 h3)
  cases j with
  | zero =>
    have hadd : (⟨B, 0, none⟩ : Addr).add 0 = ⟨B, 0, none⟩ := by unfold Addr.add; split <;> simp_all
    rw [hadd, hB]
    simpa using hy
  | succ j => simp at hy

/-- A list of lists that came in: what is nil has no room. -/
theorem lists_nil {H : Type} {enc : TypeId × Value → H} {W : World} {fuel : Nat} {a : Option Addr} {len cap : Nat} {x : DataW H × List MemPlace} (hf : DataW.trod enc Try.prog W 0 (fun _ => true) true fuel 51 [.slice a len cap] = some x) (vs : List Value) (b off : Nat) (ha : a = some ⟨b, off, none⟩) (hc : ∀ k (h : k < vs.length), W.cell? ⟨b, off + k, none⟩ = some vs[k]) (hl : vs.length = len) :
    ∀ v ∈ vs, ∀ n c, v = .slice none n c → c = 0 := by
  intro v hv n c e
  obtain ⟨k, hk, rfl⟩ := List.mem_iff_getElem.1 hv
  rcases Deep.open_slice1 Try.underlying51 (by kernel_rfl) hf with ⟨hcs, _⟩ | ⟨ad, len', cap', m, n', V, D, Pl, hcs, _, hl', hmx, hm, _, hall⟩
  · simp at hcs
    rw [ha] at hcs
    simp at hcs
  · simp at hcs
    simp only [if_true] at hm
    obtain ⟨h1, h2⟩ := hall k (by omega)
    have had : ad = ⟨b, off, none⟩ := by
      have := hcs.1
      rw [ha] at this
      exact (Option.some.inj this).symm
    have hadd : ad.add k = ⟨b, off + k, none⟩ := by rw [had]; unfold Addr.add; split <;> simp_all
    rw [hadd, hc k hk, e] at h1
    have h3 := Option.some.inj h1
    rw [← h3] at h2
    rcases Deep.open_slice Try.underlying23 h2 with ⟨hcs2, _⟩ | ⟨ad2, len2, cap2, m2, n2, D2, Pl2, hcs2, _⟩
    · simp at hcs2
      omega
    · simp at hcs2
end Go.Proofs.Ytbdgdigpnfpnhaa.Q
