/-
  One more pending step.
-/
import Derived.Test.YtclokpkhkokfhabVDoFile
namespace Go.Proofs.Ytclokpkhkokfhab
open Go.RowKit Go.Maps

theorem step_pend (w : World) {ops : Array Oper} {o : Oper} {a : Act} {K : Act → World → Prop} {Q : Exit → Act → World → Prop} {E : Prop} (hgd : o.guard = none) (x y : Operand)
    (hop : o.op = .call { callee := .builtin .append, args := #[x, y], argTypes := #[46, 46] })
    (v : Value) (l : List Vf.Step) (s : Vf.Step) (hx : a.eval x = v) (hown : w.ownsRow 0 55 5 v l.length (scs l)) (B c : Nat) (hy : a.eval y = .slice (some ⟨B, 0, none⟩) 1 c) (hB : w.heap[B]? = some (.cells (sc s).toArray 55 (0, 0))) (hroom : l.length ≤ 1000000000)
    (h : ∀ g cap n w', Hid (n = l.length + 1) → w'.ownsRow 0 55 5 (.slice (some ⟨g, 0, none⟩) n cap) n (scs (l ++ [s])) → w.grownBy w' v.ownBlock → Hid (v.ownBlock = some g ∨ g = w.heap.size) → g < w'.heap.size → K (a.put o.dst (.slice (some ⟨g, 0, none⟩) n cap)) w') :
    if Region.wanted o (yielded ops a.tmps) = true then Oper.wp Try.prog o a w K Q else E := by
  obtain ⟨i0, hi, hz0, hz1, hz2⟩ := info_parts infoS
  refine step_append_lies w hgd x y 46 hop 0 55 i0 _ 5 56 Try.underlying46 hi hz0 hz1 hz2 rfl (by decide) v l.length (scs l) hx hown ⟨B, 0, none⟩ 1 c (scs [s]) hy rfl (step_cells hB) (scs_one _) (by decide) (by unfold maxLen; omega) (by omega) (Nat.zero_le _) _ rfl ?_
  intro g cap w' h1 h2 h3 h4
  exact h g cap (l.length + 1) w' rfl (by rw [scs_append]; exact h1) h2 h3 h4

/-- A turn of the file system's own block and of the pending steps, wherever they lie. -/
theorem RepAt.turnQ {w : World} {b bf bh bd : Nat} {pv : Value} {fs : Nat → Option Nat} {sl : Nat → Value} {σ : Vf.St} {S : Nat → Prop} (h : RepAt w b bf bh bd pv fs sl σ S) {w' : World} (_ : w.heap.size ≤ w'.heap.size) (ho : ∀ i, i < w.heap.size → i ≠ b → some i ≠ pv.ownBlock → w'.heap[i]? = w.heap[i]?) (σ' : Vf.St) (pv' : Value)
    (hb : w'.heap[b]? = some (.cells (fsCells σ' bf bh bd pv') 48 (0, 0))) (e1 : σ'.files = σ.files) (e2 : σ'.held = σ.held) (e3 : σ'.durable = σ.durable) (e5 : σ.steps ≤ σ'.steps)
    (hp : w'.ownsRow 0 55 5 pv' σ'.pending.length (scs σ'.pending)) (T : Nat → Prop) (hT : ∀ i, S i → T i) (hl : ∀ i, T i → i < w'.heap.size) (hs : ∀ g, pv'.ownBlock = some g → T g) : RepAt w' b bf bh bd pv' fs sl σ' T := by
  have hne : ∀ i x, kindAt w i = x → x ≠ some (some 55) → some i ≠ pv.ownBlock := fun i x hi hx e => hx (by rw [← hi]; exact h.kp e.symm)
  exact ⟨hb, (h.files.same (ho _ h.files.lt (ne_kind h.files.kind h.kb (by simp)) (hne _ _ h.files.kind (by simp)))).mono e5, by rw [e2]; exact h.held.same (ho _ h.held.lt (ne_kind h.held.kind h.kb (by simp)) (hne _ _ h.held.kind (by simp))), by rw [e3]; exact h.dur.same (ho _ h.dur.lt (ne_kind h.dur.kind h.kb (by simp)) (hne _ _ h.dur.kind (by simp))), hp,
    fun n => by rw [e1]; exact h.dom n,
    fun n r x hn hx => by
      rw [e1] at hx
      refine ⟨(ho r (h.low _ (h.sg n r hn)) (ne_kind (h.kg hn) h.kb (by decide)) (hne _ _ (h.kg hn) (by decide))).trans (h.file n r x hn hx).1, ownsRow_same (h.file n r x hn hx).2 fun q hq => ?_⟩
      have hn0 : fs n ≠ none := by rw [hn]; simp
      exact ho q (h.low _ (h.sr n q hn0 hq)) (ne_kind (h.kr hn0 hq) h.kb (by decide)) (hne _ _ (h.kr hn0 hq) (by decide)),
    h.inj, h.rows, h.fh, h.fd, h.hd, hT _ h.sb, hT _ h.sf, hT _ h.sh, hT _ h.sd, hs, fun n g hn => hT _ (h.sg n g hn), fun n g h1 h2 => hT _ (h.sr n g h1 h2), hl⟩

/-- The end of a raw step that stays pending. -/
theorem put_end {w W w4 : World} {b bf bh bd g cap n : Nat} {pv : Value} {fs : Nat → Option Nat} {sl : Nat → Value} {σ : Vf.St} {S : Nat → Prop} {s : Vf.Step} {o : Obj} (h : RepAt W b bf bh bd pv fs sl σ (grow S w W)) (hm : Moved S w W) (hw : w.heap.size ≤ W.heap.size) (g4 : (W.alloc o).grownBy w4 pv.ownBlock) (hn : n = σ.pending.length + 1)
    (r4 : w4.ownsRow 0 55 5 (.slice (some ⟨g, 0, none⟩) n cap) n (scs (σ.pending ++ [s]))) (hg : pv.ownBlock = some g ∨ g = (W.alloc o).heap.size) (hl : g < w4.heap.size) :
    Rep (w4.setCell ⟨b, 8, none⟩ (.slice (some ⟨g, 0, none⟩) n cap)) b (Vf.pend σ s) (grow S w (w4.setCell ⟨b, 8, none⟩ (.slice (some ⟨g, 0, none⟩) n cap))) ∧ Moved S w (w4.setCell ⟨b, 8, none⟩ (.slice (some ⟨g, 0, none⟩) n cap)) := by
  have nb : some b ≠ pv.ownBlock := fun e => ne_kind h.kb (h.kp e.symm) (by decide) rfl
  have hz4 := g4.size
  rw [World.size_alloc] at hz4 hg
  have b5 : w4.heap[b]? = some (.cells (fsCells σ bf bh bd pv) 48 (0, 0)) := ((g4.block b (by have := h.low _ h.sb; simp; omega) nb).trans (Below.heap_alloc W o b (h.low _ h.sb))).trans h.blk
  have hzs : (w4.setCell ⟨b, 8, none⟩ (.slice (some ⟨g, 0, none⟩) n cap)).heap.size = w4.heap.size := by simp [World.setCell]
  have hz : W.heap.size ≤ (w4.setCell ⟨b, 8, none⟩ (.slice (some ⟨g, 0, none⟩) n cap)).heap.size := by rw [hzs]; omega
  refine ⟨⟨bf, bh, bd, .slice (some ⟨g, 0, none⟩) n cap, fs, sl, ?_⟩, ?_⟩
  · refine h.turnQ hz (fun i hi h1 h2 => ?_) (Vf.pend σ s) _ ?_ rfl rfl rfl (Nat.le_refl _) ?_ _ (fun i hi => ?_) (fun i hi => ?_) (fun q hq => ?_)
    · exact ((Below.heap_setCell w4 ⟨b, 8, none⟩ _ i h1).trans (g4.block i (by simp; omega) h2)).trans (Below.heap_alloc W o i hi)
    · rw [Joins.block_setCell b5]; rfl
    · show World.ownsRow _ 0 _ 5 _ (σ.pending ++ [s]).length (scs (σ.pending ++ [s]))
      rw [show (σ.pending ++ [s]).length = n from by rw [hn]; simp]
      refine ownsRow_same r4 fun q hq => Below.heap_setCell w4 ⟨b, 8, none⟩ _ q ?_
      have : q = g := by simp [Value.ownBlock] at hq; exact hq.symm
      subst this
      intro e
      have e' : q = b := e
      subst e'
      rcases hg with hg | hg
      · exact nb hg.symm
      · have := h.low _ h.sb; omega
    · rcases hi with hi | hi
      · exact .inl hi
      · exact .inr ⟨hi.1, by omega⟩
    · rcases hi with hi | hi
      · exact Nat.lt_of_lt_of_le (h.low _ (.inl hi)) hz
      · exact hi.2
    · have : q = g := by simp [Value.ownBlock] at hq; exact hq.symm
      subst this
      rcases hg with hg | hg
      · rcases h.sp q hg with hs | hs
        · exact .inl hs
        · exact .inr ⟨hs.1, by omega⟩
      · exact .inr ⟨by omega, by rw [hzs]; exact hl⟩
  · refine (((hm.alloc o).grown g4 ?_).setCell (fun hlt => ?_) _)
    · intro k e hk
      rcases h.sp k e with hs | hs
      · exact hs
      · omega
    · rcases h.sb with hs | hs
      · exact hs
      · have : b < w.heap.size := hlt
        omega
end Go.Proofs.Ytclokpkhkokfhab
