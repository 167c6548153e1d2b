/-
  The law of a loop over an iterator, where the loop's variable is memory of its own.
-/
import Derived.Test.YtbdgdigpnfpnhaaKQ
namespace Go.Proofs.Ytbdgdigpnfpnhaa.Q.P
open Go.RowKit

theorem wpIn_handsK7 {F : Fence} {n : Nat} {P : Program} {g : Operand} {ps : Array Tmp} {assign body : Code} {Q : Exit → Act → World → Prop} {a : Act} {w : World}
    (hro : F.round = none) (h1 : 1 ≤ n) {gf : Nat} {lb : Array Value} (hg : a.eval g = .func (.func gf) #[] lb) (hFg : F.fn gf) (eg : ∀ args w, (callFunc gf args).run P w = .ok (.enter gf args) w)
    {N : Nat} {Kp : World → World → Prop} {arg : Nat → Array Value} (hh : HandsK6 F (n - 1) P gf lb N Kp arg w) (hKr : Kp w w) (hKt : ∀ {A B C : World}, Kp A B → Kp B C → Kp A C) (hKa : ∀ A o, w.heap.size ≤ A.heap.size → Kp A (A.alloc o)) (hKb : ∀ A o, Kp A (A.putObj (w.heap.size + 1) o)) (hps : ∀ k, (arg k).size = ps.size)
    (I : Nat → World → Prop) (Ix : Code → Nat → World → Prop) (hI : ∀ k A B, I k A → A.grownBy B none → I k B) (hIx : ∀ c k A B, Ix c k A → A.grownBy B none → Ix c k B) (hIp : ∀ k A i o o', I k A → w.heap.size < i → A.heap[i]? = some o → o.isCells = false → I k (A.putObj i o')) (hIxp : ∀ c k A i o o', Ix c k A → w.heap.size < i → A.heap[i]? = some o → o.isCells = false → Ix c k (A.putObj i o'))
    (h0 : ∀ o, I 0 ((w.alloc (.deferred (some []))).alloc o)) (hKl : ∀ A B, w.heap.size ≤ A.heap.size → Below A.heap.size A B → Kp A B) (Ax : Nat → Act → World → Prop) (hAx : ∀ k a A o, Ax k a A → Ax k a (A.putObj (w.heap.size + 1) o))
    (hassign : ∀ (l k : Nat) (A : World) (K : Act → World → Prop), k < N → w.heap.size + 1 < A.heap.size → (∀ a1 A1, Below A.heap.size A A1 → Ax k a1 A1 → K a1 A1) →
      assign.wpIn (F.inRound l) (n - 1 - 1) P (Exit.then K (fun _ _ _ => False)) { tmps := (ps.zip (arg k)).foldl (fun t (p, v) => t.setIfInBounds p v) a.tmps, defers := [] } A)
    (hbody : ∀ (l k : Nat) (a1 : Act) (A : World), k < N → I k A → Ax k a1 A → Kp w A → (∃ r, A.heap[w.heap.size + 1]? = some (.loop r)) → A.heap[w.heap.size]? = some (.deferred (some [])) → body.wpIn (F.inRound l) (n - 1 - 1) P (handPostK6 w.heap.size Kp I Ix (k + 1) A) a1 A)
    (hdone : ∀ B, I N B → B.heap[w.heap.size]? = some (.deferred (some [])) → Q .normal { a with defers := { target := .collected w.heap.size, args := #[] } :: a.defers } B)
    (hstop : ∀ c k B, k ≤ N → Ix c k B → B.heap[w.heap.size]? = some (.deferred (some [])) → c.wpIn F n P Q { a with defers := { target := .collected w.heap.size, args := #[] } :: a.defers } B) :
    (Code.rangeFunc g ps assign body).wpIn F n P Q a w := by
  refine wpIn_rangeFunc fun fn hfn => ?_
  rw [hro]
  obtain ⟨R0, hR0⟩ : ∃ r : Loop, r = { state := .ready, pending := none, fn, tmps := a.tmps, params := ps, assign, body, defers := w.heap.size } := ⟨_, rfl⟩
  obtain ⟨A0, hA0⟩ : ∃ A0, A0 = (w.alloc (.deferred (some []))).alloc (.loop R0) := ⟨_, rfl⟩
  have sD : A0.heap[w.heap.size]? = some (.deferred (some [])) := by
    rw [hA0]
    exact (Below.heap_alloc _ _ _ (by simp)).trans (World.alloc_heap_new w _)
  have sL : A0.heap[w.heap.size + 1]? = some (.loop R0) := by
    have := World.alloc_heap_new (w.alloc (.deferred (some []))) (.loop R0)
    rw [World.size_alloc] at this
    rw [hA0]
    exact this
  have bel : Kp w A0 := by
    rw [hA0]
    exact hKt (hKt hKr (hKa w _ (Nat.le_refl _))) (hKa _ _ (by simp))
  have i0 : I 0 A0 := by rw [hA0]; exact h0 _
  have stay : ∀ {A B : World} (k : Nat) (o : Obj), A.grownBy B none → A.heap[k]? = some o → B.heap[k]? = some o := fun k o hgr hk => (hgr.block k (Array.getElem?_eq_some_iff.1 hk).1 (by simp)).trans hk
  refine ⟨_, _, A0, { target := .fn (.func gf) lb, args := #[.func (.yield (w.heap.size + 1)) #[] #[]] }, A0, gf, #[.func (.yield (w.heap.size + 1)) #[] #[]] ++ lb, A0, by rw [hA0, hR0]; exact run_enterLoop_outer _ _ _ _ _, by simp only [resolve, hg]; simp [go_sem], fun f' hf' => by simp [Target.leads] at hf'; subst hf'; exact hFg, by simp [invoke, go_sem, eg], fun _ => h1, ?_⟩
  refine (hh (w.heap.size + 1) (fun k A => I k A ∧ A.heap[w.heap.size + 1]? = some (.loop R0) ∧ A.heap[w.heap.size]? = some (.deferred (some [])))
    (fun k A => ∃ c, Ix c k A ∧ A.heap[w.heap.size + 1]? = some (.loop { R0 with state := .done, pending := some c }) ∧ A.heap[w.heap.size]? = some (.deferred (some [])))
    A0 bel (by rw [hA0]; simp) (fun k A B h hgr => ⟨hI k A B h.1 hgr, stay _ _ hgr h.2.1, stay _ _ hgr h.2.2⟩) (fun k A B h hgr => by obtain ⟨c, h1, h2, h3⟩ := h; exact ⟨c, hIx c k A B h1 hgr, stay _ _ hgr h2, stay _ _ hgr h3⟩) (fun k A i o o' h hi ha ho => ⟨hIp k A i o o' h.1 (by omega) ha ho, (World.putObj_heap_other (by omega)).trans h.2.1, (World.putObj_heap_other (by omega)).trans h.2.2⟩) (fun k A i o o' h hi ha ho => by obtain ⟨c, h1, h2, h3⟩ := h; exact ⟨c, hIxp c k A i o o' h1 (by omega) ha ho, (World.putObj_heap_other (by omega)).trans h2, (World.putObj_heap_other (by omega)).trans h3⟩) ?_ ⟨i0, sL, sD⟩).mono ?_
  · rintro k A0' hk ⟨hi0, hl0, hd0⟩ hKA0
    have hlt0 : w.heap.size + 1 < A0'.heap.size := (Array.getElem?_eq_some_iff.1 hl0).1
    have hy := run_yield (P := P) (args := arg k) hl0 (by rw [hR0]; exact hps k)
    rw [hR0] at hy
    refine ⟨fn, _, assign, body, hy, roundIn_of_wpIn hfn (hassign _ k A0' _ hk hlt0 fun a1 A bA hax => ?_)⟩
    have hl : A.heap[w.heap.size + 1]? = some (.loop R0) := (bA.block _ hlt0).trans hl0
    have hd : A.heap[w.heap.size]? = some (.deferred (some [])) := (bA.block _ (by omega)).trans hd0
    have hi : I k A := hI k A0' A hi0 ⟨bA.os, bA.tape, bA.output, bA.size, fun i hi _ => bA.block i hi⟩
    have kpA : Kp A0' A := hKl A0' A (by omega) bA
    have hKA : Kp w A := hKt hKA0 kpA
    have hlt : w.heap.size + 1 < A.heap.size := (Array.getElem?_eq_some_iff.1 hl).1
    have hbr := run_beginRound (P := P) hl (by rw [hR0])
    refine ⟨_, hbr, ?_⟩
    obtain ⟨A1, hA1⟩ : ∃ A1, A1 = A.putObj (w.heap.size + 1) (.loop { R0 with state := .busy }) := ⟨_, rfl⟩
    have l1 : A1.heap[w.heap.size + 1]? = some (.loop { R0 with state := .busy }) := by rw [hA1]; exact World.putObj_heap_same hlt
    have d1 : A1.heap[w.heap.size]? = some (.deferred (some [])) := by rw [hA1]; exact (World.putObj_heap_other (by omega)).trans hd
    have b1 : Kp A A1 := by rw [hA1]; exact hKb A _
    have i1 : I k A1 := by rw [hA1]; exact hIp k A _ _ _ hi (by omega) hl rfl
    have x1 : Ax k a1 A1 := by rw [hA1]; exact hAx k a1 A _ hax
    rw [← hA1]
    refine wpIn_mono (hbody _ k a1 A1 hk i1 x1 (hKt hKA b1) ⟨_, l1⟩ d1) ?_
    rintro e a3 A2 hp
    match e, hp with
    | .normal, ⟨⟨kd, kl⟩, kb, ki⟩ =>
      have l2 := kl.trans l1
      have d2 := kd.trans d1
      have hend := run_endRound (P := P) none l2
      refine ⟨_, _, hend, .inl ⟨rfl, ⟨hIp _ _ _ _ _ ki (by omega) l2 rfl, ?_, (World.putObj_heap_other (by omega)).trans d2⟩, hKt kpA (hKt (hKt b1 kb) (hKb _ _))⟩⟩
      rw [World.putObj_heap_same (Array.getElem?_eq_some_iff.1 l2).1, hR0]
      rfl
    | .ret, ⟨⟨kd, kl⟩, kb, ki⟩ =>
      have l2 := kl.trans l1
      have d2 := kd.trans d1
      have hend := run_endRound (P := P) (some .ret) l2
      refine ⟨_, _, hend, .inr ⟨rfl, ⟨.ret, hIxp _ _ _ _ _ _ ki (by omega) l2 rfl, ?_, (World.putObj_heap_other (by omega)).trans d2⟩, hKt kpA (hKt (hKt b1 kb) (hKb _ _))⟩⟩
      rw [World.putObj_heap_same (Array.getElem?_eq_some_iff.1 l2).1]
      rfl
    | .exit id, ⟨⟨kd, kl⟩, kb, ki⟩ =>
      have l2 := kl.trans l1
      have d2 := kd.trans d1
      have hend := run_endRound (P := P) (some (.exit id)) l2
      refine ⟨_, _, hend, .inr ⟨rfl, ⟨.exit id, hIxp _ _ _ _ _ _ ki (by omega) l2 rfl, ?_, (World.putObj_heap_other (by omega)).trans d2⟩, hKt kpA (hKt (hKt b1 kb) (hKb _ _))⟩⟩
      rw [World.putObj_heap_same (Array.getElem?_eq_some_iff.1 l2).1]
      rfl
  · rintro e B ⟨⟨v, rfl⟩, (⟨hi, hl, hd⟩ | ⟨k, hk, c, hi, hl, hd⟩)⟩
    · have hend := run_endLoop (P := P) hl (by rw [hR0]; simp)
      exact ⟨none, _, by rw [hend, hR0], hdone _ (hIp _ _ _ _ _ hi (by omega) hl rfl) ((World.putObj_heap_other (by omega)).trans hd)⟩
    · have hend := run_endLoop (P := P) hl (by simp)
      exact ⟨some c, _, hend, hstop c k _ hk (hIxp _ _ _ _ _ _ hi (by omega) hl rfl) ((World.putObj_heap_other (by omega)).trans hd)⟩
end Go.Proofs.Ytbdgdigpnfpnhaa.Q.P
