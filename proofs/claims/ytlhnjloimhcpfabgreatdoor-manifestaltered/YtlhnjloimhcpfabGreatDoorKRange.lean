/-
  A loop over an iterator that hands over things which are known from the start, while the body turns old memory: the law for the statement. What the body may turn is told by a relation between worlds of the caller's own; a round may end the loop by a break or by a return.
-/
import Derived.RangeFuncNested
import Derived.RangeFuncBound
import Derived.RangeFuncCalls
import Derived.RangeFuncLeaves
import Derived.RangeFuncBox
import Derived.Test.YtlhnjloimhcpfabGreatDoorBase
namespace Go.Proofs.YtlhnjloimhcpfabGreatDoor
open Go.RowKit

/-- The iterator's word: N things, one by one. -/
def HandsK (F : Fence) (n : Nat) (P : Program) (gf : Nat) (lb : Array Value) (N : Nat) (Kp : World → World → Prop) (arg : Nat → Array Value) (w0 : World) : Prop :=
  ∀ (l : Nat) (J Jx : Nat → World → Prop) (W : World), Kp w0 W → (∀ k A B, J k A → A.grownBy B none → J k B) → (∀ k A B, Jx k A → A.grownBy B none → Jx k B) →
    (∀ k A, k < N → J k A → Kp w0 A → YieldAt F (n - 1) P l (arg k) A fun e B => (e = .returned (.bool true) ∧ J (k + 1) B ∧ Kp A B) ∨ (e = .returned (.bool false) ∧ Jx (k + 1) B)) →
    J 0 W → CallsIn F n P gf (#[.func (.yield l) #[] #[]] ++ lb) W fun e B => (∃ v, e = .returned v) ∧ (J N B ∨ ∃ k, k ≤ N ∧ Jx k B)

/-- How a round may end: it goes on, or it leaves the loop. Blocks b and b + 1 are the loop's own. -/
def handPostK (b : Nat) (Kp : World → World → Prop) (I : Nat → World → Prop) (Ix : Code → Nat → World → Prop) (k : Nat) (A : World) : Exit → Act → World → Prop
  | .normal, _, B => (B.heap[b]? = A.heap[b]? ∧ B.heap[b + 1]? = A.heap[b + 1]?) ∧ Kp A B ∧ I k B
  | .ret, _, B => (B.heap[b]? = A.heap[b]? ∧ B.heap[b + 1]? = A.heap[b + 1]?) ∧ Ix .ret k B
  | .exit id, _, B => (B.heap[b]? = A.heap[b]? ∧ B.heap[b + 1]? = A.heap[b + 1]?) ∧ Ix (.exit id) k B
  | _, _, _ => False

theorem wpIn_handsK {F : Fence} {n : Nat} {P : Program} {g : Operand} {ps : Array Tmp} {assign body : Code} {Q : Exit → Act → World → Prop} {a : Act} {w : World}
    (hro : F.round = none) (h1 : 1 ≤ n) {gf : Nat} {lb : Array Value} (hg : a.eval g = .func (.func gf) #[] lb) (hFg : F.fn gf) (eg : ∀ args w, (callFunc gf args).run P w = .ok (.enter gf args) w)
    {N : Nat} {Kp : World → World → Prop} {arg : Nat → Array Value} (hh : HandsK F (n - 1) P gf lb N Kp arg w) (hKr : Kp w w) (hKt : ∀ {A B C : World}, Kp A B → Kp B C → Kp A C) (hKa : ∀ A o, w.heap.size ≤ A.heap.size → Kp A (A.alloc o)) (hKb : ∀ A o, Kp A (A.putObj (w.heap.size + 1) o)) (hps : ∀ k, (arg k).size = ps.size)
    (I : Nat → World → Prop) (Ix : Code → Nat → World → Prop) (hI : ∀ k A B, I k A → A.grownBy B none → I k B) (hIx : ∀ c k A B, Ix c k A → A.grownBy B none → Ix c k B) (hIp : ∀ k A o, I k A → I k (A.putObj (w.heap.size + 1) o)) (hIxp : ∀ c k A o, Ix c k A → Ix c k (A.putObj (w.heap.size + 1) o))
    (h0 : ∀ o, I 0 ((w.alloc (.deferred (some []))).alloc o)) (a₁ : Nat → Act)
    (hassign : ∀ (l k : Nat) (A : World) (K : Act → World → Prop), K (a₁ k) A →
      assign.wpIn (F.inRound l) (n - 1 - 1) P (Exit.then K (fun _ _ _ => False)) { tmps := (ps.zip (arg k)).foldl (fun t (p, v) => t.setIfInBounds p v) a.tmps, defers := [] } A)
    (hbody : ∀ (l k : Nat) (A : World), k < N → I k A → Kp w A → w.heap.size + 1 < A.heap.size → body.wpIn (F.inRound l) (n - 1 - 1) P (handPostK w.heap.size Kp I Ix (k + 1) A) (a₁ k) A)
    (hdone : ∀ B, I N B → B.heap[w.heap.size]? = some (.deferred (some [])) → Q .normal { a with defers := { target := .collected w.heap.size, args := #[] } :: a.defers } B)
    (hstop : ∀ c k B, k ≤ N → Ix c k B → B.heap[w.heap.size]? = some (.deferred (some [])) → c.wpIn F n P Q { a with defers := { target := .collected w.heap.size, args := #[] } :: a.defers } B) :
    (Code.rangeFunc g ps assign body).wpIn F n P Q a w := by
  refine wpIn_rangeFunc fun fn hfn => ?_
  rw [hro]
  obtain ⟨R0, hR0⟩ : ∃ r : Loop, r = { state := .ready, pending := none, fn, tmps := a.tmps, params := ps, assign, body, defers := w.heap.size } := ⟨_, rfl⟩
  obtain ⟨A0, hA0⟩ : ∃ A0, A0 = (w.alloc (.deferred (some []))).alloc (.loop R0) := ⟨_, rfl⟩
  have sD : A0.heap[w.heap.size]? = some (.deferred (some [])) := by
    rw [hA0]
    exact (Below.heap_alloc _ _ _ (by simp)).trans (World.alloc_heap_new w _)
  have sL : A0.heap[w.heap.size + 1]? = some (.loop R0) := by
    have := World.alloc_heap_new (w.alloc (.deferred (some []))) (.loop R0)
    rw [World.size_alloc] at this
    rw [hA0]
    exact this
  have bel : Kp w A0 := by
    rw [hA0]
    exact hKt (hKt hKr (hKa w _ (Nat.le_refl _))) (hKa _ _ (by simp))
  have i0 : I 0 A0 := by rw [hA0]; exact h0 _
  have stay : ∀ {A B : World} (k : Nat) (o : Obj), A.grownBy B none → A.heap[k]? = some o → B.heap[k]? = some o := fun k o hgr hk => (hgr.block k (Array.getElem?_eq_some_iff.1 hk).1 (by simp)).trans hk
  refine ⟨_, _, A0, { target := .fn (.func gf) lb, args := #[.func (.yield (w.heap.size + 1)) #[] #[]] }, A0, gf, #[.func (.yield (w.heap.size + 1)) #[] #[]] ++ lb, A0, by rw [hA0, hR0]; exact run_enterLoop_outer _ _ _ _ _, by simp only [resolve, hg]; simp [go_sem], fun f' hf' => by simp [Target.leads] at hf'; subst hf'; exact hFg, by simp [invoke, go_sem, eg], fun _ => h1, ?_⟩
  refine (hh (w.heap.size + 1) (fun k A => I k A ∧ A.heap[w.heap.size + 1]? = some (.loop R0) ∧ A.heap[w.heap.size]? = some (.deferred (some [])))
    (fun k A => ∃ c, Ix c k A ∧ A.heap[w.heap.size + 1]? = some (.loop { R0 with state := .done, pending := some c }) ∧ A.heap[w.heap.size]? = some (.deferred (some [])))
    A0 bel (fun k A B h hgr => ⟨hI k A B h.1 hgr, stay _ _ hgr h.2.1, stay _ _ hgr h.2.2⟩) (fun k A B h hgr => by obtain ⟨c, h1, h2, h3⟩ := h; exact ⟨c, hIx c k A B h1 hgr, stay _ _ hgr h2, stay _ _ hgr h3⟩) ?_ ⟨i0, sL, sD⟩).mono ?_
  · rintro k A hk ⟨hi, hl, hd⟩ hKA
    have hlt : w.heap.size + 1 < A.heap.size := (Array.getElem?_eq_some_iff.1 hl).1
    have hy := run_yield (P := P) (args := arg k) hl (by rw [hR0]; exact hps k)
    have hbr := run_beginRound (P := P) hl (by rw [hR0])
    rw [hR0] at hy
    refine ⟨fn, _, assign, body, hy, roundIn_of_wpIn hfn (hassign _ k A _ ⟨_, hbr, ?_⟩)⟩
    obtain ⟨A1, hA1⟩ : ∃ A1, A1 = A.putObj (w.heap.size + 1) (.loop { R0 with state := .busy }) := ⟨_, rfl⟩
    have l1 : A1.heap[w.heap.size + 1]? = some (.loop { R0 with state := .busy }) := by rw [hA1]; exact World.putObj_heap_same hlt
    have d1 : A1.heap[w.heap.size]? = some (.deferred (some [])) := by rw [hA1]; exact (World.putObj_heap_other (by omega)).trans hd
    have b1 : Kp A A1 := by rw [hA1]; exact hKb A _
    have i1 : I k A1 := by rw [hA1]; exact hIp k A _ hi
    rw [← hA1]
    refine wpIn_mono (hbody _ k A1 hk i1 (hKt hKA b1) (Array.getElem?_eq_some_iff.1 l1).1) ?_
    rintro e a3 A2 hp
    match e, hp with
    | .normal, ⟨⟨kd, kl⟩, kb, ki⟩ =>
      have l2 := kl.trans l1
      have d2 := kd.trans d1
      have hend := run_endRound (P := P) none l2
      refine ⟨_, _, hend, .inl ⟨rfl, ⟨hIp _ _ _ ki, ?_, (World.putObj_heap_other (by omega)).trans d2⟩, hKt (hKt b1 kb) (hKb _ _)⟩⟩
      rw [World.putObj_heap_same (Array.getElem?_eq_some_iff.1 l2).1, hR0]
      rfl
    | .ret, ⟨⟨kd, kl⟩, ki⟩ =>
      have l2 := kl.trans l1
      have d2 := kd.trans d1
      have hend := run_endRound (P := P) (some .ret) l2
      refine ⟨_, _, hend, .inr ⟨rfl, .ret, hIxp _ _ _ _ ki, ?_, (World.putObj_heap_other (by omega)).trans d2⟩⟩
      rw [World.putObj_heap_same (Array.getElem?_eq_some_iff.1 l2).1]
      rfl
    | .exit id, ⟨⟨kd, kl⟩, ki⟩ =>
      have l2 := kl.trans l1
      have d2 := kd.trans d1
      have hend := run_endRound (P := P) (some (.exit id)) l2
      refine ⟨_, _, hend, .inr ⟨rfl, .exit id, hIxp _ _ _ _ ki, ?_, (World.putObj_heap_other (by omega)).trans d2⟩⟩
      rw [World.putObj_heap_same (Array.getElem?_eq_some_iff.1 l2).1]
      rfl
  · rintro e B ⟨⟨v, rfl⟩, (⟨hi, hl, hd⟩ | ⟨k, hk, c, hi, hl, hd⟩)⟩
    · have hend := run_endLoop (P := P) hl (by rw [hR0]; simp)
      exact ⟨none, _, by rw [hend, hR0], hdone _ (hIp _ _ _ hi) ((World.putObj_heap_other (by omega)).trans hd)⟩
    · have hend := run_endLoop (P := P) hl (by simp)
      exact ⟨some c, _, hend, hstop c k _ hk (hIxp _ _ _ _ hi) ((World.putObj_heap_other (by omega)).trans hd)⟩
end Go.Proofs.YtlhnjloimhcpfabGreatDoor
