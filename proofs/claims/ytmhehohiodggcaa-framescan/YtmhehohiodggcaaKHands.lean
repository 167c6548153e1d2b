/-
  A loop over an iterator that hands over new memory: what it hands over can be told only in the world in which it does. The law for the statement, out of the kit's laws for its single steps: the iterator's word says of each thing, at the moment at which it is handed over, what holds of it there; the loop's body is walked once, at any number of things handed over before.
-/
import Derived.RangeFuncNested
import Derived.RangeFuncBound
import Derived.RangeFuncCalls
import Derived.RangeFuncLeaves
import Derived.RangeFuncBox
import Derived.Test.YtmhehohiodggcaaBase
namespace Go.Proofs.Ytmhehohiodggcaa
open Go.RowKit

/-- The iterator's word: N things, one by one; the k-th is some u of which G k u holds where it is handed over. -/
def Hands (F : Fence) (n : Nat) (P : Program) (gf : Nat) (lb : Array Value) (N n₀ : Nat) (arg : Nat → Value → Array Value) (G : Nat → Value → World → Prop) (w0 : World) : Prop :=
  ∀ (l : Nat) (J Jx : Nat → World → Prop) (W : World), Below n₀ w0 W → (∀ k A B, J k A → A.grownBy B none → J k B) → (∀ k A B, Jx k A → A.grownBy B none → Jx k B) →
    (∀ k u A, k < N → J k A → G k u A → YieldAt F (n - 1) P l (arg k u) A fun e B => (e = .returned (.bool true) ∧ J (k + 1) B ∧ Below n₀ A B) ∨ (e = .returned (.bool false) ∧ Jx (k + 1) B)) →
    J 0 W → CallsIn F n P gf (#[.func (.yield l) #[] #[]] ++ lb) W fun e B => (∃ v, e = .returned v) ∧ (J N B ∨ ∃ k, k ≤ N ∧ Jx k B)

/-- How a round may end: it goes on, or it leaves the loop by a break. -/
def handPost (b n₀ : Nat) (I Ix : Nat → World → Prop) (brk k : Nat) (A : World) : Exit → Act → World → Prop
  | .normal, _, B => KeepsFrom b A B ∧ Below n₀ A B ∧ I k B
  | .exit id, _, B => id = brk ∧ KeepsFrom b A B ∧ Ix k B
  | _, _, _ => False

theorem wpIn_hands {F : Fence} {n : Nat} {P : Program} {g : Operand} {ps : Array Tmp} {assign body : Code} {Q : Exit → Act → World → Prop} {a : Act} {w : World}
    (hro : F.round = none) (h1 : 1 ≤ n) {gf : Nat} {lb : Array Value} (hg : a.eval g = .func (.func gf) #[] lb) (hFg : F.fn gf) (eg : ∀ args w, (callFunc gf args).run P w = .ok (.enter gf args) w)
    {N n₀ brk : Nat} {arg : Nat → Value → Array Value} {G : Nat → Value → World → Prop} {w0 : World} (hh : Hands F (n - 1) P gf lb N n₀ arg G w0) (hb0 : Below n₀ w0 w) (hn₀ : n₀ ≤ w.heap.size) (hps : ∀ k u, (arg k u).size = ps.size)
    (I Ix : Nat → World → Prop) (hI : OwnFrom w.heap.size I) (hIx : OwnFrom w.heap.size Ix) (hG : OwnFrom w.heap.size (fun (x : Nat × Value) A => G x.1 x.2 A)) (h0 : I 0 w) (a₁ : Nat → Value → Act)
    (hassign : ∀ (l k : Nat) (u : Value) (A : World) (K : Act → World → Prop), K (a₁ k u) A →
      assign.wpIn (F.inRound l) (n - 1 - 1) P (Exit.then K (fun _ _ _ => False)) { tmps := (ps.zip (arg k u)).foldl (fun t (p, v) => t.setIfInBounds p v) a.tmps, defers := [] } A)
    (hbody : ∀ (l k : Nat) (u : Value) (A : World), k < N → I k A → G k u A → body.wpIn (F.inRound l) (n - 1 - 1) P (handPost w.heap.size n₀ I Ix brk (k + 1) A) (a₁ k u) A)
    (hdone : ∀ B, I N B → B.heap[w.heap.size]? = some (.deferred (some [])) → Q .normal { a with defers := { target := .collected w.heap.size, args := #[] } :: a.defers } B)
    (hstop : ∀ k B, k ≤ N → Ix k B → B.heap[w.heap.size]? = some (.deferred (some [])) → (Code.exit brk).wpIn F n P Q { a with defers := { target := .collected w.heap.size, args := #[] } :: a.defers } B) :
    (Code.rangeFunc g ps assign body).wpIn F n P Q a w := by
  refine wpIn_rangeFunc fun fn hfn => ?_
  rw [hro]
  -- the record of the loop, as it stands between two rounds, and as a break leaves it
  obtain ⟨R0, hR0⟩ : ∃ r : Loop, r = { state := .ready, pending := none, fn, tmps := a.tmps, params := ps, assign, body, defers := w.heap.size } := ⟨_, rfl⟩
  obtain ⟨A0, hA0⟩ : ∃ A0, A0 = (w.alloc (.deferred (some []))).alloc (.loop R0) := ⟨_, rfl⟩
  have sD : A0.heap[w.heap.size]? = some (.deferred (some [])) := by
    rw [hA0]
    exact (Below.heap_alloc _ _ _ (by simp)).trans (World.alloc_heap_new w _)
  have sL : A0.heap[w.heap.size + 1]? = some (.loop R0) := by
    have := World.alloc_heap_new (w.alloc (.deferred (some []))) (.loop R0)
    rw [World.size_alloc] at this
    rw [hA0]
    exact this
  have bel : Below n₀ w0 A0 := by
    rw [hA0]
    exact (hb0.alloc hn₀ _).alloc (by simp; omega) _
  have i0 : I 0 A0 := by rw [hA0]; exact hI.alloc _ (hI.alloc _ h0)
  -- what stays where only new blocks come
  have stay : ∀ {A B : World} (k : Nat) (o : Obj), A.grownBy B none → A.heap[k]? = some o → B.heap[k]? = some o := fun k o hgr hk => (hgr.block k (Array.getElem?_eq_some_iff.1 hk).1 (by simp)).trans hk
  refine ⟨_, _, A0, { target := .fn (.func gf) lb, args := #[.func (.yield (w.heap.size + 1)) #[] #[]] }, A0, gf, #[.func (.yield (w.heap.size + 1)) #[] #[]] ++ lb, A0, by rw [hA0, hR0]; exact run_enterLoop_outer _ _ _ _ _, by simp only [resolve, hg]; simp [go_sem], fun f' hf' => by simp [Target.leads] at hf'; subst hf'; exact hFg, by simp [invoke, go_sem, eg], fun _ => h1, ?_⟩
  refine (hh (w.heap.size + 1) (fun k A => I k A ∧ A.heap[w.heap.size + 1]? = some (.loop R0) ∧ A.heap[w.heap.size]? = some (.deferred (some [])))
    (fun k A => Ix k A ∧ A.heap[w.heap.size + 1]? = some (.loop { R0 with state := .done, pending := some (.exit brk) }) ∧ A.heap[w.heap.size]? = some (.deferred (some [])))
    A0 bel (fun k A B h hgr => ⟨hI k A B none h.1 hgr (fun r e => by cases e), stay _ _ hgr h.2.1, stay _ _ hgr h.2.2⟩) (fun k A B h hgr => ⟨hIx k A B none h.1 hgr (fun r e => by cases e), stay _ _ hgr h.2.1, stay _ _ hgr h.2.2⟩) ?_ ⟨i0, sL, sD⟩).mono ?_
  · rintro k u A hk ⟨hi, hl, hd⟩ hgk
    have hlt : w.heap.size + 1 < A.heap.size := (Array.getElem?_eq_some_iff.1 hl).1
    have hy := run_yield (P := P) (args := arg k u) hl (by rw [hR0]; exact hps k u)
    have hbr := run_beginRound (P := P) hl (by rw [hR0])
    rw [hR0] at hy
    refine ⟨fn, _, assign, body, hy, roundIn_of_wpIn hfn (hassign _ k u A _ ⟨_, hbr, ?_⟩)⟩
    -- the world in which the body begins: the record is busy
    obtain ⟨A1, hA1⟩ : ∃ A1, A1 = A.putObj (w.heap.size + 1) (.loop { R0 with state := .busy }) := ⟨_, rfl⟩
    have l1 : A1.heap[w.heap.size + 1]? = some (.loop { R0 with state := .busy }) := by rw [hA1]; exact World.putObj_heap_same hlt
    have d1 : A1.heap[w.heap.size]? = some (.deferred (some [])) := by rw [hA1]; exact (World.putObj_heap_other (by omega)).trans hd
    have b1 : Below n₀ A A1 := by rw [hA1]; exact belowK_b (w := w) hn₀ A _ _ _ (by omega) hl rfl rfl
    have i1 : I k A1 := by rw [hA1]; exact hI.putObj _ hi (by omega) hl rfl
    have g1 : G k u A1 := by rw [hA1]; exact hG.putObj (s := (k, u)) _ hgk (by omega) hl rfl
    rw [← hA1]
    refine wpIn_mono (hbody _ k u A1 hk i1 g1) ?_
    -- the round's end
    rintro e a3 A2 hp
    match e, hp with
    | .normal, ⟨kf, kb, ki⟩ =>
      have l2 := kf.same _ _ (by omega) l1 rfl
      have d2 := kf.same _ _ (Nat.le_refl _) d1 rfl
      have hend := run_endRound (P := P) none l2
      refine ⟨_, _, hend, .inl ⟨rfl, ⟨hI.putObj _ ki (by omega) l2 rfl, ?_, (World.putObj_heap_other (by omega)).trans d2⟩, (b1.trans kb).trans (belowK_b (w := w) hn₀ _ _ _ _ (by omega) l2 rfl rfl)⟩⟩
      rw [World.putObj_heap_same (Array.getElem?_eq_some_iff.1 l2).1, hR0]
      rfl
    | .exit id, ⟨he, kf, ki⟩ =>
      subst he
      have l2 := kf.same _ _ (by omega) l1 rfl
      have d2 := kf.same _ _ (Nat.le_refl _) d1 rfl
      have hend := run_endRound (P := P) (some (.exit id)) l2
      refine ⟨_, _, hend, .inr ⟨rfl, hIx.putObj _ ki (by omega) l2 rfl, ?_, (World.putObj_heap_other (by omega)).trans d2⟩⟩
      rw [World.putObj_heap_same (Array.getElem?_eq_some_iff.1 l2).1]
      rfl
  · rintro e B ⟨⟨v, rfl⟩, (⟨hi, hl, hd⟩ | ⟨k, hk, hi, hl, hd⟩)⟩
    · have hend := run_endLoop (P := P) hl (by rw [hR0]; simp)
      exact ⟨none, _, by rw [hend, hR0], hdone _ (hI.putObj _ hi (by omega) hl rfl) ((World.putObj_heap_other (by omega)).trans hd)⟩
    · have hend := run_endLoop (P := P) hl (by simp)
      exact ⟨some (.exit brk), _, hend, hstop k _ hk (hIx.putObj _ hi (by omega) hl rfl) ((World.putObj_heap_other (by omega)).trans hd)⟩
end Go.Proofs.Ytmhehohiodggcaa
