/-
  A loop over an iterator that hands over things which are known from the start, while the body turns old memory: the law for the statement. What the body may turn is told by a relation between worlds of the caller's own; a round may end the loop by a break or by a return. .. and what follows from it.
-/
import Derived.RangeFuncNested
import Derived.RangeFuncBound
import Derived.RangeFuncCalls
import Derived.RangeFuncLeaves
import Derived.RangeFuncBox
import Derived.Test.YtbdgdigpnfpnhaaKA
import Derived.Sort.QuietTacIn
import Derived.OwnWalkIn
namespace Go.Proofs.Ytbdgdigpnfpnhaa.Q
open Go.RowKit

/-- The iterator's word: N things, one by one. -/
def HandsK6 (F : Fence) (n : Nat) (P : Program) (gf : Nat) (lb : Array Value) (N : Nat) (Kp : World → World → Prop) (arg : Nat → Array Value) (w0 : World) : Prop :=
  ∀ (l : Nat) (J Jx : Nat → World → Prop) (W : World), Kp w0 W → w0.heap.size + 2 ≤ W.heap.size → (∀ k A B, J k A → A.grownBy B none → J k B) → (∀ k A B, Jx k A → A.grownBy B none → Jx k B) →
    (∀ k A i o o', J k A → w0.heap.size + 1 < i → A.heap[i]? = some o → o.isCells = false → J k (A.putObj i o')) → (∀ k A i o o', Jx k A → w0.heap.size + 1 < i → A.heap[i]? = some o → o.isCells = false → Jx k (A.putObj i o')) →
    (∀ k A, k < N → J k A → Kp w0 A → YieldAt F (n - 1) P l (arg k) A fun e B => (e = .returned (.bool true) ∧ J (k + 1) B ∧ Kp A B) ∨ (e = .returned (.bool false) ∧ Jx (k + 1) B ∧ Kp A B)) →
    J 0 W → CallsIn F n P gf (#[.func (.yield l) #[] #[]] ++ lb) W fun e B => (∃ v, e = .returned v) ∧ (J N B ∨ ∃ k, k ≤ N ∧ Jx k B)

/-- How a round may end: it goes on, or it leaves the loop. Blocks b and b + 1 are the loop's own. -/
def handPostK6 (b : Nat) (Kp : World → World → Prop) (I : Nat → World → Prop) (Ix : Code → Nat → World → Prop) (k : Nat) (A : World) : Exit → Act → World → Prop
  | .normal, _, B => (B.heap[b]? = A.heap[b]? ∧ B.heap[b + 1]? = A.heap[b + 1]?) ∧ Kp A B ∧ I k B
  | .ret, _, B => (B.heap[b]? = A.heap[b]? ∧ B.heap[b + 1]? = A.heap[b + 1]?) ∧ Kp A B ∧ Ix .ret k B
  | .exit id, _, B => (B.heap[b]? = A.heap[b]? ∧ B.heap[b + 1]? = A.heap[b + 1]?) ∧ Kp A B ∧ Ix (.exit id) k B
  | _, _, _ => False

theorem wpIn_handsK6 {F : Fence} {n : Nat} {P : Program} {g : Operand} {ps : Array Tmp} {assign body : Code} {Q : Exit → Act → World → Prop} {a : Act} {w : World}
    (hro : F.round = none) (h1 : 1 ≤ n) {gf : Nat} {lb : Array Value} (hg : a.eval g = .func (.func gf) #[] lb) (hFg : F.fn gf) (eg : ∀ args w, (callFunc gf args).run P w = .ok (.enter gf args) w)
    {N : Nat} {Kp : World → World → Prop} {arg : Nat → Array Value} (hh : HandsK6 F (n - 1) P gf lb N Kp arg w) (hKr : Kp w w) (hKt : ∀ {A B C : World}, Kp A B → Kp B C → Kp A C) (hKa : ∀ A o, w.heap.size ≤ A.heap.size → Kp A (A.alloc o)) (hKb : ∀ A o, Kp A (A.putObj (w.heap.size + 1) o)) (hps : ∀ k, (arg k).size = ps.size)
    (I : Nat → World → Prop) (Ix : Code → Nat → World → Prop) (hI : ∀ k A B, I k A → A.grownBy B none → I k B) (hIx : ∀ c k A B, Ix c k A → A.grownBy B none → Ix c k B) (hIp : ∀ k A i o o', I k A → w.heap.size < i → A.heap[i]? = some o → o.isCells = false → I k (A.putObj i o')) (hIxp : ∀ c k A i o o', Ix c k A → w.heap.size < i → A.heap[i]? = some o → o.isCells = false → Ix c k (A.putObj i o'))
    (h0 : ∀ o, I 0 ((w.alloc (.deferred (some []))).alloc o)) (a₁ : Nat → Act)
    (hassign : ∀ (l k : Nat) (A : World) (K : Act → World → Prop), K (a₁ k) A →
      assign.wpIn (F.inRound l) (n - 1 - 1) P (Exit.then K (fun _ _ _ => False)) { tmps := (ps.zip (arg k)).foldl (fun t (p, v) => t.setIfInBounds p v) a.tmps, defers := [] } A)
    (hbody : ∀ (l k : Nat) (A : World), k < N → I k A → Kp w A → (∃ r, A.heap[w.heap.size + 1]? = some (.loop r)) → A.heap[w.heap.size]? = some (.deferred (some [])) → body.wpIn (F.inRound l) (n - 1 - 1) P (handPostK6 w.heap.size Kp I Ix (k + 1) A) (a₁ k) A)
    (hdone : ∀ B, I N B → B.heap[w.heap.size]? = some (.deferred (some [])) → Q .normal { a with defers := { target := .collected w.heap.size, args := #[] } :: a.defers } B)
    (hstop : ∀ c k B, k ≤ N → Ix c k B → B.heap[w.heap.size]? = some (.deferred (some [])) → c.wpIn F n P Q { a with defers := { target := .collected w.heap.size, args := #[] } :: a.defers } B) :
    (Code.rangeFunc g ps assign body).wpIn F n P Q a w := by
  refine wpIn_rangeFunc fun fn hfn => ?_
  rw [hro]
  obtain ⟨R0, hR0⟩ : ∃ r : Loop, r = { state := .ready, pending := none, fn, tmps := a.tmps, params := ps, assign, body, defers := w.heap.size } := ⟨_, rfl⟩
  obtain ⟨A0, hA0⟩ : ∃ A0, A0 = (w.alloc (.deferred (some []))).alloc (.loop R0) := ⟨_, rfl⟩
  have sD : A0.heap[w.heap.size]? = some (.deferred (some [])) := by
    rw [hA0]
    exact (Below.heap_alloc _ _ _ (by simp)).trans (World.alloc_heap_new w _)
  have sL : A0.heap[w.heap.size + 1]? = some (.loop R0) := by
    have := World.alloc_heap_new (w.alloc (.deferred (some []))) (.loop R0)
    rw [World.size_alloc] at this
    rw [hA0]
    exact this
  have bel : Kp w A0 := by
    rw [hA0]
    exact hKt (hKt hKr (hKa w _ (Nat.le_refl _))) (hKa _ _ (by simp))
  have i0 : I 0 A0 := by rw [hA0]; exact h0 _
  have stay : ∀ {A B : World} (k : Nat) (o : Obj), A.grownBy B none → A.heap[k]? = some o → B.heap[k]? = some o := fun k o hgr hk => (hgr.block k (Array.getElem?_eq_some_iff.1 hk).1 (by simp)).trans hk
  refine ⟨_, _, A0, { target := .fn (.func gf) lb, args := #[.func (.yield (w.heap.size + 1)) #[] #[]] }, A0, gf, #[.func (.yield (w.heap.size + 1)) #[] #[]] ++ lb, A0, by rw [hA0, hR0]; exact run_enterLoop_outer _ _ _ _ _, by simp only [resolve, hg]; simp [go_sem], fun f' hf' => by simp [Target.leads] at hf'; subst hf'; exact hFg, by simp [invoke, go_sem, eg], fun _ => h1, ?_⟩
  refine (hh (w.heap.size + 1) (fun k A => I k A ∧ A.heap[w.heap.size + 1]? = some (.loop R0) ∧ A.heap[w.heap.size]? = some (.deferred (some [])))
    (fun k A => ∃ c, Ix c k A ∧ A.heap[w.heap.size + 1]? = some (.loop { R0 with state := .done, pending := some c }) ∧ A.heap[w.heap.size]? = some (.deferred (some [])))
    A0 bel (by rw [hA0]; simp) (fun k A B h hgr => ⟨hI k A B h.1 hgr, stay _ _ hgr h.2.1, stay _ _ hgr h.2.2⟩) (fun k A B h hgr => by obtain ⟨c, h1, h2, h3⟩ := h; exact ⟨c, hIx c k A B h1 hgr, stay _ _ hgr h2, stay _ _ hgr h3⟩) (fun k A i o o' h hi ha ho => ⟨hIp k A i o o' h.1 (by omega) ha ho, (World.putObj_heap_other (by omega)).trans h.2.1, (World.putObj_heap_other (by omega)).trans h.2.2⟩) (fun k A i o o' h hi ha ho => by obtain ⟨c, h1, h2, h3⟩ := h; exact ⟨c, hIxp c k A i o o' h1 (by omega) ha ho, (World.putObj_heap_other (by omega)).trans h2, (World.putObj_heap_other (by omega)).trans h3⟩) ?_ ⟨i0, sL, sD⟩).mono ?_
  · rintro k A hk ⟨hi, hl, hd⟩ hKA
    have hlt : w.heap.size + 1 < A.heap.size := (Array.getElem?_eq_some_iff.1 hl).1
    have hy := run_yield (P := P) (args := arg k) hl (by rw [hR0]; exact hps k)
    have hbr := run_beginRound (P := P) hl (by rw [hR0])
    rw [hR0] at hy
    refine ⟨fn, _, assign, body, hy, roundIn_of_wpIn hfn (hassign _ k A _ ⟨_, hbr, ?_⟩)⟩
    obtain ⟨A1, hA1⟩ : ∃ A1, A1 = A.putObj (w.heap.size + 1) (.loop { R0 with state := .busy }) := ⟨_, rfl⟩
    have l1 : A1.heap[w.heap.size + 1]? = some (.loop { R0 with state := .busy }) := by rw [hA1]; exact World.putObj_heap_same hlt
    have d1 : A1.heap[w.heap.size]? = some (.deferred (some [])) := by rw [hA1]; exact (World.putObj_heap_other (by omega)).trans hd
    have b1 : Kp A A1 := by rw [hA1]; exact hKb A _
    have i1 : I k A1 := by rw [hA1]; exact hIp k A _ _ _ hi (by omega) hl rfl
    rw [← hA1]
    refine wpIn_mono (hbody _ k A1 hk i1 (hKt hKA b1) ⟨_, l1⟩ d1) ?_
    rintro e a3 A2 hp
    match e, hp with
    | .normal, ⟨⟨kd, kl⟩, kb, ki⟩ =>
      have l2 := kl.trans l1
      have d2 := kd.trans d1
      have hend := run_endRound (P := P) none l2
      refine ⟨_, _, hend, .inl ⟨rfl, ⟨hIp _ _ _ _ _ ki (by omega) l2 rfl, ?_, (World.putObj_heap_other (by omega)).trans d2⟩, hKt (hKt b1 kb) (hKb _ _)⟩⟩
      rw [World.putObj_heap_same (Array.getElem?_eq_some_iff.1 l2).1, hR0]
      rfl
    | .ret, ⟨⟨kd, kl⟩, kb, ki⟩ =>
      have l2 := kl.trans l1
      have d2 := kd.trans d1
      have hend := run_endRound (P := P) (some .ret) l2
      refine ⟨_, _, hend, .inr ⟨rfl, ⟨.ret, hIxp _ _ _ _ _ _ ki (by omega) l2 rfl, ?_, (World.putObj_heap_other (by omega)).trans d2⟩, hKt (hKt b1 kb) (hKb _ _)⟩⟩
      rw [World.putObj_heap_same (Array.getElem?_eq_some_iff.1 l2).1]
      rfl
    | .exit id, ⟨⟨kd, kl⟩, kb, ki⟩ =>
      have l2 := kl.trans l1
      have d2 := kd.trans d1
      have hend := run_endRound (P := P) (some (.exit id)) l2
      refine ⟨_, _, hend, .inr ⟨rfl, ⟨.exit id, hIxp _ _ _ _ _ _ ki (by omega) l2 rfl, ?_, (World.putObj_heap_other (by omega)).trans d2⟩, hKt (hKt b1 kb) (hKb _ _)⟩⟩
      rw [World.putObj_heap_same (Array.getElem?_eq_some_iff.1 l2).1]
      rfl
  · rintro e B ⟨⟨v, rfl⟩, (⟨hi, hl, hd⟩ | ⟨k, hk, c, hi, hl, hd⟩)⟩
    · have hend := run_endLoop (P := P) hl (by rw [hR0]; simp)
      exact ⟨none, _, by rw [hend, hR0], hdone _ (hIp _ _ _ _ _ hi (by omega) hl rfl) ((World.putObj_heap_other (by omega)).trans hd)⟩
    · have hend := run_endLoop (P := P) hl (by simp)
      exact ⟨some c, _, hend, hstop c k _ hk (hIxp _ _ _ _ _ _ hi (by omega) hl rfl) ((World.putObj_heap_other (by omega)).trans hd)⟩
end Go.Proofs.Ytbdgdigpnfpnhaa.Q
namespace Go.Proofs.Ytbdgdigpnfpnhaa.Q
open Go.RowKit

def noDefer (ops : Array Oper) : Bool := ops.all fun o => match o.op with | .defer _ => false | _ => true
theorem noDefer_spec {ops : Array Oper} (h : noDefer ops = true) {i : Nat} {o : Oper} (ho : ops[i]? = some o) : ∀ c, o.op ≠ .defer c := fun c e => by
  obtain ⟨hi, rfl⟩ := Array.getElem?_eq_some_iff.1 ho
  have := Array.all_eq_true.1 h i hi
  rw [e] at this
  cases this

section
variable {F : Fence} {n : Nat} {P : Program} {ops : Array Oper} {C : World → Prop}
theorem round_op {o : Oper} {a : Act} {K : Act → Prop} {K' : Act → World → Prop} {Q : Exit → Act → World → Prop} {w : World} (hd : ∀ c, o.op ≠ .defer c) (hw : C w) (h : ∀ a w', C w' → K a → K' a w')
    (ha : o.askedIn F P a C) (hh : o.quietIn F n P a C K) : o.wpIn F n P a w K' Q := by
  obtain ⟨v, h1, h2⟩ := hh
  refine ⟨ha w hw, ?_⟩
  have h3 : Oper.quietUponIn F n P C w v ((execOp a.eval o).run P w) := h1 w hw
  rw [Oper.semAt_plain F _ _ hd]
  revert h3
  rcases (execOp a.eval o).run P w with ⟨x, w'⟩ | ⟨x, w'⟩
  · cases x with
    | value u => rintro ⟨rfl, rfl⟩; exact h _ _ hw h2
    | skip => rintro ⟨rfl, rfl⟩; exact h _ _ hw h2
    | enter f args => rintro ⟨rfl, hr, hc⟩; exact ⟨hr, hc.mono fun e w'' ⟨he, hw2⟩ => by subst he; exact h _ _ hw2 h2⟩
    | _ => exact fun h3 => (h3 : False).elim
  · exact fun h3 => (h3 : False).elim
theorem round_any {Qf : Act → Prop} {Q : Exit → Act → World → Prop} (hd : noDefer ops = true) (hQ : ∀ a w, C w → Qf a → Q .normal a w) (fuel : Nat) :
    ∀ (listed : Array Bool) (a : Act) (w : World), C w → wpAnyQIn F n P .any ops C Qf fuel listed a → wpAnyIn F n P .any ops Q fuel listed a w := by
  induction fuel with
  | zero => exact fun _ _ _ hw h => ⟨h.1, hQ _ _ hw h.2⟩
  | succ fuel ih =>
    refine fun listed a w hw h => ⟨fun h0 => hQ _ _ hw (h.1 h0), fun i hi => ?_⟩
    have hq := h.2 i hi
    unfold qOpIn at hq
    unfold wpOpIn
    cases ho : ops[i]? with
    | none => rw [ho] at hq; exact ih _ _ _ hw hq
    | some o =>
      rw [ho] at hq
      obtain ⟨ha, hq⟩ := hq
      show if _ then _ else _
      cases hw2 : Region.wanted o (yielded ops a.tmps) with
      | true =>
        rw [hw2] at hq
        rw [if_pos rfl] at hq ⊢
        exact round_op (noDefer_spec hd ho) hw (fun a' w' hw' hk => ih _ a' w' hw' hk) ha hq
      | false =>
        rw [hw2] at hq
        rw [if_neg (by simp)] at hq ⊢
        exact ⟨ha w hw, ih _ _ _ hw hq⟩
theorem round_quiet {id : Nat} {Q : Exit → Act → World → Prop} {a : Act} {w : World} {l : List Oper} (hd : noDefer l.toArray = true) (hm : P.follows .mixedOrders = true) (hB : Region.lexB .any l.toArray = true)
    (h : wpQuietIn F n P l.toArray (fun w' => ∃ n, w' = w.drewN n) (fun a' => ∀ w', (∃ n, w' = w.drewN n) → Q .normal a' w') l a) : (Code.region id l.toArray true).wpIn F n P Q a w := by
  simp only [Region.lexB, Bool.and_eq_true] at hB
  refine wpIn_region_any hm (round_any (C := fun w' => ∃ n, w' = w.drewN n) (Qf := fun a' => ∀ w', (∃ n, w' = w.drewN n) → Q .normal a' w') hd (fun _ w' hw' h => h w' hw') _ _ _ _ ⟨1, rfl⟩ ?_)
  simpa using wpAnyQIn_lex (F := F) (n := n) (C := fun w' => ∃ n, w' = w.drewN n) (md := .any) hB.1 l 0 (Array.replicate l.toArray.size false) a (by simp) (by simpa using hB.2) h
end
end Go.Proofs.Ytbdgdigpnfpnhaa.Q
