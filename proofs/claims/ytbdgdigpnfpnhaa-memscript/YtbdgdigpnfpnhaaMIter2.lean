/-
  The entries of a memtable, one by one: the iterator that All answers.
-/
import Derived.Test.YtbdgdigpnfpnhaaMIter
namespace Go.Proofs.Ytbdgdigpnfpnhaa.Q.P
open Go.RowKit

/-- What stays while the entries are told: S, and what the iterator laid above N for itself. -/
def keepsObj : Obj → Bool
  | .cells _ t _ => t == 61 || t == 107
  | _ => true
structure KeepA (S : Nat → Prop) (N : Nat) (A B : World) : Prop where
  size : A.heap.size ≤ B.heap.size
  held : ∀ i, S i → B.heap[i]? = A.heap[i]?
  own : ∀ i o, N + 1 < i → A.heap[i]? = some o → keepsObj o = true → B.heap[i]? = some o
theorem KeepA.refl (S : Nat → Prop) (N : Nat) (A : World) : KeepA S N A A := ⟨Nat.le_refl _, fun _ _ => rfl, fun _ _ _ h _ => h⟩
theorem KeepA.trans {S : Nat → Prop} {N : Nat} {A B C : World} (h : KeepA S N A B) (k : KeepA S N B C) : KeepA S N A C :=
  ⟨Nat.le_trans h.size k.size, fun i hi => (k.held i hi).trans (h.held i hi), fun i o hi ha ho => k.own i o hi (h.own i o hi ha ho) ho⟩
theorem KeepA.later {S : Nat → Prop} {N : Nat} {A B : World} (h : Below A.heap.size A B) (hs : ∀ i, S i → i < A.heap.size) : KeepA S N A B :=
  ⟨h.size, fun i hi => h.block i (hs i hi), fun i _ _ ha _ => (h.block i (Array.getElem?_eq_some_iff.1 ha).1).trans ha⟩
theorem KeepA.put {S : Nat → Prop} (A : World) (N : Nat) (o' : Obj) (hs : ∀ i, S i → i ≠ N + 1) : KeepA S N A (A.putObj (N + 1) o') :=
  ⟨by simp [World.putObj], fun i hi => World.putObj_heap_other (hs i hi), fun i _ _ ha _ => (World.putObj_heap_other (by omega)).trans ha⟩
theorem KeepA.low {S : Nat → Prop} {N : Nat} {A B : World} (h : KeepA S N A B) {i : Nat} {o : Obj} (hi : N + 1 < i) (ha : A.heap[i]? = some o) (ho : keepsObj o = true) : B.heap[i]? = A.heap[i]? := (h.own i o hi ha ho).trans ha.symm

theorem leaves_one {A : World} {D n : Nat} {fn : Func} {tmps : Array Value} {v : Value} {R : Ending → World → Prop} (h1 : A.heap[D]? = some (.deferred (some []))) (hr : (results fn tmps).run Try.prog (A.putObj D (.deferred none)) = .ok v (A.putObj D (.deferred none))) (hR : R (.returned v) (A.putObj D (.deferred none))) :
    bodyPostM Fence.wide n Try.prog fn R .ret { tmps := tmps, defers := [{ target := .collected D, args := #[] }] } A :=
  ⟨by simp, .inl ⟨_, _, rfl, run_takeDeferred h1, v, hr, hR⟩⟩

theorem yield_wide {m m' : Nat} {L : Nat} {args : Array Value} {A : World} {R : Ending → World → Prop} (h : YieldAt Fence.wide m Try.prog L args A R) : YieldAt Fence.wide m' Try.prog L args A R := by
  obtain ⟨fn, tmps, assign, body, hy, hR⟩ := h
  exact ⟨fn, tmps, assign, body, hy, hR.1, fun c cs _ => hR.2 c cs (fun d hd => by cases hd)⟩

attribute [local go_sem] Oper.semAt_some

set_option maxRecDepth 100000 in
set_option maxHeartbeats 8000000 in
/-- The entries, one by one. -/
theorem all_hands (n Bf Bc c : Nat) (w0 : World) (l : List Mm.Nd) (S : Nat → Prop) (hf : w0.heap[Bf]? = some (.cells #[ptr l.head?] 61 (0, 0))) (hc : w0.heap[Bc]? = some (.cells #[.int .i64 (c : Int)] 3 (0, 0))) (ch : Chain w0 l) (ht : ∀ x ∈ l, 1 ≤ x.h ∧ x.num < c) (hn : (l.map (·.blk)).Nodup)
    (sf : S Bf) (sc : S Bc) (sl : ∀ x ∈ l, S x.blk) (slow : ∀ i, S i → i < w0.heap.size) :
    HandsK6 Fence.wide (n + 2) Try.prog 77 #[.pointer (some ⟨Bf, 0, none⟩), .pointer (some ⟨Bc, 0, none⟩)] l.length (KeepA S w0.heap.size) (fun k => #[(l[k]?.map fun x => entV x.ent).getD undef]) w0 := by
  intro L J Jx W hK hW hJ hJx hJp hXp hY h0
  have c1 : W.cell? ⟨Bf, 0, none⟩ = some (ptr l.head?) := Joins.cell_of_block ((hK.held Bf sf).trans hf) 0
  obtain ⟨pv, hpv⟩ : ∃ pv, ptr l.head? = .pointer pv := by cases l.head? <;> exact ⟨_, rfl⟩
  have LK := links_any
  rw [hpv] at c1
  have blt := slow Bf sf
  have z0 := hK.size
  refine callsIn_of_wp_marks Try.func77 rfl trivial ?_ rfl
  simp only [Try.ntmps77, List.size_toArray, List.length_cons, List.length_nil, Nat.reduceAdd, Nat.reduceSub, Array.replicate_succ, Array.replicate_zero, List.push_toArray, List.append_toArray, List.nil_append, List.cons_append]
  have c2 := fun o => keepC ((Below.refl W.heap.size W).alloc (Nat.le_refl _) o) c1
  have HY := hide hY
  have HJ := hide hJ
  have HX := hide hJx
  have HJp := hide hJp
  have HXp := hide hXp
  have HL := hide slow
  clear hY hJ hJx hJp hXp slow
  rw [wpIn_wide]
  go_wp2_with (first
    | (go_at_call 53; refine (LK _ _).mono ?_; rintro e w1 ⟨rfl, rfl⟩))
  obtain ⟨W2, hW2⟩ : ∃ W2, W2 = ((W.alloc (.cells #[.func (.yield L) #[] #[]] 107)).alloc (.cells #[.pointer pv] 61)) := ⟨_, rfl⟩
  have b2 : Below W.heap.size W W2 := by rw [hW2]; exact ((Below.refl _ _).alloc (Nat.le_refl _) _).alloc (by simp) _
  have y2 : W2.heap[W.heap.size]? = some (.cells #[.func (.yield L) #[] #[]] 107 (0, 0)) := by rw [hW2]; exact (Below.heap_alloc _ _ _ (by simp)).trans (World.alloc_heap_new W _)
  have l2 : W2.heap[W.heap.size + 1]? = some (.cells #[.pointer pv] 61 (0, 0)) := by
    have := World.alloc_heap_new (W.alloc (.cells #[.func (.yield L) #[] #[]] 107)) (.cells #[.pointer pv] 61)
    rw [World.size_alloc] at this
    rw [hW2]; exact this
  have z2 : W2.heap.size ≤ W.heap.size + 2 := by rw [hW2]; simp
  have z3 : W.heap.size + 2 ≤ W2.heap.size := by rw [hW2]; simp
  rw [← hW2]
  clear hW2 c2
  have k2 : KeepA S w0.heap.size w0 W2 := hK.trans (KeepA.later b2 (fun i hi => by have := HL.out i hi; omega))
  have HHK := links_hands (5 - 1) (W.heap.size + 1) W2 l (fun i => S i ∨ i = W.heap.size ∨ i = W.heap.size + 1) (by rw [hpv]; exact l2) (ch.same fun x hx => k2.held _ (sl x hx)) (fun x hx => (ht x hx).1) hn (.inr (.inr rfl)) (fun x hx => .inl (sl x hx))
  have CHK : Hid (∀ A, KeepA S w0.heap.size w0 A → Chain A l ∧ A.cell? ⟨Bc, 0, none⟩ = some (.int .i64 (c : Int))) := fun A hA => ⟨ch.same fun x hx => hA.held _ (sl x hx), Joins.cell_of_block ((hA.held Bc sc).trans hc) 0⟩
  have TL := hide ht
  have j2 : J 0 W2 := HJ.out _ _ _ h0 (grown_any b2)
  clear hf hc ch hn ht h0
  rw [← wpIn_wide (n := 5)]
  refine wpIn_handsK6 rfl (by decide) (gf := 75) (lb := #[.pointer (some ⟨W.heap.size + 1, 0, none⟩)]) rfl trivial (enters_of Try.func75 (by kernel_rfl) rfl) HHK (KeepK.refl _ _) (fun h k => h.trans k) (fun A o hA => KeepK.later ((Below.refl _ _).alloc (Nat.le_refl _) _) (fun i hi => by
      rcases hi with hi | hi | hi
      · have := HL.out i hi; omega
      · omega
      · omega)) (fun A o => KeepK.put A _ o (fun i hi => by
      rcases hi with hi | hi | hi
      · have := HL.out i hi; omega
      · omega
      · omega)) (fun _ => rfl)
    (fun k A => J k A ∧ KeepA S w0.heap.size w0 A ∧ A.heap[W.heap.size]? = some (.cells #[.func (.yield L) #[] #[]] 107 (0, 0)))
    (fun co k A => co = .ret ∧ Jx k A)
    (fun k A B h hg => ⟨HJ.out _ _ _ h.1 hg, h.2.1.trans ⟨hg.size, fun i hi => hg.block i (by have := HL.out i hi; have := h.2.1.size; omega) (by simp), fun i o _ ha _ => (hg.block i (Array.getElem?_eq_some_iff.1 ha).1 (by simp)).trans ha⟩, (hg.block _ (Array.getElem?_eq_some_iff.1 h.2.2).1 (by simp)).trans h.2.2⟩)
    (fun co k A B h hg => ⟨h.1, HX.out _ _ _ h.2 hg⟩)
    (fun k A i o o' h hi ha ho => ⟨HJp.out _ _ _ _ _ h.1 (by omega) ha ho, ⟨by have := h.2.1.size; simpa [World.putObj] using this, fun i' hi' => (World.putObj_heap_other (by have := HL.out i' hi'; omega)).trans (h.2.1.held i' hi'), fun i' o1 hi' h1 _ => by have := (Array.getElem?_eq_some_iff.1 h1).1; omega⟩, (World.putObj_heap_other (by omega)).trans h.2.2⟩)
    (fun co k A i o o' h hi ha ho => ⟨h.1, HXp.out _ _ _ _ _ h.2 (by omega) ha ho⟩)
    (fun o => by
      have bb : Below W2.heap.size W2 ((W2.alloc (.deferred (some []))).alloc o) := ((Below.refl _ _).alloc (Nat.le_refl _) _).alloc (by simp) _
      exact ⟨HJ.out _ _ _ j2 (grown_any bb), k2.trans (KeepA.later bb (fun i hi => by have := HL.out i hi; omega)), keepB bb y2⟩) ?_ ?_ ?_ ?_ ?_
  rotate_left
  · intro L' k A K hK
    gi_wp2_with (fail)
    exact hK
  · rintro L' k A hk ⟨jA, kA, yA⟩ hKp ⟨rl, hl1⟩ hd1
    have lA := (hKp.2 (W.heap.size + 1) (.inr (.inr rfl))).trans l2
    have en : l[k]? = some l[k] := List.getElem?_eq_getElem hk
    obtain ⟨chA, cA⟩ := CHK.out A kA
    have e : l = l.take k ++ l[k] :: l.drop (k + 1) := by rw [List.getElem_cons_drop, List.take_append_drop]
    have ch' : Chain A (l.take k ++ l[k] :: l.drop (k + 1)) := by rw [← e]; exact chA
    obtain ⟨q0, q1, q2, q3, q4⟩ := ch'.cells
    have hnum : (l[k].num : Int) < (c : Int) := by have := (TL.out _ (List.getElem_mem hk)).2; omega
    have yc := Joins.cell_of_block yA 0
    have kd : KeepA S w0.heap.size w0 A.drew := kA.trans ⟨Nat.le_refl _, fun _ _ => rfl, fun _ _ _ h _ => h⟩
    have jd : J k A.drew := HJ.out _ _ _ jA ⟨rfl, rfl, rfl, Nat.le_refl _, fun _ _ _ => rfl⟩
    have Y1 := HY.out k A.drew hk jd kd
    simp only [en, Option.map_some, Option.getD_some] at Y1
    obtain ⟨yf, yt, ya, yb, hy, hR⟩ := yield_wide (m' := 5 - 1 - 1 - 1) Y1
    clear Y1
    have HR : Hid (RoundIn (Fence.wide.inRound L') 2 Try.prog L yf yt ya yb A.drew fun e B => ∃ cb, e = .returned (.bool cb) ∧ KeepA S w0.heap.size A.drew B ∧ Hid ((cb = true → J (k + 1) B) ∧ (cb = false → Jx (k + 1) B))) := by
      refine RoundIn.mono hR ?_
      rintro e B (⟨rfl, h1, h2⟩ | ⟨rfl, h1, h2⟩)
      · exact ⟨true, rfl, h2, (fun _ => h1), (fun h => by cases h)⟩
      · exact ⟨false, rfl, h2, (fun h => by cases h), (fun _ => h1)⟩
    clear hR
    simp only [en, show ptr (some l[k]) = Value.pointer (some ⟨l[k].blk, 0, none⟩) from rfl]
    generalize l[k] = x at *
    clear e ch' chA CHK HHK TL HJ HX HJp HXp HY en
    have FI : Hid (∀ W3, KeepA S w0.heap.size A.drew W3 → Hid ((W3.heap[W2.heap.size]? = A.heap[W2.heap.size]? ∧ W3.heap[W2.heap.size + 1]? = A.heap[W2.heap.size + 1]?) ∧ KeepK (fun i => S i ∨ i = W.heap.size ∨ i = W.heap.size + 1) A W3 ∧ KeepA S w0.heap.size w0 W3 ∧ W3.heap[W.heap.size]? = some (.cells #[.func (.yield L) #[] #[]] 107 (0, 0)))) := fun W3 k3 => by
      refine ⟨⟨(k3.own _ _ (by omega) hd1 rfl).trans hd1.symm, (k3.own _ _ (by omega) hl1 rfl).trans hl1.symm⟩, ⟨k3.size, fun i hi => ?_⟩, kd.trans k3, k3.own _ _ (by omega) yA rfl⟩
      rcases hi with hi | rfl | rfl
      · exact k3.held i hi
      · exact (k3.own _ _ (by omega) yA rfl).trans yA.symm
      · exact (k3.own _ _ (by omega) lA rfl).trans lA.symm
    clear hd1 hl1 lA l2 yA kA jA kd jd hKp
    gi_wp2_with (fail)
    gi_region_with (first | (refine HR.out.mono ?_; rintro e W3 ⟨cb, rfl, k3, hp⟩))
    all_goals
      cases cb
      · have hx := hp.out.2 rfl
        have FIN := FI.out W3 k3
        clear HR
        gi_wp2_with (fail)
        exact ⟨FIN.out.1, FIN.out.2.1, rfl, hx⟩
      · have hx := hp.out.1 rfl
        have FIN := FI.out W3 k3
        clear HR
        gi_wp2_with (fail)
        exact ⟨FIN.out.1, FIN.out.2.1, hx, FIN.out.2.2.1, FIN.out.2.2.2⟩
  · rintro B ⟨hj, hk, hyb⟩ hd
    have J9 := hide (HJp.out _ _ _ _ (.deferred none) hj (by omega) hd rfl)
    clear HHK CHK TL HJ HX HJp HXp HY
    gi_wp2_with (fail)
    exact leaves_one hd (v := .tuple #[]) (by simp [results, Try.results77, go_sem]) ⟨⟨_, rfl⟩, .inl J9.out⟩
  · rintro co k B hk ⟨rfl, hx⟩ hd
    have J9 := hide (HXp.out _ _ _ _ (.deferred none) hx (by omega) hd rfl)
    clear HHK CHK TL HJ HX HJp HXp HY
    gi_wp2_with (fail)
    exact leaves_one hd (v := .tuple #[]) (by simp [results, Try.results77, go_sem]) ⟨⟨_, rfl⟩, .inr ⟨k, hk, J9.out⟩⟩
end Go.Proofs.Ytbdgdigpnfpnhaa.Q.P
