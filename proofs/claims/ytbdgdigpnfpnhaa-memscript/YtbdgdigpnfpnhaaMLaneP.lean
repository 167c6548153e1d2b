/-
  The places of a lane's entries: how it stands between two nodes.
-/
import Derived.Test.YtbdgdigpnfpnhaaMLives
import Derived.RegionIn
namespace Go.Proofs.Ytbdgdigpnfpnhaa.Q.P
open Go.RowKit

attribute [local go_sem] Oper.semAt_some

end Go.Proofs.Ytbdgdigpnfpnhaa.Q.P
namespace Go.Proofs.Ytbdgdigpnfpnhaa.Q.Mm
/-- The places, from s on, of the entries whose towers are h or more. -/
def places (h : Nat) : Nat → List It → List Nat
  | _, [] => []
  | s, x :: r => if h ≤ x.2 then s :: places h (s + 1) r else places h (s + 1) r
theorem places_snoc (h : Nat) (l : List It) (x : It) : ∀ s, places h s (l ++ [x]) = places h s l ++ (if h ≤ x.2 then [s + l.length] else []) := by
  induction l with
  | nil => intro s; simp [places]
  | cons y r ih =>
    intro s
    rw [List.cons_append, places, places, ih (s + 1), List.length_cons]
    have : s + 1 + r.length = s + (r.length + 1) := by omega
    split <;> simp [this]
theorem places_len (h : Nat) (l : List It) : ∀ s, (places h s l).length ≤ l.length := by
  induction l with
  | nil => intro s; exact Nat.le_refl _
  | cons y r ih =>
    intro s
    rw [places, List.length_cons]
    have := ih (s + 1)
    split
    · rw [List.length_cons]; omega
    · omega
theorem places_take (h : Nat) (l : List It) (k : Nat) (hk : k < l.length) : places h 0 (l.take (k + 1)) = places h 0 (l.take k) ++ (if h ≤ l[k].2 then [k] else []) := by
  rw [List.take_succ_eq_append_getElem hk, places_snoc, List.length_take, Nat.min_eq_left (by omega), Nat.zero_add]
end Go.Proofs.Ytbdgdigpnfpnhaa.Q.Mm
namespace Go.Proofs.Ytbdgdigpnfpnhaa.Q.P
open Go.RowKit
def ncs (l : List Nat) : List Value := l.map fun (n : Nat) => Value.int .i64 (n : Int)

/-- How it stands behind k nodes. -/
structure LaneIn (w W : World) (ns : List Mm.Nd) (h : Nat) (Bp Bn : Nat) (k : Nat) (A : World) : Prop where
  out : ∃ v, Boxed A (w.heap.size + 1) 22 v ∧ A.ownsRow W.heap.size 3 1 v (Mm.places (h + 1) 0 ((ns.map Mm.it).take k)).length (ncs (Mm.places (h + 1) 0 ((ns.map Mm.it).take k)))
  hgt : Boxed A w.heap.size 3 (.int .i64 ((h : Int) + 1))
  place : Boxed A Bp 3 (.int .i64 (k : Int))
  next : Boxed A Bn 61 (ptr (Mm.nxt h (ns.drop k)))
  below : Below w.heap.size w A
theorem LaneIn.grown {w W : World} {ns : List Mm.Nd} {h Bp Bn k : Nat} {A B : World} (x : LaneIn w W ns h Bp Bn k A) (hg : A.grownBy B none) : LaneIn w W ns h Bp Bn k B := by
  obtain ⟨v, h1, h2⟩ := x.out
  exact ⟨⟨v, h1.kept hg (by simp), own_same h2 fun g hv => hg.block g (own_lt h2 g hv) (by simp)⟩, x.hgt.kept hg (by simp), x.place.kept hg (by simp), x.next.kept hg (by simp), x.below.grown hg x.below.size (fun _ e => by cases e)⟩
theorem LaneIn.put {w W : World} {ns : List Mm.Nd} {h Bp Bn k : Nat} {A : World} (x : LaneIn w W ns h Bp Bn k A) {i : Nat} {o : Obj} (o' : Obj) (hi : w.heap.size + 1 < i) (hp : i ≠ Bp) (hn : i ≠ Bn) (ha : A.heap[i]? = some o) (ho : o.isCells = false) : LaneIn w W ns h Bp Bn k (A.putObj i o') := by
  obtain ⟨v, h1, h2⟩ := x.out
  exact ⟨⟨v, (World.putObj_heap_other (by omega)).trans h1, ownsRow_putObj h2 o' ha ho⟩, (World.putObj_heap_other (by omega)).trans x.hgt, (World.putObj_heap_other (Ne.symm hp)).trans x.place, (World.putObj_heap_other (Ne.symm hn)).trans x.next, x.below.trans ⟨rfl, rfl, rfl, by simp [World.putObj], fun j hj => World.putObj_heap_other (by omega)⟩⟩

theorem LaneIn.ofHeap {w W : World} {ns : List Mm.Nd} {h Bp Bn k : Nat} {Y Z : World} (x : LaneIn w W ns h Bp Bn k Y) (hh : Z.heap = Y.heap) (ho : Z.os = Y.os) (ht : Z.tape = Y.tape) (hp : Z.output = Y.output) : LaneIn w W ns h Bp Bn k Z :=
  x.grown ⟨ho, ht, hp, by rw [hh]; exact Nat.le_refl _, fun i _ _ => by rw [hh]⟩
theorem nxt_off {h k : Nat} {ns : List Mm.Nd} (hk : k < ns.length) (ho : Mm.on h ns[k] = false) : Mm.nxt h (ns.drop k) = Mm.nxt h (ns.drop (k + 1)) := by
  rw [← List.getElem_cons_drop hk]
  unfold Mm.nxt
  rw [List.find?_cons, ho]
theorem nxt_on {h k : Nat} {ns : List Mm.Nd} (hk : k < ns.length) (ho : Mm.on h ns[k] = true) : Mm.nxt h (ns.drop k) = some ns[k] := by
  rw [← List.getElem_cons_drop hk]
  unfold Mm.nxt
  rw [List.find?_cons, ho]
theorem places_step {h k : Nat} {ns : List Mm.Nd} (hk : k < ns.length) : Mm.places (h + 1) 0 ((ns.map Mm.it).take (k + 1)) = Mm.places (h + 1) 0 ((ns.map Mm.it).take k) ++ (if Mm.on h ns[k] then [k] else []) := by
  rw [Mm.places_take _ _ _ (by simpa using hk), List.getElem_map]
  congr 1
  have : (Mm.it ns[k]).2 = ns[k].h := rfl
  rw [this]
  unfold Mm.on
  by_cases hh : h < ns[k].h
  · rw [decide_eq_true hh, if_pos (by omega : h + 1 ≤ ns[k].h), if_pos rfl]
  · rw [decide_eq_false hh, if_neg (by omega : ¬ h + 1 ≤ ns[k].h), if_neg (by simp)]

/-- A node that is not of the lane. -/
theorem LaneIn.off {w W : World} {ns : List Mm.Nd} {h Bp Bn k : Nat} {A : World} (x : LaneIn w W ns h Bp Bn k A) (hk : k < ns.length) (ho : Mm.on h ns[k] = false) (p1 : w.heap.size + 1 < Bp) (p2 : Bp ≠ Bn) (p3 : Bp < W.heap.size) : LaneIn w W ns h Bp Bn (k + 1) (A.setCell ⟨Bp, 0, none⟩ (.int .i64 ((k + 1 : Nat) : Int))) := by
  obtain ⟨v, h1, h2⟩ := x.out
  have rowG : ∀ g, v.ownBlock = some g → W.heap.size ≤ g := fun g hg => by
    rcases h2.2 with ⟨rfl, _⟩ | ⟨g', cap, cur, rfl, h3, _⟩
    · cases hg
    · cases hg; exact h3
  refine ⟨⟨v, h1.other (by omega) _, ?_⟩, x.hgt.other (by omega) _, x.place.set _, ?_, x.below.setCell (p := ⟨Bp, 0, none⟩) (by show w.heap.size ≤ Bp; omega) _⟩
  · rw [places_step hk, ho, if_neg (by simp), List.append_nil]
    exact own_same h2 fun g hg => heap_setCell_other _ _ _ _ (by have := rowG g hg; show g ≠ Bp; omega)
  · rw [← nxt_off hk ho]
    exact x.next.other (Ne.symm p2) _

/-- A node of the lane, behind the append. -/
theorem LaneIn.on {w W : World} {ns : List Mm.Nd} {h Bp Bn k : Nat} {A : World} (x : LaneIn w W ns h Bp Bn k A) (hk : k < ns.length) (ho : Mm.on h ns[k] = true) (p1 : w.heap.size + 1 < Bp) (p2 : Bp ≠ Bn) (p3 : Bp < W.heap.size) (p4 : w.heap.size + 1 < Bn) (p5 : Bn < W.heap.size) (S : Nat → Prop) (hS : ∀ i, S i → i < W.heap.size ∧ i ≠ w.heap.size ∧ i ≠ w.heap.size + 1 ∧ i ≠ Bp ∧ i ≠ Bn) (zA : W.heap.size ≤ A.heap.size)
    (rl : Loop) (hl1 : A.heap[W.heap.size + 1]? = some (.loop rl)) (hd1 : A.heap[W.heap.size]? = some (.deferred (some []))) (v v' : Value) (tmp : Obj) (w1 : World) (n : Nat) (hv : Boxed A (w.heap.size + 1) 22 v) (hr : A.ownsRow W.heap.size 3 1 v n (ncs (Mm.places (h + 1) 0 ((ns.map Mm.it).take k)))) (hn : n = (Mm.places (h + 1) 0 ((ns.map Mm.it).take k)).length)
    (h1 : w1.ownsRow W.heap.size 3 1 v' (n + 1) (ncs (Mm.places (h + 1) 0 ((ns.map Mm.it).take k)) ++ [.int .i64 (k : Int)])) (h2 : (A.alloc tmp).grownBy w1 v.ownBlock) :
    Boxed w1 (w.heap.size + 1) 22 v ∧ (∀ Y1, Y1 = w1.setCell ⟨w.heap.size + 1, 0, none⟩ v' → Boxed Y1 w.heap.size 3 (.int .i64 ((h : Int) + 1)) ∧ Boxed Y1 Bp 3 (.int .i64 (k : Int)) ∧ Boxed Y1 Bn 61 (ptr (Mm.nxt h (ns.drop k))) ∧ (∀ i, S i → Y1.heap[i]? = A.heap[i]?)
      ∧ ∀ Y2, Y2.heap = (Y1.setCell ⟨Bn, 0, none⟩ (ptr (Mm.nxt h (ns.drop (k + 1))))).heap → Y2.os = Y1.os → Y2.tape = Y1.tape → Y2.output = Y1.output → Boxed Y2 Bp 3 (.int .i64 (k : Int)) ∧ LaneIn w W ns h Bp Bn (k + 1) (Y2.setCell ⟨Bp, 0, none⟩ (.int .i64 ((k : Int) + 1))) ∧ KeepK S A (Y2.setCell ⟨Bp, 0, none⟩ (.int .i64 ((k : Int) + 1))) ∧ (Y2.setCell ⟨Bp, 0, none⟩ (.int .i64 ((k : Int) + 1))).heap[W.heap.size]? = A.heap[W.heap.size]? ∧ (Y2.setCell ⟨Bp, 0, none⟩ (.int .i64 ((k : Int) + 1))).heap[W.heap.size + 1]? = A.heap[W.heap.size + 1]?) := by
  have rowG : ∀ g, v.ownBlock = some g → W.heap.size ≤ g ∧ ∃ cur fr, A.heap[g]? = some (.cells cur 3 fr) := fun g hg => by
    rcases hr.2 with ⟨rfl, _⟩ | ⟨g', cap, cur, rfl, h3, h4, _⟩
    · cases hg
    · cases hg; exact ⟨h3, cur, _, h4⟩
  have far : ∀ i o, A.heap[i]? = some o → (∀ g, v.ownBlock = some g → i ≠ g) → w1.heap[i]? = some o := fun i o ho hne => by
    have hlt := (Array.getElem?_eq_some_iff.1 ho).1
    exact (h2.block i (by simp; omega) (fun e => hne i e.symm rfl)).trans ((Below.heap_alloc _ _ _ hlt).trans ho)
  have low : ∀ i o, A.heap[i]? = some o → i < W.heap.size → w1.heap[i]? = some o := fun i o ho hi => far i o ho (fun g hg => by have := (rowG g hg).1; omega)
  have rowN : ∀ g, v'.ownBlock = some g → W.heap.size ≤ g := fun g hg => by
    rcases h1.2 with ⟨e, _⟩ | ⟨g', cap, cur, e, h3, _⟩
    · rw [e] at hg; cases hg
    · rw [e] at hg; cases hg; exact h3
  have wz : w.heap.size ≤ A.heap.size := x.below.size
  have fd : w1.heap[W.heap.size]? = some (.deferred (some [])) := far _ _ hd1 (fun g hg e => by obtain ⟨_, cur, fr, h3⟩ := rowG g hg; rw [← e, hd1] at h3; cases h3)
  have fl : w1.heap[W.heap.size + 1]? = some (.loop rl) := far _ _ hl1 (fun g hg e => by obtain ⟨_, cur, fr, h3⟩ := rowG g hg; rw [← e, hl1] at h3; cases h3)
  have b1 : Boxed w1 (w.heap.size + 1) 22 v := low _ _ hv (by omega)
  have bel1 : Below w.heap.size w w1 := (x.below.alloc wz tmp).grown h2 (by simp; omega) (fun g hg => by have := (rowG g hg).1; omega)
  refine ⟨b1, fun Y1 hY1 => ?_⟩
  have o1 : ∀ i, i ≠ w.heap.size + 1 → Y1.heap[i]? = w1.heap[i]? := fun i hi => by rw [hY1]; exact heap_setCell_other _ _ _ _ hi
  have y0 : Boxed Y1 w.heap.size 3 (.int .i64 ((h : Int) + 1)) := (o1 _ (by omega)).trans (low _ _ x.hgt (by omega))
  have yp : Boxed Y1 Bp 3 (.int .i64 (k : Int)) := (o1 _ (by omega)).trans (low _ _ x.place p3)
  have yn : Boxed Y1 Bn 61 (ptr (Mm.nxt h (ns.drop k))) := (o1 _ (by omega)).trans (low _ _ x.next p5)
  have ys : ∀ i, S i → Y1.heap[i]? = A.heap[i]? := fun i hi => by
    obtain ⟨s1, s2, s3, _⟩ := hS i hi
    rw [o1 i s3, show A.heap[i]? = some A.heap[i] from Array.getElem?_eq_getElem (by omega)]
    exact low i _ (Array.getElem?_eq_getElem (by omega)) s1
  have yo : Boxed Y1 (w.heap.size + 1) 22 v' := by rw [hY1]; exact b1.set v'
  have bel2 : Below w.heap.size w Y1 := by rw [hY1]; exact bel1.setCell (p := ⟨w.heap.size + 1, 0, none⟩) (by show w.heap.size ≤ w.heap.size + 1; omega) _
  refine ⟨y0, yp, yn, ys, fun Y2 hh ho' ht hp => ?_⟩
  have o2 : ∀ i, i ≠ Bn → Y2.heap[i]? = Y1.heap[i]? := fun i hi => by rw [hh]; exact heap_setCell_other _ _ _ _ hi
  have y2n : Boxed Y2 Bn 61 (ptr (Mm.nxt h (ns.drop (k + 1)))) := by show Y2.heap[Bn]? = _; rw [hh]; exact yn.set _
  have bel3 : Below w.heap.size w Y2 := by
    have := bel2.setCell (p := ⟨Bn, 0, none⟩) (by show w.heap.size ≤ Bn; omega) (ptr (Mm.nxt h (ns.drop (k + 1))))
    exact ⟨ho'.trans this.os, ht.trans this.tape, hp.trans this.output, by rw [hh]; exact this.size, fun i hi => by rw [hh]; exact this.block i hi⟩
  have o3 : ∀ u i, i ≠ Bp → (Y2.setCell ⟨Bp, 0, none⟩ u).heap[i]? = Y2.heap[i]? := fun u i hi => heap_setCell_other _ _ _ _ hi
  have y2p : Boxed Y2 Bp 3 (.int .i64 (k : Int)) := (o2 _ p2).trans yp
  have e1 : ((k + 1 : Nat) : Int) = (k : Int) + 1 := by omega
  refine ⟨y2p, ⟨⟨v', (o3 _ _ (by omega)).trans ((o2 _ (by omega)).trans yo), ?_⟩, (o3 _ _ (by omega)).trans ((o2 _ (by omega)).trans y0), by rw [e1]; exact y2p.set _, (o3 _ _ (Ne.symm p2)).trans y2n, bel3.setCell (p := ⟨Bp, 0, none⟩) (by show w.heap.size ≤ Bp; omega) _⟩, ⟨?_, fun i hi => ?_⟩, ?_, ?_⟩
  · rw [places_step hk, ho, if_pos rfl, List.length_append, ← hn]
    have : ncs (Mm.places (h + 1) 0 ((ns.map Mm.it).take k) ++ [k]) = ncs (Mm.places (h + 1) 0 ((ns.map Mm.it).take k)) ++ [.int .i64 (k : Int)] := by simp [ncs]
    rw [this]
    exact own_same h1 fun g hg => by
      have := rowN g hg
      rw [o3 _ g (by omega), o2 g (by omega), o1 g (by omega)]
  · have := bel1.size
    have q1 := h2.size
    simp at q1
    have q2 : Y2.heap.size = w1.heap.size := by rw [hh, hY1]; simp
    simp
    omega
  · obtain ⟨s1, s2, s3, s4, s5⟩ := hS i hi
    rw [o3 _ i s4, o2 i s5]
    exact ys i hi
  · rw [o3 _ _ (by omega), o2 _ (by omega), o1 _ (by omega), fd, hd1]
  · rw [o3 _ _ (by omega), o2 _ (by omega), o1 _ (by omega), fl, hl1]

theorem lane_w1 (w : World) (a b c d : Obj) (W1 : World) (h : W1 = ((((w.alloc a).alloc b).alloc c).alloc d).drew) : W1.heap[w.heap.size]? = some a ∧ W1.heap[w.heap.size + 1]? = some b ∧ W1.heap[w.heap.size + 1 + 1]? = some c ∧ W1.heap[w.heap.size + 1 + 1 + 1]? = some d ∧ Below w.heap.size w W1 ∧ W1.heap.size = w.heap.size + 4 := by
  obtain ⟨a1, a2, a6⟩ := two_new w a b
  obtain ⟨a3, a4, a5⟩ := two_new ((w.alloc a).alloc b) c d
  rw [World.size_alloc, World.size_alloc] at a3 a4
  rw [h]
  exact ⟨keepB a5.drew a1, keepB a5.drew a2, a3, a4, (a6.trans (a5.mono (by simp; omega))).drew, by show ((((w.alloc a).alloc b).alloc c).alloc d).heap.size = _; simp⟩

end Go.Proofs.Ytbdgdigpnfpnhaa.Q.P
