/-
  A table's bytes in plain words; what Build has while it goes through the pieces. .. and what follows from it.
-/
import Derived.Test.YtolalicliojkfaaGreatSChunk
import Derived.Test.YtolalicliojkfaaGreatSPut
import Derived.Test.YtolalicliojkfaaGreatSN
import Derived.Test.YtolalicliojkfaaGreatSChk
namespace Go.Proofs.YtolalicliojkfaaGreat
open Go.RowKit
namespace Ss
open Mm (Ent)
def piece (l : List Ent) (p k : Nat) : List Ent := (l.drop (k * p)).take p
def lastOf (l : List Ent) : Ent := l.getLastD ⟨[], [], 0, false⟩
/-- The frames of the first k blocks, and what the index says of them. -/
def outB (l : List Ent) (p : Nat) : Nat → Bs
  | 0 => []
  | k + 1 => outB l p k ++ frm (Bk.blockB (piece l p k))
def cnt (l : List Ent) (p : Nat) : Nat := (l.length + p - 1) / p
def idxB (l : List Ent) (p : Nat) : Nat → Bs
  | 0 => Enc.leb (cnt l p)
  | k + 1 => idxB l p k ++ partB ((Bk.blockB (piece l p k)).length + 12) (lastOf (piece l p k)).key (lastOf (piece l p k)).seq.toNat
def keysB (l : List Ent) : List Bs := l.map (·.key)
def b1 (l : List Ent) (p : Nat) : Bs := outB l p (cnt l p)
def b2 (l : List Ent) (p d : Nat) : Bs := b1 l p ++ frm (Bm.filt (keysB l) d)
def b3 (l : List Ent) (p d : Nat) : Bs := b2 l p d ++ frm (idxB l p (cnt l p))
/-- The bytes of a table. -/
def buildB (l : List Ent) (p d : Nat) : Bs := b3 l p d ++ frm (rec3 (b1 l p).length (b2 l p d).length l.length)
end Ss

/-- Nothing below Z has turned but blocks of S. -/
structure Kb (S : Nat → Prop) (Z : Nat) (A B : World) : Prop where
  os : B.os = A.os
  tape : B.tape = A.tape
  output : B.output = A.output
  size : A.heap.size ≤ B.heap.size
  block : ∀ k, k < Z → ¬ S k → B.heap[k]? = A.heap[k]?
theorem Kb.refl (S : Nat → Prop) (Z : Nat) (A : World) : Kb S Z A A := ⟨rfl, rfl, rfl, Nat.le_refl _, fun _ _ _ => rfl⟩
theorem Kb.trans {S : Nat → Prop} {Z : Nat} {A B C : World} (h : Kb S Z A B) (k : Kb S Z B C) : Kb S Z A C := ⟨k.os.trans h.os, k.tape.trans h.tape, k.output.trans h.output, Nat.le_trans h.size k.size, fun i h1 h2 => (k.block i h1 h2).trans (h.block i h1 h2)⟩
theorem Kb.later {S : Nat → Prop} {Z : Nat} {A B : World} (hZ : Z ≤ A.heap.size) (b : Below A.heap.size A B) : Kb S Z A B := ⟨b.os, b.tape, b.output, b.size, fun i h1 _ => b.block i (by omega)⟩
theorem Kb.grown {S : Nat → Prop} {Z : Nat} {A B : World} (hZ : Z ≤ A.heap.size) (b : A.grownBy B none) : Kb S Z A B := ⟨b.os, b.tape, b.output, b.size, fun i h1 _ => b.block i (by omega) (by simp)⟩
theorem Kb.drew (S : Nat → Prop) (Z : Nat) (A : World) : Kb S Z A A.drew := ⟨rfl, rfl, rfl, Nat.le_refl _, fun _ _ _ => rfl⟩
theorem Kb.put (S : Nat → Prop) (Z : Nat) (A : World) (o : Obj) : Kb S Z A (A.putObj (Z + 1) o) := ⟨rfl, rfl, rfl, by simp [World.putObj], fun i h1 _ => World.putObj_heap_other (by omega)⟩

abbrev ixO (v : Value) : Obj := .cells #[v] 26 (0, 0)
def bS (Wb Ib gi : Nat) : Nat → Prop := fun i => i = Wb ∨ i = Ib ∨ i = gi
/-- What Build has: the frames so far, the index so far. -/
structure BuV (w0 A : World) (Z Wb Ib gi : Nat) (vo vi : Value) (o x : List UInt8) : Prop where
  wr : A.heap[Wb]? = some (wrO vo)
  ix : A.heap[Ib]? = some (ixO vi)
  ownO : A.ownsRow w0.heap.size 5 1 vo o.length (bc o)
  ownX : A.ownsRow w0.heap.size 5 1 vi x.length (bc x)
  offO : ∀ i, vo.ownBlock = some i → Z + 1 < i
  offX : ∀ i, vi.ownBlock = some i → i = gi ∨ Z + 1 < i
  apart : ∀ i, vo.ownBlock = some i → vi.ownBlock ≠ some i
  nums : (Wb < Z ∧ Ib < Z ∧ gi < Z) ∧ (Wb ≠ Ib ∧ gi ≠ Wb ∧ gi ≠ Ib) ∧ (w0.heap.size ≤ Wb ∧ w0.heap.size ≤ Ib ∧ w0.heap.size ≤ gi)
theorem own_kept {w w' : World} {base e size n : Nat} {v : Value} {xs : List Value} (h : w.ownsRow base e size v n xs) (hk : ∀ i, v.ownBlock = some i → w'.heap[i]? = w.heap[i]?) : w'.ownsRow base e size v n xs := by
  refine ⟨h.1, ?_⟩
  rcases h.2 with h0 | ⟨g, cap, cur, rfl, hb, hg, hr⟩
  · exact .inl h0
  · exact .inr ⟨g, cap, cur, rfl, hb, (hk g rfl).trans hg, hr⟩
theorem BuV.later {w0 A B : World} {Z Wb Ib gi : Nat} {vo vi : Value} {o x : List UInt8} (h : BuV w0 A Z Wb Ib gi vo vi o x) (b : Below A.heap.size A B) : BuV w0 B Z Wb Ib gi vo vi o x :=
  ⟨keepB b h.wr, keepB b h.ix, own_after h.ownO b, own_after h.ownX b, h.offO, h.offX, h.apart, h.nums⟩
theorem BuV.grown {w0 A B : World} {Z Wb Ib gi : Nat} {vo vi : Value} {o x : List UInt8} (h : BuV w0 A Z Wb Ib gi vo vi o x) (b : A.grownBy B none) : BuV w0 B Z Wb Ib gi vo vi o x :=
  h.later ⟨b.os, b.tape, b.output, b.size, fun i hi => b.block i hi (by simp)⟩
theorem BuV.putO {w0 A : World} {Z Wb Ib gi D : Nat} {vo vi : Value} {o x : List UInt8} (h : BuV w0 A Z Wb Ib gi vo vi o x) (hD : D = Z ∨ D = Z + 1) (u : Obj) : BuV w0 (A.putObj D u) Z Wb Ib gi vo vi o x := by
  obtain ⟨⟨n1, n2, n3⟩, _, _⟩ := h.nums
  have hne : ∀ i, i < Z → (A.putObj D u).heap[i]? = A.heap[i]? := fun i hi => World.putObj_heap_other (by omega)
  refine ⟨(hne _ n1).trans h.wr, (hne _ n2).trans h.ix, own_kept h.ownO (fun i hi => ?_), own_kept h.ownX (fun i hi => ?_), h.offO, h.offX, h.apart, h.nums⟩
  · have := h.offO i hi
    exact World.putObj_heap_other (by omega)
  · rcases h.offX i hi with e | e
    · exact hne i (by omega)
    · exact World.putObj_heap_other (by omega)
theorem BuV.put {w0 A B : World} {Z Wb Ib gi : Nat} {vo vi : Value} {o x q : List UInt8} (h : BuV w0 A Z Wb Ib gi vo vi o x) (hz : Z + 1 < A.heap.size) (p : PutAns A w0.heap.size Wb vo q B) : ∃ vo', BuV w0 B Z Wb Ib gi vo' vi q x ∧ Kb (bS Wb Ib gi) Z A B ∧ (B.heap[Z]? = A.heap[Z]? ∧ B.heap[Z + 1]? = A.heap[Z + 1]?) := by
  obtain ⟨vo', p1, p2, p3, p4⟩ := p
  obtain ⟨⟨n1, n2, n3⟩, ⟨n4, n5, n6⟩, _⟩ := h.nums
  have no : ∀ i, i ≤ Z + 1 → vo.ownBlock ≠ some i := fun i hi e => by have := h.offO i e; omega
  have keep : ∀ i, i < A.heap.size → i ≠ Wb → vo.ownBlock ≠ some i → B.heap[i]? = A.heap[i]? := fun i h1 h2 h3 => p3.block i h1 (fun e => by rcases e with e | e; exact h2 e; exact h3 e)
  have off' : ∀ i, vo'.ownBlock = some i → Z + 1 < i := fun i hi => by
    rcases p4 with e | ⟨g, e, hg⟩
    · rw [e] at hi; exact h.offO i hi
    · rw [e] at hi; cases hi; omega
  refine ⟨vo', ⟨p1, (keep Ib (by omega) (by omega) (no Ib (by omega))).trans h.ix, p2, own_kept h.ownX (fun i hi => keep i (h.ownX.lt i hi).2 ?_ (fun e => h.apart i e hi)), off', h.offX, fun i hi e => ?_, h.nums⟩, ⟨p3.os, p3.tape, p3.output, p3.size, fun i h1 h2 => keep i (by omega) (fun e => h2 (.inl e)) (no i (by omega))⟩, keep Z (by omega) (by omega) (no Z (by omega)), keep (Z + 1) hz (by omega) (no (Z + 1) (by omega))⟩
  · rcases h.offX i hi with e | e <;> omega
  · rcases p4 with e' | ⟨g, e', hg⟩
    · rw [e'] at hi; exact h.apart i hi e
    · rw [e'] at hi; cases hi; have := (h.ownX.lt _ e).2; omega
theorem BuV.idx {w0 A B : World} {Z Wb Ib gi : Nat} {vo vi vi' : Value} {o x x' : List UInt8} (h : BuV w0 A Z Wb Ib gi vo vi o x) (hz : Z + 1 < A.heap.size) (e : Ext w0.heap.size A vi B vi' x') :
    (B.heap[Ib]? = some (ixO vi)) ∧ BuV w0 (B.setCell ⟨Ib, 0, none⟩ vi') Z Wb Ib gi vo vi' o x' ∧ Kb (bS Wb Ib gi) Z A (B.setCell ⟨Ib, 0, none⟩ vi') ∧ ((B.setCell ⟨Ib, 0, none⟩ vi').heap[Z]? = A.heap[Z]? ∧ (B.setCell ⟨Ib, 0, none⟩ vi').heap[Z + 1]? = A.heap[Z + 1]?) := by
  obtain ⟨⟨n1, n2, n3⟩, ⟨n4, n5, n6⟩, _⟩ := h.nums
  have nx : ∀ i, i ≤ Z + 1 → i ≠ gi → vi.ownBlock ≠ some i := fun i hi hne e => by rcases h.offX i e with e | e <;> omega
  have keepB' : ∀ i, i < A.heap.size → vi.ownBlock ≠ some i → B.heap[i]? = A.heap[i]? := fun i h1 h2 => e.grown.block i h1 (fun e => h2 e.symm)
  have set' : ∀ i, i ≠ Ib → (B.setCell ⟨Ib, 0, none⟩ vi').heap[i]? = B.heap[i]? := fun i hi => Below.heap_setCell _ _ _ _ hi
  have bix : B.heap[Ib]? = some (ixO vi) := (keepB' Ib (by omega) (nx Ib (by omega) (by omega))).trans h.ix
  have off' : ∀ i, vi'.ownBlock = some i → i = gi ∨ Z + 1 < i := fun i hi => by
    rcases e.lies with e' | ⟨g, e', hg⟩
    · rw [e'] at hi; exact h.offX i hi
    · rw [e'] at hi; cases hi; right; omega
  refine ⟨bix, ⟨(set' Wb n4).trans ((keepB' Wb (by omega) (nx Wb (by omega) (by omega))).trans h.wr), (Joins.block_setCell bix _).trans rfl, own_kept h.ownO (fun i hi => (set' i ?_).trans (keepB' i (h.ownO.lt i hi).2 (h.apart i hi))), own_kept e.own (fun i hi => set' i ?_), h.offO, off', fun i hi e2 => ?_, h.nums⟩, ⟨e.grown.os, e.grown.tape, e.grown.output, Nat.le_trans e.grown.size (by simp [World.setCell]), fun i h1 h2 => (set' i (fun e => h2 (.inr (.inl e)))).trans (keepB' i (by omega) (nx i (by omega) (fun e => h2 (.inr (.inr e)))))⟩, (set' Z (by omega)).trans (keepB' Z (by omega) (nx Z (by omega) (by omega))), (set' (Z + 1) (by omega)).trans (keepB' (Z + 1) hz (nx (Z + 1) (by omega) (by omega)))⟩
  · have := h.offO i hi; omega
  · rcases off' i hi with e | e <;> omega
  · rcases e.lies with e' | ⟨g, e', hg⟩
    · rw [e'] at e2; exact h.apart i hi e2
    · rw [e'] at e2; cases e2; have := (h.ownO.lt _ hi).2; omega
end Go.Proofs.YtolalicliojkfaaGreat
namespace Go.Proofs.YtolalicliojkfaaGreat
open Go.RowKit
namespace Ss
open Mm (Ent)
theorem piece_length (l : List Ent) (p k : Nat) : (piece l p k).length = min p (l.length - k * p) := by unfold piece; rw [List.length_take, List.length_drop]
theorem piece_at {l : List Ent} {p k j : Nat} (h : j < (piece l p k).length) : k * p + j < l.length := by rw [piece_length] at h; omega
theorem piece_get {l : List Ent} {p k j : Nat} (h : j < (piece l p k).length) : (piece l p k)[j] = l[k * p + j]'(piece_at h) := by
  have h' : j < ((l.drop (k * p)).take p).length := h
  have e : ((l.drop (k * p)).take p)[j]'h' = l[k * p + j]'(piece_at h) := by rw [List.getElem_take, List.getElem_drop]
  exact e
theorem cnt_lt {l : List Ent} {p k : Nat} (hp : 1 ≤ p) (h : k < cnt l p) : k * p < l.length := by
  unfold cnt at h
  rw [Nat.lt_iff_add_one_le, Nat.le_div_iff_mul_le (by omega), Nat.succ_mul] at h
  omega
theorem check_parts {l : List Ent} {p d : Int} (h : checkE l p d = 0) : (1 ≤ p ∧ p ≤ 64 ∧ 1 ≤ d ∧ d ≤ 16) ∧ 1 ≤ l.length ∧ l.length ≤ 65536 ∧ l.all Bk.may = true ∧ Bk.inOrd l = true := by
  unfold checkE at h
  by_cases hs : shapeOk l p d = false
  · rw [if_pos hs] at h; cases h
  · have hs' : shapeOk l p d = true := by simpa using hs
    rw [if_neg hs] at h
    unfold shapeOk at hs'
    simp only [Bool.and_eq_true, decide_eq_true_eq] at hs'
    split at h
    · cases h
    · split at h
      · split at h
        · rename_i h1 h2 h3; exact ⟨by omega, by omega, by omega, h2, h3⟩
        · cases h
      · cases h
theorem piece_check {l : List Ent} {p d : Nat} (h : checkE l p d = 0) {k : Nat} (hk : k < cnt l p) : Bk.checkE (piece l p k) = 0 := by
  obtain ⟨⟨h1, h2, h3, h4⟩, h5, h6, h7, h8⟩ := check_parts h
  have hlt := cnt_lt (by omega) hk
  have hl := piece_length l p k
  have hall : (piece l p k).all Bk.may = true := by
    rw [List.all_eq_true] at h7 ⊢
    exact fun x hx => h7 x (List.mem_of_mem_drop (List.mem_of_mem_take hx))
  have hord : Bk.inOrd (piece l p k) = true := by
    rw [Bk.inOrd_iff] at h8 ⊢
    intro i hi
    have hi' : i + 1 < (piece l p k).length := hi
    rw [hl] at hi'
    have := h8 (k * p + i) (by omega)
    rw [piece_get, piece_get]
    exact this
  unfold Bk.checkE
  rw [if_neg (by omega), if_neg (by omega), hall, hord]
  rfl
theorem blockB_len {l : List Ent} (h : Bk.checkE l = 0) : (Bk.blockB l).length ≤ 330000 := by rw [← Bk.preB_all]; exact Bk.preB_len l h _
theorem outB_len {l : List Ent} {p d : Nat} (h : checkE l p d = 0) : ∀ k, k ≤ cnt l p → (outB l p k).length ≤ k * 330012
  | 0, _ => Nat.zero_le _
  | k + 1, hk => by
    have h1 := outB_len h k (by omega)
    have h2 := blockB_len (piece_check h (show k < cnt l p by omega))
    rw [outB, List.length_append, frm_length]
    omega
theorem last_mem {l : List Ent} (h : l ≠ []) : lastOf l ∈ l := by
  unfold lastOf
  rw [List.getLastD_eq_getLast?, List.getLast?_eq_some_getLast h]
  exact List.getLast_mem h
theorem last_may {l : List Ent} (h : Bk.checkE l = 0) : Bk.may (lastOf l) = true := by
  obtain ⟨h1, _, h3, _⟩ := Bk.checkE_ok h
  exact List.all_eq_true.1 h3 _ (last_mem (by intro e; rw [e] at h1; simp at h1))
theorem partB_len (s : Nat) (k : Bs) (q : Nat) (hs : s < 18446744073709551616) (hk : k.length ≤ 512) (hq : q < 18446744073709551616) : (partB s k q).length ≤ 542 := by
  have a := Enc.leb_len64 s hs
  have b := Enc.leb_len64 k.length (by omega)
  have c := Enc.leb_len64 q hq
  unfold partB
  simp only [List.length_append]
  omega
theorem idxB_len {l : List Ent} {p d : Nat} (h : checkE l p d = 0) : ∀ k, k ≤ cnt l p → (idxB l p k).length ≤ 10 + k * 542
  | 0, _ => by
    have := (check_parts h).2.2.1
    have h1 : cnt l p ≤ l.length + p := Nat.le_trans (Nat.div_le_self _ _) (by omega)
    have h2 := (check_parts h).1
    exact Nat.le_trans (Enc.leb_len64 _ (by omega)) (by omega)
  | k + 1, hk => by
    have h1 := idxB_len h k (by omega)
    have hc := piece_check h (show k < cnt l p by omega)
    have h2 := blockB_len hc
    have h3 := Bk.may_parts (last_may hc)
    have h4 := partB_len ((Bk.blockB (piece l p k)).length + 12) (lastOf (piece l p k)).key (lastOf (piece l p k)).seq.toNat (by omega) (by omega) (by omega)
    rw [idxB, List.length_append]
    omega
theorem last_get {l : List Ent} (h : 0 < l.length) : lastOf l = l[l.length - 1] := by
  unfold lastOf
  rw [List.getLastD_eq_getLast?, List.getLast?_eq_some_getLast (by intro e; rw [e] at h; simp at h)]
  exact List.getLast_eq_getElem _
end Ss
theorem ents_piece {w : World} {eb off n c : Nat} {l : List Mm.Ent} (h : EntsAt w (.slice (some ⟨eb, off, none⟩) n c) l) (p k M : Nat) (hM : M = min p (l.length - k * p)) : EntsAt w (.slice (some ⟨eb, off + k * p * 4, none⟩) M M) (Ss.piece l p k) := by
  subst hM
  refine ⟨⟨_, _, by rw [Ss.piece_length], fun _ => ⟨eb, off + k * p * 4, rfl, fun j hj => ?_⟩⟩⟩
  have hj' := hj
  rw [Ss.piece_length] at hj'
  obtain ⟨h1, h2, h3, h4⟩ := h.cells (k * p + j) (by omega)
  have e := Ss.piece_get hj
  have e2 : off + k * p * 4 + j * 4 = off + (k * p + j) * 4 := by rw [Nat.add_mul]; omega
  rw [e, e2]
  exact ⟨h1, h2, h3, h4⟩

section
variable {P : Program} {ops : Array Oper} {md : Region.Mode} {Q : Exit → Act → World → Prop}
theorem opStep {K : Act → World → Prop} {a : Act} {w : World} {i : Nat} {o : Oper} (ho : ops[i]? = some o) (h : ∀ K' : Act → World → Prop, Hid (∀ a w, K a w → K' a w) → if Region.wanted o (yielded ops a.tmps) = true then Oper.wp P o a w K' Q else K' (a.put o.dst undef) w) : wpOp P ops Q i K a w := by
  unfold wpOp
  rw [ho]
  have := h K (fun _ _ h => h)
  cases hw : Region.wanted o (yielded ops a.tmps) with
  | true => rw [hw, if_pos rfl] at this; show if _ then _ else _; rw [if_pos hw]; exact .inl this
  | false => rw [hw, if_neg (by simp)] at this; show if _ then _ else _; rw [if_neg (by rw [hw]; simp)]; exact this
theorem anyTake (i d : Nat) (v : Value) {fuel : Nat} {listed : Array Bool} {a : Act} {w : World} {oi : Oper} (ho : ops[i]? = some oi) (hd : oi.dst = some d) (hw : Region.wanted oi (yielded ops a.tmps) = true)
    (hy : ∀ w, (execOp a.eval oi).run P w = .ok (.value v) w)
    (hs : Region.noSelect ops = true) (hf : Region.free md ops listed i = true) (hr : (Region.ready md ops listed).contains i = true)
    (hQ : ∀ c a w, Q (.panic c) (a.put (some d) v) w → Q (.panic c) a w)
    (h : wpAny P md ops Q fuel (listed.setIfInBounds i true) (a.put (some d) v) w) : wpAny P md ops Q (fuel + 1) listed a w := by
  refine wpAny_take ho hs hf hr ?_ (Or.inl ⟨hw, hy⟩) ?_
  · rw [hd]; exact hQ
  · rw [hd]; exact h
/-- A region in a round. -/
theorem region_round {l n : Nat} {id : Nat} {a : Act} {w : World} (hm : P.follows .mixedOrders = true) (hd : noDefer ops = true) (hq : ¬ LetsOut Q) (h : wpAny P .any ops Q ops.size (Array.replicate ops.size false) a w.drew) : (Code.region id ops true).wpIn (Fence.wide.inRound l) n P Q a w :=
  wpIn_region_any hm (any_round hd hq _ _ _ _ h)
end
end Go.Proofs.YtolalicliojkfaaGreat
