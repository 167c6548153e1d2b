/-
  The iterators of a memtable: over links, and over the entries that were there at the call.
-/
import Derived.Test.YtbdgdigpnfpnhaaMAdd
import Derived.Test.YtbdgdigpnfpnhaaKQ
import Derived.Shelf.Abstract
import Derived.Stop.RegionWithIn
import Derived.OwnWalkIn
import Derived.TacticsInMore
import Derived.LoopNIn
import Derived.LoopIn
namespace Go.Proofs.Ytbdgdigpnfpnhaa.Q.P
open Go.RowKit

theorem links_any (w : World) (v : Option Addr) : Calls Try.prog 53 #[.pointer v] w fun e w' => e = .returned (.func (.func 75) #[] #[.pointer (some ⟨w.heap.size, 0, none⟩)]) ∧ w' = w.alloc (.cells #[.pointer v] 61) := by
  have hmf : ∀ (fn : Fn) (first cap : Array Value) (w : World), (Instr.makeFunc fn first cap).run Try.prog w = .ok (.func fn first cap) w := fun _ _ _ _ => rfl
  go_enter Try.func53, Try.ntmps53
  go_wp2_with (fail)
  go_ret
  exact ⟨rfl, rfl⟩

/-- Nothing of S has turned. -/
def KeepK (S : Nat → Prop) (A B : World) : Prop := A.heap.size ≤ B.heap.size ∧ ∀ i, S i → B.heap[i]? = A.heap[i]?
theorem KeepK.refl (S : Nat → Prop) (A : World) : KeepK S A A := ⟨Nat.le_refl _, fun _ _ => rfl⟩
theorem KeepK.trans {S : Nat → Prop} {A B C : World} (h : KeepK S A B) (k : KeepK S B C) : KeepK S A C := ⟨Nat.le_trans h.1 k.1, fun i hi => (k.2 i hi).trans (h.2 i hi)⟩
theorem KeepK.later {S : Nat → Prop} {A B : World} (h : Below A.heap.size A B) (hs : ∀ i, S i → i < A.heap.size) : KeepK S A B := ⟨h.size, fun i hi => h.block i (hs i hi)⟩
theorem KeepK.put {S : Nat → Prop} (A : World) (N : Nat) (o : Obj) (hs : ∀ i, S i → i ≠ N) : KeepK S A (A.putObj N o) := ⟨by simp [World.putObj], fun i hi => World.putObj_heap_other (hs i hi)⟩

/-- Where a node stands, by its block. -/
def left (l : List Mm.Nd) : Value → Nat
  | .pointer (some a) => l.length - (l.map (·.blk)).idxOf a.block
  | _ => 0
theorem left_at {l : List Mm.Nd} (hn : (l.map (·.blk)).Nodup) {j : Nat} (hj : j < l.length) : left l (.pointer (some ⟨l[j].blk, 0, none⟩)) = l.length - j := by
  have : (l.map (·.blk)).idxOf l[j].blk = j := by
    have h1 : (l.map (·.blk))[j]'(by simpa using hj) = l[j].blk := by simp
    rw [← h1]
    exact hn.idxOf_getElem j _
  show l.length - (l.map (·.blk)).idxOf l[j].blk = _
  rw [this]
theorem left_ptr {l : List Mm.Nd} (hn : (l.map (·.blk)).Nodup) (j : Nat) : left l (ptr l[j]?) = l.length - j := by
  by_cases hj : j < l.length
  · rw [List.getElem?_eq_getElem hj]; exact left_at hn hj
  · rw [List.getElem?_eq_none (by omega)]; show 0 = _; omega

theorem chain_next {w : World} {l : List Mm.Nd} (h : Chain w l) (ht : ∀ x ∈ l, 1 ≤ x.h) {j : Nat} (hj : j < l.length) : w.cell? ⟨l[j].blk, 5, none⟩ = some (ptr l[j + 1]?) := by
  have e : l = l.take j ++ l[j] :: l.drop (j + 1) := by rw [List.getElem_cons_drop, List.take_append_drop]
  have h' : Chain w (l.take j ++ l[j] :: l.drop (j + 1)) := by rw [← e]; exact h
  have := h'.lane 0 (by omega) (decide_eq_true (ht _ (List.getElem_mem hj)))
  rw [Mm.nxt_zero (fun x hx => ht x (List.mem_of_mem_drop hx)), List.head?_drop] at this
  exact this

attribute [local go_sem] Oper.semAt_some

set_option maxRecDepth 100000 in
set_option maxHeartbeats 4000000 in
/-- The links, one by one. -/
theorem links_hands (n Bx : Nat) (w0 : World) (l : List Mm.Nd) (S : Nat → Prop) (hbox : w0.heap[Bx]? = some (.cells #[ptr l.head?] 61 (0, 0))) (ch : Chain w0 l) (ht : ∀ x ∈ l, 1 ≤ x.h) (hn : (l.map (·.blk)).Nodup) (sb : S Bx) (sl : ∀ x ∈ l, S x.blk) :
    HandsK6 Fence.wide n Try.prog 75 #[.pointer (some ⟨Bx, 0, none⟩)] l.length (KeepK S) (fun k => #[ptr l[k]?]) w0 := by
  intro L J Jx W hK hW hJ hJx _ _ hY h0
  have c1 : W.cell? ⟨Bx, 0, none⟩ = some (ptr l.head?) := Joins.cell_of_block ((hK.2 Bx sb).trans hbox) 0
  have HJ : Hid (∀ k A B, J k A → A.grownBy B none → J k B) := hJ
  have HY := hide hY
  have HC : Hid (∀ A, KeepK S w0 A → Chain A l) := fun A hA => ch.same fun x hx => hA.2 _ (sl x hx)
  have HTL := hide ht
  have HN := hide hn
  rw [List.head?_eq_getElem?] at c1
  clear hJ hY hn ht ch sl sb hbox
  refine callsIn_of_wp Try.func75 rfl trivial ?_ rfl
  simp only [Try.ntmps75, List.size_toArray, List.length_cons, List.length_nil, Nat.reduceAdd, Nat.reduceSub, Array.replicate_succ, Array.replicate_zero, List.push_toArray, List.append_toArray, List.nil_append, List.cons_append]
  gi_wp2_with (fail)
  gi_loopw [3] (fun v wr => ∃ j : Nat, j ≤ l.length ∧ v = ptr l[j]? ∧ J j wr ∧ KeepK S w0 wr) (fun v _ => left l v)
  case atStart => exact ⟨0, Nat.zero_le _, rfl, h0, hK⟩
  case round =>
    obtain ⟨j, hj, rfl, hjw, kw⟩ := hrel
    clear h0 hK c1
    by_cases hlt : j < l.length
    · have en : l[j]? = some l[j] := List.getElem?_eq_getElem hlt
      have lf := left_ptr HN.out j
      have lf2 := left_ptr HN.out (j + 1)
      have LF : Hid (left l (ptr l[j + 1]?) < left l (ptr l[j]?)) := by show _ < _; rw [lf, lf2]; omega
      have NX : Hid (∀ A, KeepK S w0 A → A.cell? ⟨l[j].blk, 5, none⟩ = some (ptr l[j + 1]?)) := fun A hA => chain_next (HC.out A hA) HTL.out hlt
      have YY : Hid (∀ A, J j A → KeepK S w0 A → YieldAt Fence.wide (n - 1) Try.prog L #[.pointer (some ⟨l[j].blk, 0, none⟩)] A fun e B => (e = .returned (.bool true) ∧ J (j + 1) B ∧ KeepK S A B) ∨ (e = .returned (.bool false) ∧ Jx (j + 1) B ∧ KeepK S A B)) := fun A h1 h2 => by
        have := HY.out j A hlt h1 h2
        simp only [en] at this
        exact this
      rw [en] at LF ⊢
      rw [show ptr (some l[j]) = .pointer (some ⟨l[j].blk, 0, none⟩) from rfl] at LF ⊢
      obtain ⟨yf, yt, ya, yb, hy, hR⟩ := YY.out _ hjw kw
      clear lf lf2 YY HY
      gi_wp2_with (fail)
      refine ⟨(fun h => by cases h), hR.mono ?_⟩
      rintro e W3 (⟨rfl, hJ3, hk3⟩ | ⟨rfl, hJx3, _⟩)
      · have kx := kw.trans hk3
        have cx := NX.out _ kx
        gi_wp2_with (fail)
        exact ⟨⟨j + 1, by omega, rfl, hJ3, kx⟩, LF.out⟩
      · gi_wp2_with (fail)
        refine bodyPost_ret (v := .tuple #[]) (by simp [results, Try.results75, go_sem]) rfl ?_
        exact ⟨⟨_, rfl⟩, .inr ⟨j + 1, by omega, hJx3⟩⟩
    · have en : l[j]? = none := List.getElem?_eq_none (by omega)
      have HE : Hid (j = l.length) := by show _ = _; omega
      rw [en, show ptr none = .pointer none from rfl]
      clear HY HC HTL HN hlt hj
      gi_wp2_with (fail)
      go_end0
      exact ⟨⟨_, rfl⟩, .inl (by rw [← HE.out]; exact hjw)⟩
end Go.Proofs.Ytbdgdigpnfpnhaa.Q.P
