/-
  Do, of any operation and any values: the other ways, and all of them together. .. and what follows from it.
-/
import Derived.Test.YtedamaccflhmfaaGreatDoorXE
import Derived.Lib.Replace
import Derived.Lib.CountLaws
import Derived.Lib.ItoaNum
namespace Go.Proofs.YtedamaccflhmfaaGreatDoor
open Go.RowKit
attribute [local go_sem ↓] Go.wp_at_zero Go.wp_at_succ

theorem cells_far {W : World} {B b o : Nat} {p q r : Value} (h : b < B) : (((W.setCell ⟨B, 0, none⟩ p).setCell ⟨B, 1, none⟩ q).setCell ⟨B, 2, none⟩ r).cell? ⟨b, o, none⟩ = W.cell? ⟨b, o, none⟩ :=
  ((((Below.refl B W).setCell (p := ⟨B, 0, none⟩) (Nat.le_refl _) p).setCell (p := ⟨B, 1, none⟩) (Nat.le_refl _) q).setCell (p := ⟨B, 2, none⟩) (Nat.le_refl _) r).cell (p := ⟨b, o, none⟩) h

theorem ref_just {op : Int} {l : List Val} (h : refE op l = 0) : justB op l.length = true ∧ l.all Val.may = true ∧ givesE op (l.map Val.k) = 0 := by
  unfold refE at h
  by_cases c : (justB op l.length && l.all Val.may) = true
  · rw [if_pos c] at h
    rw [Bool.and_eq_true] at c
    exact ⟨c.1, c.2, h⟩
  · rw [if_neg c] at h; cases h

theorem may_size {v : Val} (h : v.may = true) : v.t.size ≤ 1000 := by
  rcases may_cases v h with ⟨_, _, c⟩ | ⟨_, _, c⟩ | ⟨_, c⟩ | ⟨_, _, c⟩
  all_goals first
    | omega
    | (have : v.t.size = 0 := by
        rw [ByteArray.toList_eq] at c
        show v.t.data.size = 0
        rw [← Array.length_toList, c]; rfl
       omega)

end Go.Proofs.YtedamaccflhmfaaGreatDoor
namespace Go.Proofs.YtedamaccflhmfaaGreatDoor
open Go.RowKit
attribute [local go_sem ↓] Go.wp_at_zero Go.wp_at_succ

theorem two_in (w : World) (a b : Val) (ha : a.wf) (hb : b.wf) {B : Nat} (hB : B = w.heap.size) : ValsIn (w.alloc (.cells #[.int .u8 a.k, .int .i64 a.n, .string a.t, .int .u8 b.k, .int .i64 b.n, .string b.t] 31)) (.slice (some ⟨B, 0, none⟩) 2 2) [a, b] := by
  subst hB
  refine ⟨⟨_, 2, rfl, fun _ => ⟨_, _, rfl, ?_⟩⟩, ?_, by simp⟩
  · intro j hj
    have e : j = 0 ∨ j = 1 := by simp at hj; omega
    rcases e with rfl | rfl <;> simp [go_sem]
  · intro v hv
    simp at hv
    rcases hv with rfl | rfl <;> assumption

theorem ahead_at {w w2 : World} {x y z : Value} {t : TypeId} {o : Obj} {B : Nat} (hB : B = w.heap.size) (hb : Below ((w.alloc (.cells #[x, y, z] t)).alloc o).heap.size ((w.alloc (.cells #[x, y, z] t)).alloc o) w2) :
    w2.cell? ⟨B, 0, none⟩ = some x ∧ w2.cell? ⟨B, 1, none⟩ = some y ∧ w2.cell? ⟨B, 2, none⟩ = some z ∧ B < w2.heap.size := by
  subst hB
  obtain ⟨h0, h1, h2⟩ := ahead_slot hb
  exact ⟨h0, h1, h2, World.block_lt_of_cell? w2 _ h0⟩

/-- Does an operation of two come to a value? Does it have an error? -/
def isB (op : Int) (a b x : Val) : Bool := ((doR op [a, b]).2 == 0) && sameV (doR op [a, b]).1 x
def failsB (op : Int) (a b : Val) (e : Int) : Bool := ((doR op [a, b]).2 == e) && sameV (doR op [a, b]).1 nullV

theorem numV_wf {n : Int} (h : I64 n) : (numV n).wf := ⟨(by decide : (0 : Int) ≤ 2), (by decide : (2 : Int) ≤ 255), h.lo, h.hi, (by decide : (⟨#[]⟩ : ByteArray).size ≤ maxLen)⟩
theorem nullV_wf : nullV.wf := ⟨by decide, by decide, by decide, by decide, by decide⟩
theorem tv_wf (b : Bool) : (tv b).wf := by cases b <;> exact ⟨by decide, by decide, by decide, by decide, by decide⟩

theorem live1 : isB 6 (numV (-7)) (numV 2) (numV (-3)) = true := by decide +kernel
theorem live2 : isB 15 nullV (tv false) (tv false) = true := by decide +kernel
theorem live3 : failsB 6 (numV 1) (numV 0) 222 = true := by decide +kernel

end Go.Proofs.YtedamaccflhmfaaGreatDoor
namespace Go.Proofs.YtedamaccflhmfaaGreatDoor
open Go.RowKit

/-- A text with each apostrophe twice. -/
def twiceL (s : List UInt8) : List UInt8 := s.flatMap fun c => if c = 39 then [39, 39] else [c]
theorem twiceL_cons (c : UInt8) (s : List UInt8) : twiceL (c :: s) = (if c = 39 then [39, 39] else [c]) ++ twiceL s := by simp [twiceL]
theorem twiceL_length (s : List UInt8) : (twiceL s).length ≤ 2 * s.length := by
  induction s with
  | nil => simp [twiceL]
  | cons c s ih => rw [twiceL_cons, List.length_append, List.length_cons]; split <;> simp <;> omega

theorem index_cons (b : UInt8) (l : List UInt8) : Lib.index (b :: l) [39] = if b = 39 then 0 else if Lib.index l [39] = -1 then -1 else Lib.index l [39] + 1 := by
  rw [Lib.index]
  by_cases h : b = 39
  · subst h; simp
  · have h2 : ([39] : List UInt8).isPrefixOf (b :: l) = false := by simp [List.isPrefixOf]; exact fun e => h e.symm
    rw [h2, if_neg h]
    by_cases k : Lib.index l [39] = -1 <;> simp [k]

theorem replaceK_twice (s : List UInt8) : Lib.replaceK [39] [39, 39] (Lib.count s [39]) s = twiceL s := by
  induction s with
  | nil =>
    have : Lib.index [] [39] = -1 := rfl
    rw [Lib.count_miss this]; rfl
  | cons b l ih =>
    have hi := index_cons b l
    rw [twiceL_cons]
    by_cases h : b = 39
    · subst h
      rw [if_pos rfl] at hi
      have h0 : Lib.index (39 :: l) [39] = ((0 : Nat) : Int) := hi
      have hc := Lib.count_hit (by simp) h0
      have e1 : (39 :: l).drop (0 + ([39] : List UInt8).length) = l := rfl
      rw [e1] at hc
      rw [hc, Nat.add_comm, Lib.replaceK_hit _ _ _ _ 0 h0, e1, ih]; rfl
    · rw [if_neg h] at hi
      rw [if_neg h]
      by_cases k : Lib.index l [39] = -1
      · rw [if_pos k] at hi
        rw [Lib.count_miss k] at ih
        rw [Lib.count_miss hi]
        have e : l = twiceL l := ih
        rw [← e]; rfl
      · rw [if_neg k] at hi
        obtain ⟨i, hi0⟩ : ∃ i : Nat, Lib.index l [39] = i := ⟨(Lib.index l [39]).toNat, by have := Lib.index_ge l [39]; omega⟩
        have h1 : Lib.index (b :: l) [39] = ((i + 1 : Nat) : Int) := by rw [hi, hi0]; rfl
        have hc := Lib.count_hit (by simp) h1
        have hc2 := Lib.count_hit (by simp) hi0
        have e1 : (b :: l).drop (i + 1 + ([39] : List UInt8).length) = l.drop (i + ([39] : List UInt8).length) := rfl
        rw [e1] at hc
        rw [hc2, Nat.add_comm, Lib.replaceK_hit _ _ _ _ i hi0] at ih
        rw [hc, Nat.add_comm, Lib.replaceK_hit _ _ _ _ (i + 1) h1, e1, ← ih]; rfl

theorem replace_twice (s : List UInt8) : Lib.replaceAll s [39] [39, 39] = twiceL s := by
  unfold Lib.replaceAll Lib.replace
  rw [if_neg (by decide)]
  have : Lib.replaceNum s [39] (-1) = Lib.count s [39] := by unfold Lib.replaceNum; rw [if_pos (.inl (by decide))]
  rw [this, replaceK_twice]
end Go.Proofs.YtedamaccflhmfaaGreatDoor
