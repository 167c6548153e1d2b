/-
  Plain facts on texts: each apostrophe twice; the digits of a number.
-/
import Derived.Test.YtjddhakaebkkeaaDoorULaw
import Derived.Lib.Replace
import Derived.Lib.CountLaws
import Derived.Lib.ItoaNum
namespace Go.Proofs.YtjddhakaebkkeaaDoor
open Go.RowKit

/-- A text with each apostrophe twice. -/
def twiceL (s : List UInt8) : List UInt8 := s.flatMap fun c => if c = 39 then [39, 39] else [c]
theorem twiceL_cons (c : UInt8) (s : List UInt8) : twiceL (c :: s) = (if c = 39 then [39, 39] else [c]) ++ twiceL s := by simp [twiceL]
theorem twiceL_length (s : List UInt8) : (twiceL s).length ≤ 2 * s.length := by
  induction s with
  | nil => simp [twiceL]
  | cons c s ih => rw [twiceL_cons, List.length_append, List.length_cons]; split <;> simp <;> omega

theorem index_cons (b : UInt8) (l : List UInt8) : Lib.index (b :: l) [39] = if b = 39 then 0 else if Lib.index l [39] = -1 then -1 else Lib.index l [39] + 1 := by
  rw [Lib.index]
  by_cases h : b = 39
  · subst h; simp
  · have h2 : ([39] : List UInt8).isPrefixOf (b :: l) = false := by simp [List.isPrefixOf]; exact fun e => h e.symm
    rw [h2, if_neg h]
    by_cases k : Lib.index l [39] = -1 <;> simp [k]

theorem replaceK_twice (s : List UInt8) : Lib.replaceK [39] [39, 39] (Lib.count s [39]) s = twiceL s := by
  induction s with
  | nil =>
    have : Lib.index [] [39] = -1 := rfl
    rw [Lib.count_miss this]; rfl
  | cons b l ih =>
    have hi := index_cons b l
    rw [twiceL_cons]
    by_cases h : b = 39
    · subst h
      rw [if_pos rfl] at hi
      have h0 : Lib.index (39 :: l) [39] = ((0 : Nat) : Int) := hi
      have hc := Lib.count_hit (by simp) h0
      have e1 : (39 :: l).drop (0 + ([39] : List UInt8).length) = l := rfl
      rw [e1] at hc
      rw [hc, Nat.add_comm, Lib.replaceK_hit _ _ _ _ 0 h0, e1, ih]; rfl
    · rw [if_neg h] at hi
      rw [if_neg h]
      by_cases k : Lib.index l [39] = -1
      · rw [if_pos k] at hi
        rw [Lib.count_miss k] at ih
        rw [Lib.count_miss hi]
        have e : l = twiceL l := ih
        rw [← e]; rfl
      · rw [if_neg k] at hi
        obtain ⟨i, hi0⟩ : ∃ i : Nat, Lib.index l [39] = i := ⟨(Lib.index l [39]).toNat, by have := Lib.index_ge l [39]; omega⟩
        have h1 : Lib.index (b :: l) [39] = ((i + 1 : Nat) : Int) := by rw [hi, hi0]; rfl
        have hc := Lib.count_hit (by simp) h1
        have hc2 := Lib.count_hit (by simp) hi0
        have e1 : (b :: l).drop (i + 1 + ([39] : List UInt8).length) = l.drop (i + ([39] : List UInt8).length) := rfl
        rw [e1] at hc
        rw [hc2, Nat.add_comm, Lib.replaceK_hit _ _ _ _ i hi0] at ih
        rw [hc, Nat.add_comm, Lib.replaceK_hit _ _ _ _ (i + 1) h1, e1, ← ih]; rfl

theorem replace_twice (s : List UInt8) : Lib.replaceAll s [39] [39, 39] = twiceL s := by
  unfold Lib.replaceAll Lib.replace
  rw [if_neg (by decide)]
  have : Lib.replaceNum s [39] (-1) = Lib.count s [39] := by unfold Lib.replaceNum; rw [if_pos (.inl (by decide))]
  rw [this, replaceK_twice]
end Go.Proofs.YtjddhakaebkkeaaDoor
