/-
  Bursts: which bits are turned, and whether all of them are there. No program is spoken of here.
-/
import Derived.Test.YtmhehohiodggcaaCrc
namespace Go.Proofs.Ytmhehohiodggcaa

/-- All bits that are to be turned are there. -/
def burB (l : List UInt8) (at' : Int) (b : Nat) : Bool := decide (0 ≤ at') && (List.range 32).all fun i => !b.testBit i || decide (at'.toNat + i < 8 * l.length)
def burL (l : List UInt8) (at' : Int) (b : Nat) : List UInt8 := if burB l at' b = true then Crc.burst l at'.toNat b 32 else []
def burE (l : List UInt8) (at' : Int) (b : Nat) : Int := if burB l at' b = true then 0 else 2

theorem burB_neg {l : List UInt8} {at' : Int} {b : Nat} (h : at' < 0) : burB l at' b = false := by
  unfold burB
  rw [decide_eq_false (by omega)]
  rfl
theorem burB_iff (l : List UInt8) (p b : Nat) : burB l (p : Int) b = true ↔ ∀ i, i < 32 → b.testBit i = true → p + i < 8 * l.length := by
  unfold burB
  rw [decide_eq_true (by omega), Bool.true_and, List.all_eq_true]
  constructor
  · intro h i hi hb
    have := h i (List.mem_range.mpr hi)
    rw [hb] at this
    simpa using this
  · intro h i hi
    cases hb : b.testBit i
    · rfl
    · have := h i (List.mem_range.mp hi) hb
      simpa using this
theorem burB_bad {l : List UInt8} {p b i : Nat} (hi : i < 32) (hb : b.testBit i = true) (h : ¬ p + i < 8 * l.length) : burB l (p : Int) b = false := by
  rw [Bool.eq_false_iff]
  intro e
  exact h ((burB_iff l p b).mp e i hi hb)

/-- Of a burst that stands in the bytes: the bytes turned twice are as they were. -/
theorem getD_set_same (l : List UInt8) (i : Nat) (x : UInt8) (h : i < l.length) : (l.set i x).getD i 0 = x := by
  rw [List.getD_eq_getElem?_getD, List.getElem?_set_self h]; rfl
theorem getD_set_ne (l : List UInt8) (i j : Nat) (x : UInt8) (h : i ≠ j) : (l.set i x).getD j 0 = l.getD j 0 := by
  rw [List.getD_eq_getElem?_getD, List.getElem?_set_ne h, List.getD_eq_getElem?_getD]
theorem xor_swap (a b c : UInt8) : a ^^^ b ^^^ c = a ^^^ c ^^^ b := by rw [UInt8.xor_assoc, UInt8.xor_comm b c, ← UInt8.xor_assoc]
theorem flip_comm (l : List UInt8) (p q : Nat) : Crc.flip (Crc.flip l p) q = Crc.flip (Crc.flip l q) p := by
  unfold Crc.flip
  by_cases h : p / 8 = q / 8
  · rw [h]
    by_cases hl : q / 8 < l.length
    · rw [getD_set_same _ _ _ hl, getD_set_same _ _ _ hl, List.set_set, List.set_set, xor_swap]
    · have e : ∀ (m : List UInt8) (x : UInt8), m.length = l.length → m.set (q / 8) x = m := fun m x hm => List.set_eq_of_length_le (by omega)
      rw [e l _ rfl, e l _ rfl, e l _ rfl]
  · rw [getD_set_ne _ _ _ _ h, getD_set_ne _ _ _ _ (Ne.symm h), List.set_comm _ _ h]
theorem flip_flip (l : List UInt8) (p : Nat) : Crc.flip (Crc.flip l p) p = l := by
  unfold Crc.flip
  by_cases hl : p / 8 < l.length
  · rw [getD_set_same _ _ _ hl, List.set_set, UInt8.xor_assoc, UInt8.xor_self, UInt8.xor_zero]
    rw [List.getD_eq_getElem?_getD, List.getElem?_eq_getElem hl]
    simp
  · have e : ∀ (m : List UInt8) (x : UInt8), m.length = l.length → m.set (p / 8) x = m := fun m x hm => List.set_eq_of_length_le (by omega)
    rw [e l _ rfl, e l _ rfl]
theorem burst_flip (l : List UInt8) (p b q k : Nat) : Crc.burst (Crc.flip l q) p b k = Crc.flip (Crc.burst l p b k) q := by
  induction k with
  | zero => rfl
  | succ k ih =>
    rw [Crc.burst, Crc.burst]
    split
    · rw [ih, flip_comm]
    · exact ih
theorem burst_burst (l : List UInt8) (p b k : Nat) : Crc.burst (Crc.burst l p b k) p b k = l := by
  induction k with
  | zero => rfl
  | succ k ih =>
    rw [Crc.burst, Crc.burst]
    split
    · rw [burst_flip, ih, flip_flip]
    · exact ih
end Go.Proofs.Ytmhehohiodggcaa
