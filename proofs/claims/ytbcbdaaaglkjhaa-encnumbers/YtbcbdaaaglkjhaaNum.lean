/-
  Plain facts on numbers of 64 bits: turning the first bit of an Int, and back.
-/
import Derived.Test.YtbcbdaaaglkjhaaBase
import Derived.Laws.Bits64
namespace Go.Proofs.Ytbcbdaaaglkjhaa
open Go.RowKit

theorem xor63 (b : Nat) (h : b < 2 ^ 63) : b ^^^ 2 ^ 63 = 2 ^ 63 + b := by
  apply Nat.eq_of_testBit_eq
  intro j
  rw [Nat.testBit_xor, Nat.testBit_two_pow]
  by_cases h1 : j < 63
  · rw [Nat.testBit_two_pow_add_gt h1]
    have : ¬ 63 = j := by omega
    simp [this]
  · by_cases h2 : j = 63
    · subst h2
      rw [Nat.testBit_two_pow_add_eq, Nat.testBit_lt_two_pow h]
      rfl
    · have h3 : 63 < j := by omega
      have a1 : b < 2 ^ j := Nat.lt_trans h (Nat.pow_lt_pow_right (by omega) h3)
      have a2 : 2 ^ 63 + b < 2 ^ j := by
        have : 2 ^ 64 ≤ 2 ^ j := Nat.pow_le_pow_right (by omega) h3
        omega
      rw [Nat.testBit_lt_two_pow a1, Nat.testBit_lt_two_pow a2]
      have : ¬ 63 = j := by omega
      simp [this]

theorem xor63' (b : Nat) (h : b < 2 ^ 63) : (2 ^ 63 + b) ^^^ 2 ^ 63 = b := by
  rw [← xor63 b h, Nat.xor_assoc, Nat.xor_self, Nat.xor_zero]

/-- An Int with its first bit turned. -/
theorem turn_int (n : Int) (h1 : -9223372036854775808 ≤ n) (h2 : n ≤ 9223372036854775807) :
    bits .xor .u64 (IntKind.u64.wrap n) 9223372036854775808 = ((n + 9223372036854775808).toNat : Int) := by
  have e : IntKind.u64.wrap n = n % 18446744073709551616 := IntKind.wrap_u64 n
  rw [e]
  by_cases hn : 0 ≤ n
  · obtain ⟨a, rfl⟩ := Int.eq_ofNat_of_zero_le hn
    have e1 : ((a : Int) % 18446744073709551616) = ((a : Nat) : Int) := by omega
    have h := bits_xor_u64_nat a 9223372036854775808 (by omega) (by omega)
    rw [e1]
    refine h.trans ?_
    have := xor63 a (by omega)
    have e2 : (2 : Nat) ^ 63 = 9223372036854775808 := by decide
    rw [e2] at this
    rw [this]; omega
  · obtain ⟨b, hb⟩ : ∃ b : Nat, n + 9223372036854775808 = b := ⟨(n + 9223372036854775808).toNat, by omega⟩
    have e1 : n % 18446744073709551616 = ((9223372036854775808 + b : Nat) : Int) := by omega
    have h := bits_xor_u64_nat (9223372036854775808 + b) 9223372036854775808 (by omega) (by omega)
    rw [e1]
    refine h.trans ?_
    have := xor63' b (by omega)
    have e2 : (2 : Nat) ^ 63 = 9223372036854775808 := by decide
    rw [e2] at this
    rw [this]; omega
end Go.Proofs.Ytbcbdaaaglkjhaa
