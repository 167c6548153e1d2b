/-
  The place and the mask of a key's bit: what the program's call answers.
-/
import Derived.Test.YtanpnibabnedbaaBmHash
namespace Go.Proofs.Ytanpnibabnedbaa
open Go.RowKit

theorem and_low (h : Nat) (hh : h < 18446744073709551616) : bits .and .u64 (h : Int) 4294967295 = ((Bm.low h : Nat) : Int) := by
  have := u64_and_nat h 4294967295 hh (by decide)
  rw [show (4294967295 : Nat) = 2 ^ 32 - 1 from rfl, Nat.and_two_pow_sub_one_eq_mod] at this
  exact this
theorem or_high (h : Nat) (hh : h < 18446744073709551616) : bits .or .u64 ((h : Int) / 4294967296) 1 = ((Bm.high h : Nat) : Int) := by
  have := u64_or_nat (h / 4294967296) 1 (by omega) (by decide)
  exact this
theorem and_seven (p : Nat) (hp : p < 18446744073709551616) : bits .and .u64 (p : Int) 7 = ((p % 8 : Nat) : Int) := by
  have := u64_and_nat p 7 hp (by decide)
  rw [show (7 : Nat) = 2 ^ 3 - 1 from rfl, Nat.and_two_pow_sub_one_eq_mod] at this
  exact this

set_option maxHeartbeats 800000 in
theorem bit_any (w : World) (a : Option Addr) (n cap h i : Nat) (hn : 0 < n) (hn2 : n ≤ 140737488355328) (hh : h < 18446744073709551616) (hi : i < 256) :
    Calls Try.prog 27 #[.slice a n cap, .int .u64 (h : Int), .int .u8 (i : Int)] w fun e w' => e = .returned (.tuple #[.int .u64 ((Bm.place h i (8 * n) / 8 : Nat) : Int), .int .u8 ((2 ^ (Bm.place h i (8 * n) % 8) : Nat) : Int)]) ∧ w' = w := by
  have A := and_low h hh
  have B := or_high h hh
  have hs := Bm.sum_lt h i hh hi
  have l1 := Bm.low_lt h
  have l2 := Bm.high_lt h hh
  obtain ⟨P, hP⟩ : ∃ P, P = Bm.place h i (8 * n) := ⟨_, rfl⟩
  have hPl : P < 8 * n := by rw [hP]; exact Bm.place_lt _ _ _ (by omega)
  rw [← hP]
  have hP' : P = (Bm.low h + i * Bm.high h) % (8 * n) := hP
  obtain ⟨lo, hlo⟩ : ∃ x, x = Bm.low h := ⟨_, rfl⟩
  obtain ⟨hg, hhg⟩ : ∃ x, x = Bm.high h := ⟨_, rfl⟩
  rw [← hlo] at A hs l1 hP'
  rw [← hhg] at B hs l2 hP'
  obtain ⟨m, hm⟩ : ∃ m, m = i * hg := ⟨_, rfl⟩
  rw [← hm] at hs hP'
  have C : IntKind.u64.wrap ((i : Int) * (hg : Int)) = (m : Int) := by rw [hm, IntKind.wrap_u64]; rw [← Int.natCast_mul]; omega
  have D : IntKind.u64.wrap ((lo : Int) + (m : Int)) = ((lo + m : Nat) : Int) := by rw [IntKind.wrap_u64]; omega
  obtain ⟨s, hs'⟩ : ∃ s, s = lo + m := ⟨_, rfl⟩
  rw [← hs'] at D hP'
  have E : ((s : Int)).tmod (8 * (n : Int)) = (P : Int) := by
    rw [Int.tmod_eq_emod_of_nonneg (by omega), hP']; simp
  have F := and_seven P (by omega)
  obtain ⟨r, hr⟩ : ∃ r, r = P % 8 := ⟨_, rfl⟩
  rw [← hr] at F ⊢
  have hr8 : r < 8 := by rw [hr]; exact Nat.mod_lt _ (by decide)
  have i5 : min r 8 = r := by omega
  have HB : Hid (((2 ^ r : Nat) : Int) = (2 : Int) ^ r % 256) := by
    have h1 := Bm.bit_lt r hr8
    have h2 : (2 : Int) ^ r = ((2 ^ r : Nat) : Int) := by simp
    show _ = _
    rw [h2]
    generalize (2 ^ r : Nat) = z at h1
    omega
  have HP : Hid (((P / 8 : Nat) : Int) = (P : Int) / 8) := by show _ = _; omega
  clear hP hP' hlo hhg hm hs' hr
  go_enter Try.func27, Try.ntmps27
  go_wp2_with (fail)
  go_ret2
  rw [HB.out, HP.out]
  exact ⟨rfl, rfl⟩
end Go.Proofs.Ytanpnibabnedbaa
