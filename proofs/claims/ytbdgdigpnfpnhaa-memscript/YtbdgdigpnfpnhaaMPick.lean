/-
  Which of some ways a number picks.
-/
import Derived.Test.YtbdgdigpnfpnhaaKA
namespace Go.Proofs.Ytbdgdigpnfpnhaa.Q.P
open Go.RowKit

def pickN (x : Int) (n : Nat) : Nat := (if x.tmod n < 0 then x.tmod n + n else x.tmod n).toNat
theorem pickN_lt (x : Int) {n : Nat} (hn : 0 < n) : pickN x n < n := by
  have u1 := Int.tmod_lt_of_pos x (b := (n : Int)) (by omega)
  have u2 := Int.lt_tmod_of_pos x (b := (n : Int)) (by omega)
  unfold pickN
  split <;> omega

set_option maxHeartbeats 800000 in
theorem pick_is (w : World) (x : Int) (n : Nat) (hn : 0 < n) (hn2 : n ≤ 281474976710656) (_h1 : -9223372036854775808 ≤ x) (_h2 : x ≤ 9223372036854775807) :
    Calls Try.prog 18 #[.int .i64 x, .int .i64 (n : Int)] w fun e w' => e = .returned (.int .i64 ((pickN x n : Nat) : Int)) ∧ w' = w := by
  obtain ⟨P, hP⟩ : ∃ P, P = pickN x n := ⟨_, rfl⟩
  rw [← hP]
  unfold pickN at hP
  obtain ⟨r, hr⟩ : ∃ r, r = x.tmod n := ⟨_, rfl⟩
  rw [← hr] at hP
  have u1 : r < n := by rw [hr]; exact Int.tmod_lt_of_pos x (by omega)
  have u2 : -(n : Int) < r := by rw [hr]; exact Int.lt_tmod_of_pos x (by omega)
  have i0 : ¬ ((n : Int) = 0) := by omega
  have i1 : ((n : Int) == 0) = false := by simp; omega
  have hr' := hr.symm
  clear hr
  by_cases h0 : r < 0
  · rw [if_pos h0] at hP
    have HK : Hid (r + (n : Int) = (P : Int)) := by show _ = _; omega
    have i2 : IntKind.i64.wrap (r + (n : Int)) = r + (n : Int) := by rw [IntKind.wrap_i64]; omega
    clear hP
    go_enter Try.func18, Try.ntmps18
    go_wp2_with (fail)
    go_ret
    refine ⟨?_, rfl⟩
    rw [← HK.out]
    rfl
  · rw [if_neg h0] at hP
    have HK : Hid (r = (P : Int)) := by show _ = _; omega
    clear hP
    go_enter Try.func18, Try.ntmps18
    go_wp2_with (fail)
    go_ret
    refine ⟨?_, rfl⟩
    rw [← HK.out]
    rfl
end Go.Proofs.Ytbdgdigpnfpnhaa.Q.P
