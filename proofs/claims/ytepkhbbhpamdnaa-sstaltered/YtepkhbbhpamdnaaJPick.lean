/-
  A place within a length: what the kit's call answers.
-/
import Derived.Test.YtepkhbbhpamdnaaSC
namespace Go.Proofs.Ytepkhbbhpamdnaa
open Go.RowKit

set_option maxHeartbeats 800000 in
theorem jpick_any (w : World) (x : Int) (n : Nat) (hn : 0 < n) (hn2 : n ≤ 281474976710656) (_h1 : -9223372036854775808 ≤ x) (_h2 : x ≤ 9223372036854775807) :
    Calls Try.prog 8 #[.int .i64 x, .int .i64 (n : Int)] w fun e w' => ∃ k : Nat, k < n ∧ e = .returned (.int .i64 (k : Int)) ∧ w' = w := by
  obtain ⟨r, hr⟩ : ∃ r, r = x.tmod n := ⟨_, rfl⟩
  have u1 : r < n := by rw [hr]; exact Int.tmod_lt_of_pos x (by omega)
  have u2 : -(n : Int) < r := by rw [hr]; exact Int.lt_tmod_of_pos x (by omega)
  have i0 : ¬ ((n : Int) = 0) := by omega
  have i1 : ((n : Int) == 0) = false := by simp; omega
  have hr' := hr.symm
  clear hr
  by_cases h0 : r < 0
  · obtain ⟨k, hk⟩ : ∃ k : Nat, (k : Int) = r + n := ⟨(r + n).toNat, by omega⟩
    have HK : Hid (r + (n : Int) = (k : Int)) := hk.symm
    have hkn : k < n := by omega
    have i2 : IntKind.i64.wrap (r + (n : Int)) = r + (n : Int) := by rw [IntKind.wrap_i64]; omega
    clear hk
    go_enter Try.func8, Try.ntmps8
    go_wp2_with (fail)
    go_ret
    refine ⟨k, hkn, ?_, rfl⟩
    rw [← HK.out]
    rfl
  · obtain ⟨k, hk⟩ : ∃ k : Nat, (k : Int) = r := ⟨r.toNat, by omega⟩
    have hkn : k < n := by omega
    subst hk
    go_enter Try.func8, Try.ntmps8
    go_wp2_with (fail)
    go_ret
    exact ⟨k, hkn, rfl, rfl⟩
end Go.Proofs.Ytepkhbbhpamdnaa
