/-
  Package stagepostref12: a number's digits.
-/
import Derived.Test.YtjddhakaebkkeaaDoorUQa
import Derived.Lib.ItoaNum
namespace Go.Proofs.YtjddhakaebkkeaaDoor
open Go.RowKit
attribute [local go_sem ↓] Go.wp_at_zero Go.wp_at_succ

theorem dec_len : ∀ (k n : Nat), n < 10 ^ (k + 1) → (Lib.decDigits n).length ≤ k + 1
  | 0, n, h => by rw [Lib.decDigits_one (by omega)]; simp
  | k + 1, n, h => by
    by_cases h10 : n < 10
    · rw [Lib.decDigits_one h10]; simp
    · have ih := dec_len k (n / 10) (by rw [Nat.pow_succ] at h; omega)
      rw [Lib.decDigits, dif_neg h10, List.length_append]
      simp only [List.length_cons, List.length_nil]
      omega
theorem dec_len20 {n : Nat} (h : n < 18446744073709551616) : (Lib.decDigits n).length ≤ 20 := dec_len 19 n (by omega)
theorem dec_two {n : Nat} (h : ¬ n < 10) : Lib.decDigits n = Lib.decDigits (n / 10) ++ Lib.decDigits (n % 10) := by
  rw [Lib.decDigits_one (i := n % 10) (by omega)]
  conv => lhs; rw [Lib.decDigits]
  rw [dif_neg h]

set_option maxRecDepth 20000 in
set_option maxHeartbeats 1600000 in
theorem rdigits_any (n : Nat) : n < 18446744073709551616 → ∀ w, Calls Tryd.prog 41 #[.int .u64 n] w fun e w' => e = .returned (.string ⟨(Lib.decDigits n).toArray⟩) ∧ w' = w := by
  induction n using Nat.strongRecOn with
  | ind n ih =>
    intro hn w
    by_cases h : n < 10
    · have hc : n = 0 ∨ n = 1 ∨ n = 2 ∨ n = 3 ∨ n = 4 ∨ n = 5 ∨ n = 6 ∨ n = 7 ∨ n = 8 ∨ n = 9 := by omega
      clear ih hn h
      rcases hc with rfl | rfl | rfl | rfl | rfl | rfl | rfl | rfl | rfl | rfl
      all_goals
        go_enter Tryd.func41, Tryd.ntmps41
        go_wp2
        go_ret
        exact ⟨by rw [Lib.decDigits_one (by omega)]; rfl, rfl⟩
    · have I1 := hide (ih (n / 10) (by omega) (by omega))
      have I2 := hide (ih (n % 10) (by omega) (by omega))
      have e1 : ((n / 10 : Nat) : Int) = (n : Int) / 10 := by omega
      have e2 : ((n % 10 : Nat) : Int) = (n : Int) % 10 := by omega
      rw [e1] at I1
      rw [e2] at I2
      have s1 := dec_len20 (n := n / 10) (by omega)
      have s2 := dec_len20 (n := n % 10) (by omega)
      obtain ⟨A, hA⟩ : ∃ A : ByteArray, A = ⟨(Lib.decDigits (n / 10)).toArray⟩ := ⟨_, rfl⟩
      obtain ⟨B, hB⟩ : ∃ B : ByteArray, B = ⟨(Lib.decDigits (n % 10)).toArray⟩ := ⟨_, rfl⟩
      have zA : A.size ≤ 20 := by rw [hA]; show (Lib.decDigits _).toArray.size ≤ _; rw [List.size_toArray]; exact s1
      have zB : B.size ≤ 20 := by rw [hB]; show (Lib.decDigits _).toArray.size ≤ _; rw [List.size_toArray]; exact s2
      have HR : Hid ((⟨(Lib.decDigits n).toArray⟩ : ByteArray) = A ++ B) := by
        show _ = _
        rw [hA, hB, dec_two h]
        apply ByteArray.ext
        simp [ByteArray.data_append]
      rw [← hA] at I1
      rw [← hB] at I2
      rw [HR.out]
      have hni : ¬ (n : Int) < 10 := by omega
      have T1 : Hid True := trivial
      clear ih h e1 e2 s1 s2 hA hB HR
      go_enter Tryd.func41, Tryd.ntmps41
      go_wp2_with (first
        | (go_at_call 41; have ta := T1.out; refine (I1.out _).mono ?_; rintro e w1 ⟨rfl, hw⟩; clear T1 ta; subst hw)
        | (go_at_call 41; refine (I2.out _).mono ?_; rintro e w2 ⟨rfl, hw⟩; subst hw))
      go_ret
      exact ⟨rfl, rfl⟩
end Go.Proofs.YtjddhakaebkkeaaDoor
