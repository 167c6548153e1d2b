/-
  Sums, differences, products, quotients, what is left, and texts joined: what the program answers is what whole numbers say, or ErrOverflow, ErrZero, ErrLong.
-/
import Derived.Test.YtjddhakaebkkeaaGreatDoorUTake
namespace Go.Proofs.YtjddhakaebkkeaaGreatDoor
open Go.RowKit

/-- Numbers of an Int. -/
structure I64 (n : Int) : Prop where
  lo : -9223372036854775808 ≤ n
  hi : n ≤ 9223372036854775807

theorem fit1 {n : Int} (h : I64 n) : fitR n = (numV n, 0) := fitR_in h.lo h.hi
theorem fit0 {n : Int} (h : ¬ I64 n) : fitR n = (nullV, 221) := by
  refine fitR_out ?_
  by_cases h1 : -9223372036854775808 ≤ n
  · by_cases h2 : n ≤ 9223372036854775807
    · exact absurd ⟨h1, h2⟩ h
    · omega
  · omega
/-- A value and an error, as they are answered. -/
abbrev tupR (r : Val × Int) : Value := .tuple #[.agg #[.int .u8 r.1.k, .int .i64 r.1.n, .string r.1.t], .int .i64 r.2]

set_option maxHeartbeats 1600000 in
theorem sum_in (w : World) (a b : Int) (ha : I64 a) (hb : I64 b) (hs : I64 (a + b)) :
    Calls Tryz.prog 51 #[.int .i64 a, .int .i64 b] w fun e w' => e = .returned (.tuple #[.agg #[.int .u8 2, .int .i64 (a + b), .string ⟨#[]⟩], .int .i64 0]) ∧ Below w.heap.size w w' := by
  obtain ⟨a1, a2⟩ := ha
  obtain ⟨b1, b2⟩ := hb
  obtain ⟨s1, s2⟩ := hs
  have ws : IntKind.i64.wrap (a + b) = a + b := by rw [IntKind.wrap_i64]; omega
  rcases Int.lt_trichotomy b 0 with h | h | h
  · have g1 : ¬ 0 < b := by omega
    have w2 : IntKind.i64.wrap (-9223372036854775808 - b) = -9223372036854775808 - b := by rw [IntKind.wrap_i64]; omega
    have g2 : ¬ a < -9223372036854775808 - b := by omega
    clear a1 a2 b1 b2 s1 s2
    go_enter Tryz.func51, Tryz.ntmps51
    go_wp2_with (go_at_call 50; refine (number_any _ _).mono ?_; rintro e w' ⟨rfl, rfl⟩)
    refine bodyPost_ret (v := .tuple #[.agg #[.int .u8 2, .int .i64 (a + b), .string ⟨#[]⟩], .int .i64 0]) (by simp [results, Tryz.results51, go_sem]; try rfl) rfl ⟨rfl, ?_⟩
    exact ((Below.refl _ _).alloc (Nat.le_refl _) _).alloc (by simp) _
  · subst h
    have wz : wrap64 a = a := (by unfold wrap64; omega)
    clear a1 a2 b1 b2 s1 s2
    go_enter Tryz.func51, Tryz.ntmps51
    go_wp2_with (go_at_call 50; refine (number_any _ _).mono ?_; rintro e w' ⟨rfl, rfl⟩)
    refine bodyPost_ret (v := .tuple #[.agg #[.int .u8 2, .int .i64 (a + 0), .string ⟨#[]⟩], .int .i64 0]) (by simp [results, Tryz.results51, go_sem]; try rfl) rfl ⟨rfl, ?_⟩
    exact ((Below.refl _ _).alloc (Nat.le_refl _) _).alloc (by simp) _
  · have g1 : ¬ b < 0 := by omega
    have w2 : IntKind.i64.wrap (9223372036854775807 - b) = 9223372036854775807 - b := by rw [IntKind.wrap_i64]; omega
    have g2 : ¬ 9223372036854775807 - b < a := by omega
    clear a1 a2 b1 b2 s1 s2
    go_enter Tryz.func51, Tryz.ntmps51
    go_wp2_with (go_at_call 50; refine (number_any _ _).mono ?_; rintro e w' ⟨rfl, rfl⟩)
    refine bodyPost_ret (v := .tuple #[.agg #[.int .u8 2, .int .i64 (a + b), .string ⟨#[]⟩], .int .i64 0]) (by simp [results, Tryz.results51, go_sem]; try rfl) rfl ⟨rfl, ?_⟩
    exact ((Below.refl _ _).alloc (Nat.le_refl _) _).alloc (by simp) _

set_option maxHeartbeats 1600000 in
theorem sum_out (w : World) (a b : Int) (ha : I64 a) (hb : I64 b) (hs : ¬ I64 (a + b)) :
    Calls Tryz.prog 51 #[.int .i64 a, .int .i64 b] w fun e w' => e = .returned (.tuple #[.agg #[.int .u8 0, .int .i64 0, .string ⟨#[]⟩], .int .i64 221]) ∧ Below w.heap.size w w' := by
  obtain ⟨a1, a2⟩ := ha
  obtain ⟨b1, b2⟩ := hb
  have hs : a + b < -9223372036854775808 ∨ 9223372036854775807 < a + b := by
    by_cases h : -9223372036854775808 ≤ a + b
    · by_cases h2 : a + b ≤ 9223372036854775807
      · exact absurd ⟨h, h2⟩ hs
      · omega
    · omega
  rcases Int.lt_trichotomy b 0 with h | h | h
  · have g1 : ¬ 0 < b := by omega
    have w2 : IntKind.i64.wrap (-9223372036854775808 - b) = -9223372036854775808 - b := by rw [IntKind.wrap_i64]; omega
    have g2 : a < -9223372036854775808 - b := by omega
    clear a1 a2 b1 b2 hs
    go_enter Tryz.func51, Tryz.ntmps51
    go_wp2
    refine bodyPost_ret (v := .tuple #[.agg #[.int .u8 0, .int .i64 0, .string ⟨#[]⟩], .int .i64 221]) (by simp [results, Tryz.results51, go_sem]; try rfl) rfl ⟨rfl, ?_⟩
    exact (Below.refl _ _).alloc (Nat.le_refl _) _
  · omega
  · have g1 : ¬ b < 0 := by omega
    have w2 : IntKind.i64.wrap (9223372036854775807 - b) = 9223372036854775807 - b := by rw [IntKind.wrap_i64]; omega
    have g2 : 9223372036854775807 - b < a := by omega
    clear a1 a2 b1 b2 hs
    go_enter Tryz.func51, Tryz.ntmps51
    go_wp2
    refine bodyPost_ret (v := .tuple #[.agg #[.int .u8 0, .int .i64 0, .string ⟨#[]⟩], .int .i64 221]) (by simp [results, Tryz.results51, go_sem]; try rfl) rfl ⟨rfl, ?_⟩
    exact (Below.refl _ _).alloc (Nat.le_refl _) _

theorem sum_any (w : World) (a b : Int) (ha : I64 a) (hb : I64 b) : Calls Tryz.prog 51 #[.int .i64 a, .int .i64 b] w fun e w' => e = .returned (tupR (fitR (a + b))) ∧ Below w.heap.size w w' := by
  by_cases h : I64 (a + b)
  · rw [fit1 h]; exact sum_in w a b ha hb h
  · rw [fit0 h]; exact sum_out w a b ha hb h

set_option maxHeartbeats 1600000 in
theorem difference_in (w : World) (a b : Int) (ha : I64 a) (hb : I64 b) (hs : I64 (a - b)) :
    Calls Tryz.prog 26 #[.int .i64 a, .int .i64 b] w fun e w' => e = .returned (.tuple #[.agg #[.int .u8 2, .int .i64 (a - b), .string ⟨#[]⟩], .int .i64 0]) ∧ Below w.heap.size w w' := by
  obtain ⟨a1, a2⟩ := ha
  obtain ⟨b1, b2⟩ := hb
  obtain ⟨s1, s2⟩ := hs
  have ws : IntKind.i64.wrap (a - b) = a - b := by rw [IntKind.wrap_i64]; omega
  rcases Int.lt_trichotomy b 0 with h | h | h
  · have g1 : ¬ 0 < b := by omega
    have w2 : IntKind.i64.wrap (9223372036854775807 + b) = 9223372036854775807 + b := by rw [IntKind.wrap_i64]; omega
    have g2 : ¬ 9223372036854775807 + b < a := by omega
    clear a1 a2 b1 b2 s1 s2
    go_enter Tryz.func26, Tryz.ntmps26
    go_wp2_with (go_at_call 50; refine (number_any _ _).mono ?_; rintro e w' ⟨rfl, rfl⟩)
    refine bodyPost_ret (v := .tuple #[.agg #[.int .u8 2, .int .i64 (a - b), .string ⟨#[]⟩], .int .i64 0]) (by simp [results, Tryz.results26, go_sem]; try rfl) rfl ⟨rfl, ?_⟩
    exact ((Below.refl _ _).alloc (Nat.le_refl _) _).alloc (by simp) _
  · subst h
    have wz : wrap64 a = a := (by unfold wrap64; omega)
    clear a1 a2 b1 b2 s1 s2
    go_enter Tryz.func26, Tryz.ntmps26
    go_wp2_with (go_at_call 50; refine (number_any _ _).mono ?_; rintro e w' ⟨rfl, rfl⟩)
    refine bodyPost_ret (v := .tuple #[.agg #[.int .u8 2, .int .i64 (a - 0), .string ⟨#[]⟩], .int .i64 0]) (by simp [results, Tryz.results26, go_sem]; try rfl) rfl ⟨rfl, ?_⟩
    exact ((Below.refl _ _).alloc (Nat.le_refl _) _).alloc (by simp) _
  · have g1 : ¬ b < 0 := by omega
    have w2 : IntKind.i64.wrap (-9223372036854775808 + b) = -9223372036854775808 + b := by rw [IntKind.wrap_i64]; omega
    have g2 : ¬ a < -9223372036854775808 + b := by omega
    clear a1 a2 b1 b2 s1 s2
    go_enter Tryz.func26, Tryz.ntmps26
    go_wp2_with (go_at_call 50; refine (number_any _ _).mono ?_; rintro e w' ⟨rfl, rfl⟩)
    refine bodyPost_ret (v := .tuple #[.agg #[.int .u8 2, .int .i64 (a - b), .string ⟨#[]⟩], .int .i64 0]) (by simp [results, Tryz.results26, go_sem]; try rfl) rfl ⟨rfl, ?_⟩
    exact ((Below.refl _ _).alloc (Nat.le_refl _) _).alloc (by simp) _

set_option maxHeartbeats 1600000 in
theorem difference_out (w : World) (a b : Int) (ha : I64 a) (hb : I64 b) (hs : ¬ I64 (a - b)) :
    Calls Tryz.prog 26 #[.int .i64 a, .int .i64 b] w fun e w' => e = .returned (.tuple #[.agg #[.int .u8 0, .int .i64 0, .string ⟨#[]⟩], .int .i64 221]) ∧ Below w.heap.size w w' := by
  obtain ⟨a1, a2⟩ := ha
  obtain ⟨b1, b2⟩ := hb
  have hs : a - b < -9223372036854775808 ∨ 9223372036854775807 < a - b := by
    by_cases h : -9223372036854775808 ≤ a - b
    · by_cases h2 : a - b ≤ 9223372036854775807
      · exact absurd ⟨h, h2⟩ hs
      · omega
    · omega
  rcases Int.lt_trichotomy b 0 with h | h | h
  · have g1 : ¬ 0 < b := by omega
    have w2 : IntKind.i64.wrap (9223372036854775807 + b) = 9223372036854775807 + b := by rw [IntKind.wrap_i64]; omega
    have g2 : 9223372036854775807 + b < a := by omega
    clear a1 a2 b1 b2 hs
    go_enter Tryz.func26, Tryz.ntmps26
    go_wp2
    refine bodyPost_ret (v := .tuple #[.agg #[.int .u8 0, .int .i64 0, .string ⟨#[]⟩], .int .i64 221]) (by simp [results, Tryz.results26, go_sem]; try rfl) rfl ⟨rfl, ?_⟩
    exact (Below.refl _ _).alloc (Nat.le_refl _) _
  · omega
  · have g1 : ¬ b < 0 := by omega
    have w2 : IntKind.i64.wrap (-9223372036854775808 + b) = -9223372036854775808 + b := by rw [IntKind.wrap_i64]; omega
    have g2 : a < -9223372036854775808 + b := by omega
    clear a1 a2 b1 b2 hs
    go_enter Tryz.func26, Tryz.ntmps26
    go_wp2
    refine bodyPost_ret (v := .tuple #[.agg #[.int .u8 0, .int .i64 0, .string ⟨#[]⟩], .int .i64 221]) (by simp [results, Tryz.results26, go_sem]; try rfl) rfl ⟨rfl, ?_⟩
    exact (Below.refl _ _).alloc (Nat.le_refl _) _

theorem difference_any (w : World) (a b : Int) (ha : I64 a) (hb : I64 b) : Calls Tryz.prog 26 #[.int .i64 a, .int .i64 b] w fun e w' => e = .returned (tupR (fitR (a - b))) ∧ Below w.heap.size w w' := by
  by_cases h : I64 (a - b)
  · rw [fit1 h]; exact difference_in w a b ha hb h
  · rw [fit0 h]; exact difference_out w a b ha hb h

theorem i64_of_bounds {n : Int} (h1 : -9223372036854775808 ≤ n) (h2 : n ≤ 9223372036854775807) : I64 n := ⟨h1, h2⟩
theorem inI_64 (n : Int) : inI n = true ↔ I64 n := by rw [inI_iff]; exact ⟨fun h => ⟨h.1, h.2⟩, fun h => ⟨h.lo, h.hi⟩⟩

/-- Quotients of the greatest and of the least Int. -/
theorem quoM_pos (b : Int) (hb : 0 < b) : ∃ Q : Int, (9223372036854775807 : Int).tdiv b = Q ∧ 0 ≤ Q ∧ Q ≤ 9223372036854775807 ∧ ∀ a : Int, Q < a ↔ 9223372036854775807 < a * b := by
  refine ⟨_, rfl, ?_, ?_, ?_⟩
  all_goals rw [Int.tdiv_eq_ediv_of_nonneg (by decide)]
  · exact Int.ediv_nonneg (by decide) (by omega)
  · exact Int.ediv_le_self _ (by decide)
  · intro a; exact Int.ediv_lt_iff_lt_mul hb
theorem quoM_neg (b : Int) (hb : b < 0) : ∃ Q : Int, (9223372036854775807 : Int).tdiv b = Q ∧ -9223372036854775807 ≤ Q ∧ Q ≤ 0 ∧ ∀ a : Int, a < Q ↔ 9223372036854775807 < a * b := by
  obtain ⟨Q, h1, h2, h3, h4⟩ := quoM_pos (-b) (by omega)
  rw [Int.tdiv_neg] at h1
  refine ⟨-Q, by omega, by omega, by omega, fun a => ?_⟩
  have h := h4 (-a)
  rw [Int.neg_mul_neg] at h
  rw [← h]; omega
theorem quoL_pos (b : Int) (hb : 0 < b) : ∃ Q : Int, (-9223372036854775808 : Int).tdiv b = Q ∧ -9223372036854775808 ≤ Q ∧ Q ≤ 0 ∧ ∀ a : Int, a < Q ↔ a * b < -9223372036854775808 := by
  have e : (-9223372036854775808 : Int).tdiv b = -((9223372036854775808 : Int) / b) := by
    rw [show (-9223372036854775808 : Int) = -(9223372036854775808) from rfl, Int.neg_tdiv, Int.tdiv_eq_ediv_of_nonneg (by decide)]
  have n0 : 0 ≤ (9223372036854775808 : Int) / b := Int.ediv_nonneg (by decide) (by omega)
  have n1 : (9223372036854775808 : Int) / b ≤ 9223372036854775808 := Int.ediv_le_self _ (by decide)
  refine ⟨_, e, by omega, by omega, fun a => ?_⟩
  have h : (9223372036854775808 : Int) / b < -a ↔ 9223372036854775808 < -a * b := Int.ediv_lt_iff_lt_mul hb
  rw [Int.neg_mul] at h
  omega

set_option maxHeartbeats 1600000 in
theorem great_any (w : World) (a b : Int) : Calls Tryz.prog 66 #[.int .i64 a, .int .i64 b] w fun e w' => e = .returned (.bool (!inI (a * b))) ∧ w' = w := by
  obtain ⟨T, hT⟩ : ∃ T, T = !inI (a * b) := ⟨_, rfl⟩
  rw [← hT]
  have HT : Hid (∀ p : Prop, [Decidable p] → (p ↔ ¬ I64 (a * b)) → T = decide p) := fun p _ hp => by
    rw [hT, Bool.eq_iff_iff, decide_eq_true_iff, hp, ← inI_64]; simp
  clear hT
  rcases Int.lt_trichotomy a 0 with h | h | h
  · rcases Int.lt_trichotomy b 0 with k | k | k
    · obtain ⟨Q, q1, q2, q3, q4⟩ := quoM_neg b k
      have HR := hide (HT.out (a < Q) ⟨fun x y => by have := (q4 a).mp x; have := y.hi; omega, fun x => (q4 a).mpr (by
        have := Int.mul_pos_of_neg_of_neg h k
        by_cases z : 9223372036854775807 < a * b
        · exact z
        · exact absurd ⟨by omega, by omega⟩ x)⟩)
      have g1 : ¬ 0 < a := by omega
      have g2 : ¬ 0 < b := by omega
      have g3 : ¬ b = 0 := by omega
      have w1 : IntKind.i64.wrap ((9223372036854775807 : Int).tdiv b) = Q := by rw [IntKind.wrap_i64, q1]; omega
      clear q1 q2 q3 q4 HT
      go_enter Tryz.func66, Tryz.ntmps66
      go_wp2
      go_ret
      exact ⟨by rw [HR.out]; rfl, rfl⟩
    · subst k
      have HR := hide (HT.out False ⟨fun x => x.elim, fun x => x (by rw [Int.mul_zero]; exact ⟨by decide, by decide⟩)⟩)
      have g1 : ¬ 0 < a := by omega
      clear HT
      go_enter Tryz.func66, Tryz.ntmps66
      go_wp2
      go_ret
      exact ⟨by rw [HR.out]; rfl, rfl⟩
    · obtain ⟨Q, q1, q2, q3, q4⟩ := quoL_pos b k
      have HR := hide (HT.out (a < Q) ⟨fun x y => by have := (q4 a).mp x; have := y.lo; omega, fun x => (q4 a).mpr (by
        have := Int.mul_neg_of_neg_of_pos h k
        by_cases z : a * b < -9223372036854775808
        · exact z
        · exact absurd ⟨by omega, by omega⟩ x)⟩)
      have g1 : ¬ 0 < a := by omega
      have g2 : ¬ b < 0 := by omega
      have g3 : ¬ b = 0 := by omega
      have w1 : wrap64 (-Int.tdiv 9223372036854775808 b) = Q := by rw [← Int.neg_tdiv]; rw [show (-(9223372036854775808 : Int)) = -9223372036854775808 from rfl, q1]; unfold wrap64; omega
      clear q1 q2 q3 q4 HT
      go_enter Tryz.func66, Tryz.ntmps66
      go_wp2
      go_ret
      exact ⟨by rw [HR.out]; rfl, rfl⟩
  · subst h
    have HR := hide (HT.out False ⟨fun x => x.elim, fun x => x (by rw [Int.zero_mul]; exact ⟨by decide, by decide⟩)⟩)
    clear HT
    go_enter Tryz.func66, Tryz.ntmps66
    go_wp2
    go_ret
    exact ⟨by rw [HR.out]; rfl, rfl⟩
  · rcases Int.lt_trichotomy b 0 with k | k | k
    · obtain ⟨Q, q1, q2, q3, q4⟩ := quoL_pos a h
      have HR := hide (HT.out (b < Q) ⟨fun x y => by have z := (q4 b).mp x; have := y.lo; rw [Int.mul_comm b a] at z; omega, fun x => (q4 b).mpr (by
        have := Int.mul_neg_of_pos_of_neg h k
        rw [Int.mul_comm b a]
        by_cases z : a * b < -9223372036854775808
        · exact z
        · exact absurd ⟨by omega, by omega⟩ x)⟩)
      have g1 : ¬ a < 0 := by omega
      have g2 : ¬ 0 < b := by omega
      have g3 : ¬ a = 0 := by omega
      have w1 : wrap64 (-Int.tdiv 9223372036854775808 a) = Q := by rw [← Int.neg_tdiv]; rw [show (-(9223372036854775808 : Int)) = -9223372036854775808 from rfl, q1]; unfold wrap64; omega
      clear q1 q2 q3 q4 HT
      go_enter Tryz.func66, Tryz.ntmps66
      go_wp2
      go_ret
      exact ⟨by rw [HR.out]; rfl, rfl⟩
    · subst k
      have HR := hide (HT.out False ⟨fun x => x.elim, fun x => x (by rw [Int.mul_zero]; exact ⟨by decide, by decide⟩)⟩)
      have g1 : ¬ a < 0 := by omega
      clear HT
      go_enter Tryz.func66, Tryz.ntmps66
      go_wp2
      go_ret
      exact ⟨by rw [HR.out]; rfl, rfl⟩
    · obtain ⟨Q, q1, q2, q3, q4⟩ := quoM_pos b k
      have HR := hide (HT.out (Q < a) ⟨fun x y => by have := (q4 a).mp x; have := y.hi; omega, fun x => (q4 a).mpr (by
        have := Int.mul_pos h k
        by_cases z : 9223372036854775807 < a * b
        · exact z
        · exact absurd ⟨by omega, by omega⟩ x)⟩)
      have g1 : ¬ a < 0 := by omega
      have g2 : ¬ b < 0 := by omega
      have g3 : ¬ b = 0 := by omega
      have w1 : IntKind.i64.wrap ((9223372036854775807 : Int).tdiv b) = Q := by rw [IntKind.wrap_i64, q1]; omega
      clear q1 q2 q3 q4 HT
      go_enter Tryz.func66, Tryz.ntmps66
      go_wp2
      go_ret
      exact ⟨by rw [HR.out]; rfl, rfl⟩

set_option maxHeartbeats 800000 in
theorem product_any (w : World) (a b : Int) : Calls Tryz.prog 52 #[.int .i64 a, .int .i64 b] w fun e w' => e = .returned (tupR (fitR (a * b))) ∧ Below w.heap.size w w' := by
  obtain ⟨G, hG⟩ : ∃ G, G = !inI (a * b) := ⟨_, rfl⟩
  have GR : Hid (∀ wx, Calls Tryz.prog 66 #[.int .i64 a, .int .i64 b] wx fun e w' => e = .returned (.bool G) ∧ w' = wx) := fun wx => by rw [hG]; exact great_any wx a b
  by_cases h : I64 (a * b)
  · rw [fit1 h]
    have e : G = false := by rw [hG, (inI_64 _).mpr h]; rfl
    subst e
    obtain ⟨P, hP⟩ : ∃ P, P = a * b := ⟨_, rfl⟩
    rw [← hP] at h
    have ws : IntKind.i64.wrap (a * b) = P := by rw [← hP, IntKind.wrap_i64]; have := h.lo; have := h.hi; omega
    rw [← hP]
    clear hG h hP
    go_enter Tryz.func52, Tryz.ntmps52
    go_wp2_with (first
      | (go_at_call 66; refine (GR.out _).mono ?_; rintro e w' ⟨rfl, rfl⟩)
      | (go_at_call 50; refine (number_any _ _).mono ?_; rintro e w' ⟨rfl, rfl⟩))
    refine bodyPost_ret (v := .tuple #[.agg #[.int .u8 2, .int .i64 P, .string ⟨#[]⟩], .int .i64 0]) (by simp [results, Tryz.results52, go_sem]; try rfl) rfl ⟨rfl, ?_⟩
    exact ((Below.refl _ _).alloc (Nat.le_refl _) _).alloc (by simp) _
  · rw [fit0 h]
    have e : G = true := by rw [hG]; cases z : inI (a * b); · rfl
                            · exact absurd ((inI_64 _).mp z) h
    subst e
    clear hG h
    go_enter Tryz.func52, Tryz.ntmps52
    go_wp2_with (go_at_call 66; refine (GR.out _).mono ?_; rintro e w' ⟨rfl, rfl⟩)
    refine bodyPost_ret (v := .tuple #[.agg #[.int .u8 0, .int .i64 0, .string ⟨#[]⟩], .int .i64 221]) (by simp [results, Tryz.results52, go_sem]; try rfl) rfl ⟨rfl, ?_⟩
    exact (Below.refl _ _).alloc (Nat.le_refl _) _

theorem tdiv_64 {a b : Int} (ha : I64 a) (hb : ¬ b = 0) (h : ¬ (a = -9223372036854775808 ∧ b = -1)) : I64 (a.tdiv b) := by
  have h1 := Int.natAbs_tdiv_le_natAbs a b
  have := ha.lo
  have := ha.hi
  by_cases e : a = -9223372036854775808
  · subst e
    have hb1 : ¬ b = -1 := fun e => h ⟨rfl, e⟩
    rcases Int.lt_or_gt_of_ne hb with k | k
    · have h2 : (-9223372036854775808 : Int).tdiv b = (9223372036854775808 : Int) / (-b) := by
        rw [show (-9223372036854775808 : Int) = -(9223372036854775808) from rfl, Int.neg_tdiv, ← Int.tdiv_neg, Int.tdiv_eq_ediv_of_nonneg (by decide)]
      have h3 : (9223372036854775808 : Int) / (-b) < 9223372036854775808 := by
        rw [Int.ediv_lt_iff_lt_mul (by omega)]
        omega
      have h4 : 0 ≤ (9223372036854775808 : Int) / (-b) := Int.ediv_nonneg (by decide) (by omega)
      rw [h2]
      exact ⟨by omega, by omega⟩
    · obtain ⟨Q, q1, q2, q3, _⟩ := quoL_pos b k
      rw [q1]; exact ⟨by omega, by omega⟩
  · exact ⟨by omega, by omega⟩
theorem tmod_64 {a b : Int} (ha : I64 a) : I64 (a.tmod b) := by
  have h1 : (a.tmod b).natAbs ≤ a.natAbs := by rw [Int.natAbs_tmod]; exact Nat.mod_le _ _
  have := ha.lo
  have := ha.hi
  by_cases h : 0 ≤ a
  · have := Int.tmod_nonneg b h
    exact ⟨by omega, by omega⟩
  · have h2 : 0 ≤ (-a).tmod b := Int.tmod_nonneg b (by omega)
    rw [Int.neg_tmod] at h2
    exact ⟨by omega, by omega⟩

set_option maxHeartbeats 800000 in
theorem quotient_any (w : World) (a b : Int) (ha : I64 a) : Calls Tryz.prog 53 #[.int .i64 a, .int .i64 b] w fun e w' => e = .returned (tupR (divR a b)) ∧ Below w.heap.size w w' := by
  by_cases hb : b = 0
  · subst hb
    have e : divR a 0 = (nullV, 222) := rfl
    rw [e]
    go_enter Tryz.func53, Tryz.ntmps53
    go_wp2
    refine bodyPost_ret (v := .tuple #[.agg #[.int .u8 0, .int .i64 0, .string ⟨#[]⟩], .int .i64 222]) (by simp [results, Tryz.results53, go_sem]; try rfl) rfl ⟨rfl, ?_⟩
    exact (Below.refl _ _).alloc (Nat.le_refl _) _
  · by_cases h : a = -9223372036854775808 ∧ b = -1
    · obtain ⟨rfl, rfl⟩ := h
      have e : divR (-9223372036854775808) (-1) = (nullV, 221) := by rfl
      rw [e]
      go_enter Tryz.func53, Tryz.ntmps53
      go_wp2
      refine bodyPost_ret (v := .tuple #[.agg #[.int .u8 0, .int .i64 0, .string ⟨#[]⟩], .int .i64 221]) (by simp [results, Tryz.results53, go_sem]; try rfl) rfl ⟨rfl, ?_⟩
      exact (Below.refl _ _).alloc (Nat.le_refl _) _
    · have h1 := tdiv_64 ha hb h
      have e : divR a b = (numV (a.tdiv b), 0) := by unfold divR; rw [if_neg hb, fit1 h1]
      rw [e]
      obtain ⟨P, hP⟩ : ∃ P, P = a.tdiv b := ⟨_, rfl⟩
      rw [← hP] at h1 ⊢
      have ws : IntKind.i64.wrap (a.tdiv b) = P := by rw [← hP, IntKind.wrap_i64]; have := h1.lo; have := h1.hi; omega
      have gb : (b == 0) = false := by simpa using hb
      have hh : (a == -9223372036854775808) = false ∨ ((a == -9223372036854775808) = true ∧ (b == -1) = false) := by
        by_cases z : a = -9223372036854775808
        · exact .inr ⟨by simpa using z, by simpa using fun y => h ⟨z, y⟩⟩
        · exact .inl (by simpa using z)
      clear h1 hP e h ha
      rcases hh with q | ⟨q, r⟩
      · go_enter Tryz.func53, Tryz.ntmps53
        go_wp2_with (go_at_call 50; refine (number_any _ _).mono ?_; rintro e w' ⟨rfl, rfl⟩)
        refine bodyPost_ret (v := .tuple #[.agg #[.int .u8 2, .int .i64 P, .string ⟨#[]⟩], .int .i64 0]) (by simp [results, Tryz.results53, go_sem]; try rfl) rfl ⟨rfl, ?_⟩
        exact ((Below.refl _ _).alloc (Nat.le_refl _) _).alloc (by simp) _
      · go_enter Tryz.func53, Tryz.ntmps53
        go_wp2_with (go_at_call 50; refine (number_any _ _).mono ?_; rintro e w' ⟨rfl, rfl⟩)
        refine bodyPost_ret (v := .tuple #[.agg #[.int .u8 2, .int .i64 P, .string ⟨#[]⟩], .int .i64 0]) (by simp [results, Tryz.results53, go_sem]; try rfl) rfl ⟨rfl, ?_⟩
        exact ((Below.refl _ _).alloc (Nat.le_refl _) _).alloc (by simp) _

set_option maxHeartbeats 800000 in
theorem rest_any (w : World) (a b : Int) (ha : I64 a) : Calls Tryz.prog 54 #[.int .i64 a, .int .i64 b] w fun e w' => e = .returned (tupR (modR a b)) ∧ Below w.heap.size w w' := by
  by_cases hb : b = 0
  · subst hb
    have e : modR a 0 = (nullV, 222) := rfl
    rw [e]
    go_enter Tryz.func54, Tryz.ntmps54
    go_wp2
    refine bodyPost_ret (v := .tuple #[.agg #[.int .u8 0, .int .i64 0, .string ⟨#[]⟩], .int .i64 222]) (by simp [results, Tryz.results54, go_sem]; try rfl) rfl ⟨rfl, ?_⟩
    exact (Below.refl _ _).alloc (Nat.le_refl _) _
  · by_cases h : b = -1
    · subst h
      have e : modR a (-1) = (numV 0, 0) := by unfold modR; rw [if_neg (by decide), Int.tmod_neg, Int.tmod_one]
      rw [e]
      go_enter Tryz.func54, Tryz.ntmps54
      go_wp2_with (go_at_call 50; refine (number_any _ _).mono ?_; rintro e w' ⟨rfl, rfl⟩)
      refine bodyPost_ret (v := .tuple #[.agg #[.int .u8 2, .int .i64 0, .string ⟨#[]⟩], .int .i64 0]) (by simp [results, Tryz.results54, go_sem]; try rfl) rfl ⟨rfl, ?_⟩
      exact ((Below.refl _ _).alloc (Nat.le_refl _) _).alloc (by simp) _
    · have e : modR a b = (numV (a.tmod b), 0) := by unfold modR; rw [if_neg hb]
      rw [e]
      have h1 := tmod_64 (b := b) ha
      obtain ⟨P, hP⟩ : ∃ P, P = a.tmod b := ⟨_, rfl⟩
      rw [← hP] at h1 ⊢
      have ws : IntKind.i64.wrap (a.tmod b) = P := by rw [← hP, IntKind.wrap_i64]; have := h1.lo; have := h1.hi; omega
      have gb : (b == 0) = false := by simpa using hb
      have gc : (b == -1) = false := by simpa using h
      clear h1 e h ha
      have hP' : a.tmod b = P := hP.symm
      clear hP
      go_enter Tryz.func54, Tryz.ntmps54
      go_wp2_with (go_at_call 50; refine (number_any _ _).mono ?_; rintro e w' ⟨rfl, rfl⟩)
      refine bodyPost_ret (v := .tuple #[.agg #[.int .u8 2, .int .i64 P, .string ⟨#[]⟩], .int .i64 0]) (by simp [results, Tryz.results54, go_sem]; try rfl) rfl ⟨rfl, ?_⟩
      exact ((Below.refl _ _).alloc (Nat.le_refl _) _).alloc (by simp) _

set_option maxHeartbeats 800000 in
theorem joined_any (w : World) (a b : ByteArray) (ha : a.size ≤ 1000) (hb : b.size ≤ 1000) : Calls Tryz.prog 55 #[.string a, .string b] w fun e w' => e = .returned (tupR (joinR a b)) ∧ Below w.heap.size w w' := by
  have ws : IntKind.i64.wrap ((a.size : Int) + (b.size : Int)) = (a.size : Int) + (b.size : Int) := by rw [IntKind.wrap_i64]; omega
  by_cases h : a.size + b.size ≤ 64
  · have e : joinR a b = (⟨3, 0, a ++ b⟩, 0) := by unfold joinR; rw [if_pos h]
    rw [e]
    have g : ¬ (64 : Int) < (a.size : Int) + (b.size : Int) := by omega
    clear e
    go_enter Tryz.func55, Tryz.ntmps55
    go_wp2
    refine bodyPost_ret (v := .tuple #[.agg #[.int .u8 3, .int .i64 0, .string (a ++ b)], .int .i64 0]) (by simp [results, Tryz.results55, go_sem]; try rfl) rfl ⟨rfl, ?_⟩
    exact (Below.refl _ _).alloc (Nat.le_refl _) _
  · have e : joinR a b = (nullV, 3) := by unfold joinR; rw [if_neg h]
    rw [e]
    have g : (64 : Int) < (a.size : Int) + (b.size : Int) := by omega
    clear e
    go_enter Tryz.func55, Tryz.ntmps55
    go_wp2
    refine bodyPost_ret (v := .tuple #[.agg #[.int .u8 0, .int .i64 0, .string ⟨#[]⟩], .int .i64 3]) (by simp [results, Tryz.results55, go_sem]; try rfl) rfl ⟨rfl, ?_⟩
    exact (Below.refl _ _).alloc (Nat.le_refl _) _
end Go.Proofs.YtjddhakaebkkeaaGreatDoor
