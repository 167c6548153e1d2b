/-
  The document's product of two Ints, doubled and added bit by bit, and whether it is an Int.
-/
import Derived.Test.YtjddhakaebkkeaaGreatDoorUQa
import Derived.Laws.Bits64b
namespace Go.Proofs.YtjddhakaebkkeaaGreatDoor
open Go.RowKit
attribute [local go_sem ↓] Go.wp_at_zero Go.wp_at_succ

/-- A number of two words. -/
def two64 (h l : Nat) : Nat := h * 18446744073709551616 + l
structure Tm (x y m h l : Nat) : Prop where
  eq : two64 h l = x * (y / 2 ^ m)
  h1 : h < 4611686018427387905
  l1 : l < 18446744073709551616

theorem y_half (y p : Nat) : y / 2 ^ p = 2 * (y / 2 ^ (p + 1)) + y / 2 ^ p % 2 := by
  have e : y / 2 ^ (p + 1) = y / 2 ^ p / 2 := by rw [Nat.pow_succ, Nat.div_div_eq_div_mul]
  rw [e]; omega

theorem Tm.bound {x y m : Nat} (hx : x ≤ 9223372036854775808) (hy : y ≤ 9223372036854775808) : x * (y / 2 ^ m) ≤ 85070591730234615865843651857942052864 := by
  have h1 : y / 2 ^ m ≤ 9223372036854775808 := Nat.le_trans (Nat.div_le_self _ _) hy
  exact Nat.mul_le_mul hx h1

/-- Words of twice a number. -/
theorem word_dbl' (M h l B : Nat) (e : h * (2 * M) + l = B) : (2 * h + l / M) * (2 * M) + 2 * l % (2 * M) = 2 * B := by
  have h1 : 2 * l % (2 * M) = 2 * (l % M) := Nat.mul_mod_mul_left 2 l M
  have h2 := Nat.div_add_mod l M
  rw [h1]
  generalize l / M = q at *
  generalize l % M = r at *
  rw [← e, ← h2]
  simp only [Nat.add_mul, Nat.mul_add, Nat.mul_assoc, Nat.mul_comm, Nat.mul_left_comm]
  omega
theorem word_dbl (h l B : Nat) (e : h * 18446744073709551616 + l = B) : (2 * h + l / 9223372036854775808) * 18446744073709551616 + 2 * l % 18446744073709551616 = 2 * B := word_dbl' 9223372036854775808 h l B e
theorem word_lt (h l A : Nat) (e : h * 18446744073709551616 + l = A) (hA : A ≤ 85070591730234615865843651857942052864) : h < 4611686018427387905 := by
  rcases Nat.lt_or_ge h 4611686018427387905 with k | k
  · exact k
  · have h1 : 4611686018427387905 * 18446744073709551616 ≤ h * 18446744073709551616 := Nat.mul_le_mul_right _ k
    have h2 : h * 18446744073709551616 ≤ A := by rw [← e]; exact Nat.le_add_right _ _
    exact absurd (Nat.le_trans h1 (Nat.le_trans h2 hA)) (by decide)
theorem word_carry (K H L x A : Nat) (e : H * K + L + x = A) (hc : ¬ L + x < K) : (H + 1) * K + (L + x - K) = A := by
  rw [Nat.add_mul, Nat.one_mul]
  generalize H * K = Z at *
  omega

/-- One bit more. -/
theorem Tm.step {x y p h l : Nat} (hx : x ≤ 9223372036854775808) (hy : y ≤ 9223372036854775808) (t : Tm x y (p + 1) h l) :
    (y / 2 ^ p % 2 = 0 → Tm x y p (2 * h + l / 9223372036854775808) (2 * l % 18446744073709551616))
    ∧ (y / 2 ^ p % 2 = 1 → 2 * l % 18446744073709551616 + x < 18446744073709551616 → Tm x y p (2 * h + l / 9223372036854775808) (2 * l % 18446744073709551616 + x))
    ∧ (y / 2 ^ p % 2 = 1 → ¬ 2 * l % 18446744073709551616 + x < 18446744073709551616 → Tm x y p (2 * h + l / 9223372036854775808 + 1) (2 * l % 18446744073709551616 + x - 18446744073709551616)) := by
  have hb := Tm.bound (m := p) hx hy
  have ey := y_half y p
  have e2 : x * (y / 2 ^ p) = 2 * (x * (y / 2 ^ (p + 1))) + x * (y / 2 ^ p % 2) := by
    conv => lhs; rw [ey, Nat.mul_add]
    rw [← Nat.mul_assoc, ← Nat.mul_assoc, Nat.mul_comm x 2]
  have q := word_dbl h l _ t.eq
  have ql : 2 * l % 18446744073709551616 < 18446744073709551616 := Nat.mod_lt _ (by decide)
  refine ⟨fun hz => ?_, fun hz hc => ?_, fun hz hc => ?_⟩
  · rw [hz, Nat.mul_zero, Nat.add_zero] at e2
    exact ⟨q.trans e2.symm, word_lt _ _ _ (q.trans e2.symm) hb, ql⟩
  · rw [hz, Nat.mul_one] at e2
    have e3 : (2 * h + l / 9223372036854775808) * 18446744073709551616 + (2 * l % 18446744073709551616 + x) = x * (y / 2 ^ p) := by rw [e2, ← q, Nat.add_assoc]
    exact ⟨e3, word_lt _ _ _ e3 hb, hc⟩
  · rw [hz, Nat.mul_one] at e2
    have e3 := word_carry 18446744073709551616 (2 * h + l / 9223372036854775808) (2 * l % 18446744073709551616) x (x * (y / 2 ^ p)) (by rw [e2, ← q]) hc
    refine ⟨e3, word_lt _ _ _ e3 hb, ?_⟩
    generalize 2 * l % 18446744073709551616 = L at *
    omega

theorem or_word (h l : Nat) (h1 : h < 4611686018427387905) (l1 : l < 18446744073709551616) : bits .or .u64 ((h : Int) * 2) ((l : Int) / 9223372036854775808) = ((2 * h + l / 9223372036854775808 : Nat) : Int) := by
  have e1 : (h : Int) * 2 = ((2 * h : Nat) : Int) := by omega
  have e2 : (l : Int) / 9223372036854775808 = ((l / 9223372036854775808 : Nat) : Int) := by omega
  rw [e1, e2, bits_or_u64_nat _ _ (by omega) (by omega)]
  have := Nat.two_pow_add_eq_or_of_lt (i := 1) (b := l / 9223372036854775808) (by omega) h
  rw [Nat.pow_one] at this
  rw [← this]
theorem and_bit (y p : Nat) (y1 : y ≤ 9223372036854775808) : bits .and .u64 ((y : Int) / 2 ^ p) 1 = ((y / 2 ^ p % 2 : Nat) : Int) := by
  have h : y / 2 ^ p ≤ y := Nat.div_le_self _ _
  have e : (y : Int) / 2 ^ p = ((y / 2 ^ p : Nat) : Int) := by simp
  rw [e, show (1 : Int) = ((1 : Nat) : Int) from rfl, bits_and_u64_nat _ _ (by omega) (by omega), Nat.and_one_is_mod]

set_option maxRecDepth 100000 in
set_option maxHeartbeats 3200000 in
theorem times_any (w : World) (a b : Int) (ha : I64 a) (hb : I64 b) : Calls Tryz.prog 59 #[.int .i64 a, .int .i64 b] w fun e w' => ∃ h l : Nat, e = .returned (.agg #[.bool (!(decide (a < 0) == decide (b < 0))), .int .u64 (h : Int), .int .u64 (l : Int)]) ∧ h < 18446744073709551616 ∧ l < 18446744073709551616 ∧ two64 h l = a.natAbs * b.natAbs ∧ Below w.heap.size w w' := by
  have MA := hide (fun wx => rmag_any wx a ha)
  have MB := hide (fun wx => rmag_any wx b hb)
  obtain ⟨x, hx⟩ : ∃ x, x = a.natAbs := ⟨_, rfl⟩
  obtain ⟨y, hy⟩ : ∃ y, y = b.natAbs := ⟨_, rfl⟩
  obtain ⟨sa, hsa⟩ : ∃ sa, sa = decide (a < 0) := ⟨_, rfl⟩
  obtain ⟨sb, hsb⟩ : ∃ sb, sb = decide (b < 0) := ⟨_, rfl⟩
  rw [← hx, ← hsa] at MA
  rw [← hy, ← hsb] at MB
  rw [← hx, ← hy, ← hsa, ← hsb]
  have x1 : x ≤ 9223372036854775808 := by rw [hx]; have := ha.lo; have := ha.hi; omega
  have y1 : y ≤ 9223372036854775808 := by rw [hy]; have := hb.lo; have := hb.hi; omega
  clear ha hb hx hy hsa hsb
  go_enter Tryz.func59, Tryz.ntmps59
  go_wp2_with (first
    | (go_at_call 46; have tk := MA.out; refine still (tk _) ?_; clear tk MA)
    | (go_at_call 46; refine still (MB.out _) ?_))
  go_loopw [10] (fun i wr => ∃ m h l : Nat, m ≤ 64 ∧ i = .int .i64 ((m : Int) - 1) ∧ wr = (w.alloc (.cells #[.bool false, .int .u64 0, .int .u64 0] 76)).alloc (.cells #[.bool (!(sa == sb)), .int .u64 (h : Int), .int .u64 (l : Int)] 76) ∧ Tm x y m h l) (fun i _ => (intOf i + 1).toNat)
  case atStart =>
    refine ⟨64, 0, 0, Nat.le_refl _, rfl, rfl, ?_, by decide, by decide⟩
    have : y / 2 ^ 64 = 0 := Nat.div_eq_of_lt (by omega)
    rw [this]; rfl
  case round =>
    obtain ⟨m, h, l, hm, rfl, rfl, tm⟩ := hrel
    have TM := hide tm
    have h1 := tm.h1
    have l1 := tm.l1
    clear tm
    cases m with
    | zero =>
      have e := TM.out.eq
      rw [Nat.pow_zero, Nat.div_one] at e
      have HE := hide e
      clear e
      go_wp2
      refine bodyPost_ret (v := .agg #[.bool (!(sa == sb)), .int .u64 (h : Int), .int .u64 (l : Int)]) (by simp [results, Tryz.results59, go_sem]; try rfl) rfl ⟨h, l, rfl, by omega, l1, HE.out, ?_⟩
      exact ((Below.refl _ _).alloc (Nat.le_refl _) _).alloc (by simp) _
    | succ p =>
      have hp : ((p + 1 : Nat) : Int) - 1 = p := by omega
      rw [hp]
      obtain ⟨st0, st1, st2⟩ := Tm.step x1 y1 TM.out
      obtain ⟨L2, hL2⟩ : ∃ L2, L2 = 2 * l % 18446744073709551616 := ⟨_, rfl⟩
      obtain ⟨H2, hH2⟩ : ∃ H2, H2 = 2 * h + l / 9223372036854775808 := ⟨_, rfl⟩
      obtain ⟨bt, hbt⟩ : ∃ bt, bt = y / 2 ^ p % 2 := ⟨_, rfl⟩
      rw [← hL2, ← hH2, ← hbt] at st0 st1 st2
      have f0 : IntKind.u64.wrap ((h : Int) * 2) = (h : Int) * 2 := by rw [IntKind.wrap_u64]; omega
      have f1 : bits .or .u64 ((h : Int) * 2) ((l : Int) / 9223372036854775808) = (H2 : Int) := by rw [hH2]; exact or_word h l h1 l1
      have f2 : IntKind.u64.wrap ((l : Int) * 2) = (L2 : Int) := by rw [IntKind.wrap_u64, hL2]; omega
      have f3 : bits .and .u64 ((y : Int) / 2 ^ p) 1 = (bt : Int) := by rw [hbt]; exact and_bit y p y1
      have L2b : L2 < 18446744073709551616 := by rw [hL2]; omega
      have H2b : H2 < 18446744073709551615 := by rw [hH2]; omega
      have hb2 : bt = 0 ∨ bt = 1 := by omega
      clear hL2 hH2 hbt TM h1 l1 hp
      rcases hb2 with rfl | rfl
      · have S0 := hide (st0 rfl)
        clear st0 st1 st2
        go_wp2
        exact ⟨⟨p, H2, L2, by omega, rfl, rfl, S0.out⟩, by simp [intOf]⟩
      · by_cases hc : L2 + x < 18446744073709551616
        · have S0 := hide (st1 rfl hc)
          have f4 : IntKind.u64.wrap ((L2 : Int) + (x : Int)) = ((L2 + x : Nat) : Int) := by rw [IntKind.wrap_u64]; omega
          have f5 : ¬ ((L2 + x : Nat) : Int) < (L2 : Int) := by omega
          obtain ⟨L3, hL3⟩ : ∃ L3, L3 = L2 + x := ⟨_, rfl⟩
          rw [← hL3] at f4 f5 S0
          clear st0 st1 st2 hL3
          go_wp2
          exact ⟨⟨p, H2, L3, by omega, rfl, rfl, S0.out⟩, by simp [intOf]⟩
        · have S0 := hide (st2 rfl hc)
          have f4 : IntKind.u64.wrap ((L2 : Int) + (x : Int)) = ((L2 + x - 18446744073709551616 : Nat) : Int) := by rw [IntKind.wrap_u64]; omega
          have f5 : ((L2 + x - 18446744073709551616 : Nat) : Int) < (L2 : Int) := by omega
          have f6 : IntKind.u64.wrap ((H2 : Int) + 1) = ((H2 + 1 : Nat) : Int) := by rw [IntKind.wrap_u64]; omega
          obtain ⟨L3, hL3⟩ : ∃ L3, L3 = L2 + x - 18446744073709551616 := ⟨_, rfl⟩
          obtain ⟨H3, hH3⟩ : ∃ H3, H3 = H2 + 1 := ⟨_, rfl⟩
          rw [← hL3] at f4 f5 S0
          rw [← hH3] at f6 S0
          clear st0 st1 st2 hL3 hH3
          go_wp2
          exact ⟨⟨p, H3, L3, by omega, rfl, rfl, S0.out⟩, by simp [intOf]⟩
end Go.Proofs.YtjddhakaebkkeaaGreatDoor
