/-
  Plain facts on the texts of stamps: what was written is read back, what is read was written so, and a later stamp's text stands ahead.
-/
import Derived.Test.YtbcbdaaaglkjhaaUnstamp
import Derived.Test.YtbcbdaaaglkjhaaLater
import Derived.Test.YtbcbdaaaglkjhaaStrs
namespace Go.Proofs.Ytbcbdaaaglkjhaa
open Go.RowKit

theorem pow256 (k : Nat) : 2 ^ (8 * k) = 256 ^ k := by rw [Nat.pow_mul]

theorem high_succ (x k : Nat) : high x (k + 1) = UInt8.ofNat (x / 256 ^ k) :: high x k := by
  unfold high
  rw [List.range_succ_eq_map, List.map_cons, List.map_map]
  congr 1
  · rw [← pow256]; simp
  · apply List.map_congr_left
    intro i _
    simp only [Function.comp]
    rw [show k + 1 - 1 - (i + 1) = k - 1 - i from by omega]

theorem mod_pow_succ (x k : Nat) : x % 256 ^ (k + 1) = (x / 256 ^ k % 256) * 256 ^ k + x % 256 ^ k := by
  rw [Nat.pow_succ, Nat.mod_mul]
  rw [Nat.mul_comm, Nat.add_comm]

theorem hnum_cons (c : UInt8) (l : List UInt8) : hnum (c :: l) = c.toNat * 256 ^ l.length + hnum l := by
  have key : ∀ (l : List UInt8) (x : Nat), l.foldl (fun x c => x * 256 + c.toNat) x = x * 256 ^ l.length + hnum l := by
    intro l
    induction l with
    | nil => intro x; simp [hnum]
    | cons d l ih =>
      intro x
      have h0 := ih (0 * 256 + d.toNat)
      have h1 := ih (x * 256 + d.toNat)
      simp only [hnum, List.foldl_cons, List.length_cons] at h0 h1 ⊢
      rw [h1, h0, Nat.pow_succ]
      simp only [Nat.zero_mul, Nat.zero_add, Nat.add_mul]
      rw [Nat.mul_assoc x 256, Nat.mul_comm 256 (256 ^ l.length)]
      omega
  have := key l c.toNat
  unfold hnum at this ⊢
  simpa using this

theorem hnum_high (x k : Nat) : hnum (high x k) = x % 256 ^ k := by
  induction k with
  | zero => simp [high, hnum, Nat.mod_one]
  | succ k ih => rw [high_succ, hnum_cons, ih, high_length, mod_pow_succ, UInt8.toNat_ofNat']

theorem hnum_inj : ∀ (l m : List UInt8), l.length = m.length → hnum l = hnum m → l = m := by
  intro l
  induction l with
  | nil => intro m h _; exact (List.eq_nil_of_length_eq_zero h.symm).symm
  | cons c l ih =>
    intro m hl hn
    cases m with
    | nil => simp at hl
    | cons d m =>
      have hl' : l.length = m.length := by simpa using hl
      rw [hnum_cons, hnum_cons, hl'] at hn
      have h1 := hnum_lt l
      have h2 := hnum_lt m
      rw [hl'] at h1
      have hp : 0 < 256 ^ m.length := Nat.pow_pos (by omega)
      have e : c.toNat = d.toNat := by
        have a := congrArg (· / 256 ^ m.length) hn
        simp only [Nat.mul_comm _ (256 ^ m.length), Nat.mul_add_div hp, Nat.div_eq_of_lt h1, Nat.div_eq_of_lt h2] at a
        omega
      rw [e] at hn
      have : hnum l = hnum m := by omega
      rw [UInt8.toNat_inj.mp e, ih m hl' this]

theorem high_hnum (l : List UInt8) : high (hnum l) l.length = l := by
  apply hnum_inj
  · rw [high_length]
  · rw [hnum_high, Nat.mod_eq_of_lt (hnum_lt l)]

/-- Texts of numbers stand in the order of the numbers. -/
theorem high_less (k : Nat) (r r' : List UInt8) : ∀ x y : Nat, Op.bytesLess (high x k ++ r) (high y k ++ r') = (decide (x % 256 ^ k < y % 256 ^ k) || (decide (x % 256 ^ k = y % 256 ^ k) && Op.bytesLess r r')) := by
  induction k with
  | zero => intro x y; simp [high, Nat.mod_one]
  | succ k ih =>
    intro x y
    rw [high_succ, high_succ, List.cons_append, List.cons_append, bl_cons, ih x y, UInt8.toNat_ofNat', UInt8.toNat_ofNat', mod_pow_succ, mod_pow_succ y]
    have h1 : x % 256 ^ k < 256 ^ k := Nat.mod_lt _ (Nat.pow_pos (by omega))
    have h2 : y % 256 ^ k < 256 ^ k := Nat.mod_lt _ (Nat.pow_pos (by omega))
    generalize x / 256 ^ k % 256 = p at *
    generalize y / 256 ^ k % 256 = q at *
    generalize x % 256 ^ k = X at *
    generalize y % 256 ^ k = Y at *
    generalize 256 ^ k = M at *
    rcases Nat.lt_trichotomy p q with h | h | h
    · have : p * M + X < q * M + Y := by
        have : (p + 1) * M ≤ q * M := Nat.mul_le_mul_right _ h
        rw [Nat.add_mul] at this; omega
      simp [h, this]
    · subst h
      simp
    · have h3 : q * M + Y < p * M + X := by
        have : (q + 1) * M ≤ p * M := Nat.mul_le_mul_right _ h
        rw [Nat.add_mul] at this; omega
      have a1 : ¬ p < q := by omega
      have a2 : ¬ p = q := by omega
      have a3 : ¬ p * M + X < q * M + Y := by omega
      have a4 : ¬ p * M + X = q * M + Y := by omega
      simp [a1, a2, a3, a4]

theorem stB_length (a b c : Int) : (stB a b c).length = 16 := by simp [stB, high_length]

theorem mayS_iff (a b c : Int) : mayS a b c = true ↔ (0 ≤ a ∧ a ≤ 1099511627776) ∧ (0 ≤ b ∧ b ≤ 1048576) ∧ (0 ≤ c ∧ c ≤ 1048576) := by
  simp [mayS, and_assoc]

theorem stB_parts (a b c : Int) : (stB a b c).take 8 = high (9223372036854775807 - a).toNat 8 ∧ ((stB a b c).drop 8).take 4 = high (2147483647 - b).toNat 4 ∧ (stB a b c).drop 12 = high (2147483647 - c).toNat 4 := by
  have h8 := high_length (9223372036854775807 - a).toNat 8
  have h4 := high_length (2147483647 - b).toNat 4
  unfold stB
  refine ⟨?_, ?_, ?_⟩
  · rw [List.append_assoc, List.take_left' h8]
  · rw [List.append_assoc, List.drop_left' h8, List.take_left' h4]
  · rw [List.drop_left' (by rw [List.length_append, h8, h4])]

theorem p8 : (256 : Nat) ^ 8 = 18446744073709551616 := by decide
theorem p4 : (256 : Nat) ^ 4 = 4294967296 := by decide

/-- What was written is read back. -/
theorem back (a b c : Int) (h : mayS a b c = true) : uOk (stB a b c) = true ∧ uA (stB a b c) = a ∧ uB (stB a b c) = b ∧ uC (stB a b c) = c := by
  obtain ⟨⟨h1, h2⟩, ⟨h3, h4⟩, h5, h6⟩ := (mayS_iff a b c).mp h
  obtain ⟨e1, e2, e3⟩ := stB_parts a b c
  have x : uX (stB a b c) = (9223372036854775807 - a).toNat := by unfold uX; rw [e1, hnum_high, p8]; omega
  have y : uY (stB a b c) = (2147483647 - b).toNat := by unfold uY; rw [e2, hnum_high, p4]; omega
  have z : uZ (stB a b c) = (2147483647 - c).toNat := by unfold uZ; rw [e3, hnum_high, p4]; omega
  have ok : uOk (stB a b c) = true := by
    unfold uOk; rw [stB_length, x, y, z]
    simp only [Bool.and_eq_true, decide_eq_true_eq]
    exact ⟨⟨⟨trivial, by omega, by omega⟩, by omega, by omega⟩, by omega, by omega⟩
  refine ⟨ok, ?_, ?_, ?_⟩
  · unfold uA; rw [if_pos ok, x]; omega
  · unfold uB; rw [if_pos ok, y]; omega
  · unfold uC; rw [if_pos ok, z]; omega

/-- What is read was written so. -/
theorem forth (l : List UInt8) (h : uOk l = true) : mayS (uA l) (uB l) (uC l) = true ∧ stB (uA l) (uB l) (uC l) = l := by
  have ok := h
  unfold uOk at h
  simp only [Bool.and_eq_true, decide_eq_true_eq] at h
  obtain ⟨⟨⟨hl, h1, h2⟩, h3, h4⟩, h5, h6⟩ := h
  have a : uA l = 9223372036854775807 - uX l := by unfold uA; rw [if_pos ok]
  have b : uB l = 2147483647 - uY l := by unfold uB; rw [if_pos ok]
  have c : uC l = 2147483647 - uZ l := by unfold uC; rw [if_pos ok]
  refine ⟨(mayS_iff _ _ _).mpr ⟨⟨by omega, by omega⟩, ⟨by omega, by omega⟩, by omega, by omega⟩, ?_⟩
  unfold stB
  have x : (9223372036854775807 - uA l).toNat = uX l := by omega
  have y : (2147483647 - uB l).toNat = uY l := by omega
  have z : (2147483647 - uC l).toNat = uZ l := by omega
  rw [x, y, z]
  have e1 : high (uX l) 8 = l.take 8 := by
    have := high_hnum (l.take 8); rwa [List.length_take, hl] at this
  have e2 : high (uY l) 4 = (l.drop 8).take 4 := by
    have := high_hnum ((l.drop 8).take 4); rwa [List.length_take, List.length_drop, hl] at this
  have e3 : high (uZ l) 4 = l.drop 12 := by
    have := high_hnum (l.drop 12); rwa [List.length_drop, hl] at this
  rw [e1, e2, e3, List.append_assoc]
  have : l.drop 12 = (l.drop 8).drop 4 := by rw [List.drop_drop]
  rw [this, List.take_append_drop, List.take_append_drop]

theorem or3_pos (a b c a' b' c' : Int) : laterB a b c a' b' c' = (decide (a' < a) || (decide (a' = a) && (decide (b' < b) || (decide (b' = b) && decide (c' < c))))) := by
  unfold laterB or3 cmpI
  rw [Bool.eq_iff_iff]
  simp only [decide_eq_true_eq, Bool.or_eq_true, Bool.and_eq_true]
  by_cases h1 : a < a' <;> by_cases h2 : a' < a <;> by_cases h3 : b < b' <;> by_cases h4 : b' < b <;> by_cases h5 : c < c' <;> by_cases h6 : c' < c <;> simp [h1, h2, h3, h4, h5, h6] <;> omega

/-- A later stamp's text stands ahead. -/
theorem st_less (a b c a' b' c' : Int) (h : mayS a b c = true) (h' : mayS a' b' c' = true) : Op.bytesLess (stB a b c) (stB a' b' c') = laterB a b c a' b' c' := by
  obtain ⟨⟨h1, h2⟩, ⟨h3, h4⟩, h5, h6⟩ := (mayS_iff a b c).mp h
  obtain ⟨⟨g1, g2⟩, ⟨g3, g4⟩, g5, g6⟩ := (mayS_iff a' b' c').mp h'
  unfold stB
  rw [List.append_assoc, List.append_assoc, high_less, high_less]
  have e := high_less 4 [] [] (2147483647 - c).toNat (2147483647 - c').toNat
  rw [List.append_nil, List.append_nil] at e
  rw [e, p8, p4, or3_pos]
  have n : Op.bytesLess ([] : List UInt8) [] = false := rfl
  rw [n, Bool.and_false, Bool.or_false, Bool.eq_iff_iff]
  simp only [decide_eq_true_eq, Bool.or_eq_true, Bool.and_eq_true]
  omega

theorem st_inj (a b c a' b' c' : Int) (h : mayS a b c = true) (h' : mayS a' b' c' = true) (e : stB a b c = stB a' b' c') : a = a' ∧ b = b' ∧ c = c' := by
  obtain ⟨_, x1, x2, x3⟩ := back a b c h
  obtain ⟨_, y1, y2, y3⟩ := back a' b' c' h'
  rw [e] at x1 x2 x3
  exact ⟨x1.symm.trans y1, x2.symm.trans y2, x3.symm.trans y3⟩
end Go.Proofs.Ytbcbdaaaglkjhaa
