/-
  Plain facts on the bytes of a number: what was written is read back, and what is read was written so.
-/
import Derived.Test.YtanhmebjfockjaaJERead
namespace Go.Proofs.Ytanhmebjfockjaa.Enc
open Go.RowKit

/-- The bytes of a number, f steps far. -/
def lebF : Nat → Nat → List UInt8
  | 0, x => [UInt8.ofNat x]
  | f + 1, x => if x < 128 then [UInt8.ofNat x] else UInt8.ofNat (x % 128 + 128) :: lebF f (x / 128)
/-- The bytes of a number. -/
def leb (x : Nat) : List UInt8 := lebF x x

theorem lebF_same : ∀ (f g x : Nat), x ≤ f → x ≤ g → lebF f x = lebF g x := by
  intro f
  induction f with
  | zero =>
    intro g x h _
    have : x = 0 := by omega
    subst this
    cases g <;> rfl
  | succ f ih =>
    intro g x h1 h2
    cases g with
    | zero =>
      have : x = 0 := by omega
      subst this
      rfl
    | succ g =>
      rw [lebF, lebF]
      by_cases hx : x < 128
      · rw [if_pos hx, if_pos hx]
      · rw [if_neg hx, if_neg hx, ih g (x / 128) (by omega) (by omega)]

theorem leb_small (x : Nat) (h : x < 128) : leb x = [UInt8.ofNat x] := by
  unfold leb
  cases x with
  | zero => rfl
  | succ x => rw [lebF, if_pos h]
theorem leb_great (x : Nat) (h : ¬ x < 128) : leb x = UInt8.ofNat (x % 128 + 128) :: leb (x / 128) := by
  unfold leb
  cases x with
  | zero => omega
  | succ x => rw [lebF, if_neg h, lebF_same x ((x + 1) / 128) ((x + 1) / 128) (by omega) (by omega)]
theorem leb_pos (x : Nat) : 1 ≤ (leb x).length := by
  by_cases h : x < 128
  · rw [leb_small x h]; simp
  · rw [leb_great x h]; simp

theorem leb_len (k : Nat) : ∀ x, x < 2 ^ (7 * (k + 1)) → (leb x).length ≤ k + 1 := by
  induction k with
  | zero => intro x h; rw [leb_small x (by simpa using h)]; simp
  | succ k ih =>
    intro x h
    by_cases hx : x < 128
    · rw [leb_small x hx]; simp
    · rw [leb_great x hx, List.length_cons]
      have e : 2 ^ (7 * (k + 1 + 1)) = 128 * 2 ^ (7 * (k + 1)) := by rw [show 7 * (k + 1 + 1) = 7 + 7 * (k + 1) from by omega, Nat.pow_add]
      have := ih (x / 128) (by omega)
      omega

theorem leb_len64 (x : Nat) (h : x < 18446744073709551616) : (leb x).length ≤ 10 := by
  refine leb_len 9 x ?_
  have : (18446744073709551616 : Nat) ≤ 2 ^ (7 * (9 + 1)) := by decide
  omega

theorem low_toNat (x : Nat) (h : x < 128) : (UInt8.ofNat x).toNat = x := by rw [UInt8.toNat_ofNat']; omega
theorem more_toNat (x : Nat) : (UInt8.ofNat (x % 128 + 128)).toNat = x % 128 + 128 := by rw [UInt8.toNat_ofNat']; omega

theorem pow7 (j : Nat) : 2 ^ (7 * (j + 1)) = 128 * 2 ^ (7 * j) := by rw [show 7 * (j + 1) = 7 + 7 * j from by omega, Nat.pow_add]

theorem j_le9 (x j : Nat) (h0 : j = 0 ∨ x ≠ 0) (h : x * 2 ^ (7 * j) < 18446744073709551616) : j ≤ 9 := by
  rcases h0 with h0 | h0
  · omega
  · rcases Nat.lt_or_ge j 10 with hj | hj
    · omega
    · exfalso
      have h1 : (2 : Nat) ^ 70 ≤ 2 ^ (7 * j) := Nat.pow_le_pow_right (by omega) (by omega)
      have h2 : 1 * 2 ^ (7 * j) ≤ x * 2 ^ (7 * j) := Nat.mul_le_mul_right _ (by omega)
      have : (18446744073709551616 : Nat) < 2 ^ 70 := by decide
      omega

theorem last_le1 (x : Nat) (h : x * 2 ^ (7 * 9) < 18446744073709551616) : x ≤ 1 := by
  have : (2 : Nat) ^ (7 * 9) = 9223372036854775808 := by decide
  rw [this] at h; omega

theorem get_mid (p : List UInt8) (c : UInt8) (r : List UInt8) (h : p.length < (p ++ c :: r).length) : (p ++ c :: r)[p.length] = c := by simp

/-- What was written is read back. -/
theorem rd_leb : ∀ (x : Nat) (p r : List UInt8), (p.length = 0 ∨ x ≠ 0) → x * 2 ^ (7 * p.length) < 18446744073709551616 →
    rdFrom (p ++ (leb x ++ r)) p.length (10 - p.length) = (num p + x * 2 ^ (7 * p.length), p.length + (leb x).length, 0) := by
  intro x
  induction x using Nat.strongRecOn with
  | _ x ih =>
    intro p r h0 hx
    have hj := j_le9 x p.length h0 hx
    by_cases hs : x < 128
    · rw [leb_small x hs]
      have hl : p.length < (p ++ ([UInt8.ofNat x] ++ r)).length := by simp
      rw [rdFrom_at _ p.length hl (by omega)]
      have hg : (p ++ ([UInt8.ofNat x] ++ r))[p.length] = UInt8.ofNat x := get_mid p _ r hl
      rw [hg, low_toNat x hs, if_neg (by omega)]
      have hm : mayEndB x p.length = true := by
        simp only [mayEndB, Bool.and_eq_true, Bool.or_eq_true, decide_eq_true_eq, beq_iff_eq, bne_iff_ne]
        refine ⟨h0, ?_⟩
        by_cases h9 : p.length < 9
        · exact .inl h9
        · right
          have e : p.length = 9 := by omega
          rw [e] at hx
          exact last_le1 x hx
      rw [hm, if_pos rfl]
      have ht : (p ++ ([UInt8.ofNat x] ++ r)).take (p.length + 1) = p ++ [UInt8.ofNat x] := by
        rw [← List.append_assoc, List.take_left' (by simp)]
      rw [ht, num_snoc, low_toNat x hs, Nat.mod_eq_of_lt hs]
      simp
    · rw [leb_great x hs]
      have hl : p.length < (p ++ (UInt8.ofNat (x % 128 + 128) :: leb (x / 128) ++ r)).length := by simp
      rw [rdFrom_at _ p.length hl (by omega)]
      have hg : (p ++ (UInt8.ofNat (x % 128 + 128) :: leb (x / 128) ++ r))[p.length] = UInt8.ofNat (x % 128 + 128) := get_mid p _ _ hl
      rw [hg, more_toNat, if_pos (by omega)]
      have e : p ++ (UInt8.ofNat (x % 128 + 128) :: leb (x / 128) ++ r) = (p ++ [UInt8.ofNat (x % 128 + 128)]) ++ (leb (x / 128) ++ r) := by simp
      have hlen : (p ++ [UInt8.ofNat (x % 128 + 128)]).length = p.length + 1 := by simp
      have hb : x / 128 * 2 ^ (7 * (p.length + 1)) ≤ x * 2 ^ (7 * p.length) := by
        rw [pow7, ← Nat.mul_assoc]
        exact Nat.mul_le_mul_right _ (by omega)
      have hi := ih (x / 128) (by omega) (p ++ [UInt8.ofNat (x % 128 + 128)]) r (.inr (by omega)) (by rw [hlen]; omega)
      rw [hlen] at hi
      rw [e, hi, num_snoc, more_toNat]
      have e2 : (x % 128 + 128) % 128 = x % 128 := by omega
      rw [e2, pow7]
      have e3 : x / 128 * (128 * 2 ^ (7 * p.length)) = (x / 128 * 128) * 2 ^ (7 * p.length) := by rw [Nat.mul_assoc]
      have e4 : x * 2 ^ (7 * p.length) = (x / 128 * 128 + x % 128) * 2 ^ (7 * p.length) := by congr 1; omega
      rw [e3, e4, Nat.add_mul, List.length_cons]
      congr 1
      · omega
      · congr 1; omega

theorem rd_back (x : Nat) (r : List UInt8) (hx : x < 18446744073709551616) : rd (leb x ++ r) = (x, (leb x).length, 0) := by
  have h := rd_leb x [] r (.inl rfl) (by simpa using hx)
  unfold rd
  simpa [num] using h

/-- What is read was written so. -/
theorem rd_forth : ∀ (k : Nat) (p q : List UInt8) (X n : Nat), k = 10 - p.length → rdFrom (p ++ q) p.length k = (X, n, 0) →
    ∃ y, q.take (leb y).length = leb y ∧ (leb y).length ≤ q.length ∧ n = p.length + (leb y).length ∧ X = num p + y * 2 ^ (7 * p.length) ∧ (p.length = 0 ∨ y ≠ 0) := by
  intro k
  induction k with
  | zero => intro p q X n _ h; simp [rdFrom] at h
  | succ k ih =>
    intro p q X n hk h
    cases q with
    | nil => rw [rdFrom, dif_neg (by simp)] at h; simp at h
    | cons c q =>
      have hl : p.length < (p ++ c :: q).length := by simp
      rw [rdFrom, dif_pos hl, get_mid p c q hl] at h
      have hc := c.toNat_lt
      by_cases h1 : 128 ≤ c.toNat
      · rw [if_pos h1] at h
        have e : p ++ c :: q = (p ++ [c]) ++ q := by simp
        have hlen : (p ++ [c]).length = p.length + 1 := by simp
        rw [e, ← hlen] at h
        obtain ⟨y, a1, a2, a3, a4, a5⟩ := ih (p ++ [c]) q X n (by rw [hlen]; omega) h
        rw [hlen] at a3 a4 a5
        have hy : y ≠ 0 := by rcases a5 with a5 | a5 <;> omega
        refine ⟨c.toNat % 128 + 128 * y, ?_⟩
        have hg : leb (c.toNat % 128 + 128 * y) = c :: leb y := by
          rw [leb_great _ (by omega)]
          congr 1
          · have : (c.toNat % 128 + 128 * y) % 128 + 128 = c.toNat := by omega
            rw [this]; simp
          · congr 1; omega
        rw [hg]
        refine ⟨by simp [a1], by simpa using a2, by rw [a3, List.length_cons]; omega, ?_, .inr (by omega)⟩
        rw [a4, num_snoc, pow7, Nat.add_mul]
        have e3 : y * (128 * 2 ^ (7 * p.length)) = 128 * y * 2 ^ (7 * p.length) := by rw [← Nat.mul_assoc, Nat.mul_comm y 128]
        rw [e3]; omega
      · rw [if_neg h1] at h
        cases hm : mayEndB c.toNat p.length with
        | false => rw [hm] at h; simp at h
        | true =>
          rw [hm, if_pos rfl] at h
          have hs : c.toNat < 128 := by omega
          have hg : leb c.toNat = [c] := by rw [leb_small _ hs]; simp
          simp only [Prod.mk.injEq] at h
          obtain ⟨hX, hn, _⟩ := h
          have ht : (p ++ c :: q).take (p.length + 1) = p ++ [c] := by
            rw [show p ++ c :: q = (p ++ [c]) ++ q from by simp, List.take_left' (by simp)]
          refine ⟨c.toNat, by rw [hg]; simp, by rw [hg]; simp, by rw [hg, ← hn]; simp, ?_, ?_⟩
          · rw [← hX, ht, num_snoc, Nat.mod_eq_of_lt hs]
          · simp only [mayEndB, Bool.and_eq_true, Bool.or_eq_true, beq_iff_eq, bne_iff_ne] at hm
            exact hm.1

theorem rd_made (l : List UInt8) (h : (rd l).2.2 = 0) : l.take (rd l).2.1 = leb (rd l).1 ∧ (rd l).2.1 ≤ l.length := by
  have h2 : rd l = ((rd l).1, (rd l).2.1, 0) := by rw [← h]
  obtain ⟨y, a1, a2, a3, a4, _⟩ := rd_forth 10 [] l _ _ rfl h2
  simp only [List.length_nil, Nat.zero_add, num, Nat.mul_zero, Nat.pow_zero, Nat.mul_one] at a3 a4
  rw [a3, a4]
  exact ⟨a1, a2⟩

theorem rd_err (l : List UInt8) : (rd l).2.2 = 0 ∨ (rd l).2.2 = 5 := by
  have key : ∀ (k j : Nat), (rdFrom l j k).2.2 = 0 ∨ (rdFrom l j k).2.2 = 5 := by
    intro k
    induction k with
    | zero => intro j; exact .inr rfl
    | succ k ih =>
      intro j
      rw [rdFrom]
      split
      · split
        · exact ih _
        · split
          · exact .inl rfl
          · exact .inr rfl
      · exact .inr rfl
  exact key 10 0

theorem rd_lt (l : List UInt8) : (rd l).1 < 18446744073709551616 := by
  have key : ∀ (k j : Nat), k = 10 - j → (rdFrom l j k).1 < 18446744073709551616 := by
    intro k
    induction k with
    | zero => intro j _; show 0 < _; omega
    | succ k ih =>
      intro j hk
      rw [rdFrom]
      split
      · rename_i hj
        split
        · exact ih _ (by omega)
        · cases hm : mayEndB (l[j]).toNat j with
          | false => simp
          | true =>
            rw [if_pos rfl]
            show num (l.take (j + 1)) < _
            simp only [mayEndB, Bool.and_eq_true, Bool.or_eq_true, decide_eq_true_eq] at hm
            have h1 := num_take l j hj
            have h2 := num_take_lt l j
            by_cases h9 : j < 9
            · have h3 := num_take_lt l (j + 1)
              have h4 : 2 ^ (7 * (j + 1)) ≤ 2 ^ 63 := Nat.pow_le_pow_right (by omega) (by omega)
              have : (2 : Nat) ^ 63 < 18446744073709551616 := by decide
              omega
            · have e : j = 9 := by omega
              have hG : (l[j]).toNat ≤ 1 := by rcases hm.2 with h | h <;> omega
              subst e
              have e2 : (2 : Nat) ^ (7 * 9) = 9223372036854775808 := by decide
              rw [e2] at h1 h2
              have : (l[9]).toNat % 128 ≤ 1 := by omega
              have : (l[9]).toNat % 128 * 9223372036854775808 ≤ 1 * 9223372036854775808 := Nat.mul_le_mul_right _ this
              omega
      · decide
  exact key 10 0 rfl
end Go.Proofs.Ytanhmebjfockjaa.Enc
