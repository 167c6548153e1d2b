/-
  Sums, differences, products, quotients, what is left, and texts joined: what the program answers is what whole numbers say, or ErrOverflow, ErrZero, ErrLong. .. and what follows from it.
-/
import Derived.Test.YtedamaccflhmfaaGreatDoorXUb
import Derived.Test.YtedamaccflhmfaaGreatDoorXUc
namespace Go.Proofs.YtedamaccflhmfaaGreatDoor
open Go.RowKit

/-- Numbers of an Int. -/
structure I64 (n : Int) : Prop where
  lo : -9223372036854775808 ≤ n
  hi : n ≤ 9223372036854775807

theorem fit1 {n : Int} (h : I64 n) : fitR n = (numV n, 0) := fitR_in h.lo h.hi
theorem fit0 {n : Int} (h : ¬ I64 n) : fitR n = (nullV, 221) := by
  refine fitR_out ?_
  by_cases h1 : -9223372036854775808 ≤ n
  · by_cases h2 : n ≤ 9223372036854775807
    · exact absurd ⟨h1, h2⟩ h
    · omega
  · omega
/-- A value and an error, as they are answered. -/
abbrev tupR (r : Val × Int) : Value := .tuple #[.agg #[.int .u8 r.1.k, .int .i64 r.1.n, .string r.1.t], .int .i64 r.2]

theorem i64_of_bounds {n : Int} (h1 : -9223372036854775808 ≤ n) (h2 : n ≤ 9223372036854775807) : I64 n := ⟨h1, h2⟩
theorem inI_64 (n : Int) : inI n = true ↔ I64 n := by rw [inI_iff]; exact ⟨fun h => ⟨h.1, h.2⟩, fun h => ⟨h.lo, h.hi⟩⟩

/-- Quotients of the greatest and of the least Int. -/
theorem quoM_pos (b : Int) (hb : 0 < b) : ∃ Q : Int, (9223372036854775807 : Int).tdiv b = Q ∧ 0 ≤ Q ∧ Q ≤ 9223372036854775807 ∧ ∀ a : Int, Q < a ↔ 9223372036854775807 < a * b := by
  refine ⟨_, rfl, ?_, ?_, ?_⟩
  all_goals rw [Int.tdiv_eq_ediv_of_nonneg (by decide)]
  · exact Int.ediv_nonneg (by decide) (by omega)
  · exact Int.ediv_le_self _ (by decide)
  · intro a; exact Int.ediv_lt_iff_lt_mul hb
theorem quoM_neg (b : Int) (hb : b < 0) : ∃ Q : Int, (9223372036854775807 : Int).tdiv b = Q ∧ -9223372036854775807 ≤ Q ∧ Q ≤ 0 ∧ ∀ a : Int, a < Q ↔ 9223372036854775807 < a * b := by
  obtain ⟨Q, h1, h2, h3, h4⟩ := quoM_pos (-b) (by omega)
  rw [Int.tdiv_neg] at h1
  refine ⟨-Q, by omega, by omega, by omega, fun a => ?_⟩
  have h := h4 (-a)
  rw [Int.neg_mul_neg] at h
  rw [← h]; omega
theorem quoL_pos (b : Int) (hb : 0 < b) : ∃ Q : Int, (-9223372036854775808 : Int).tdiv b = Q ∧ -9223372036854775808 ≤ Q ∧ Q ≤ 0 ∧ ∀ a : Int, a < Q ↔ a * b < -9223372036854775808 := by
  have e : (-9223372036854775808 : Int).tdiv b = -((9223372036854775808 : Int) / b) := by
    rw [show (-9223372036854775808 : Int) = -(9223372036854775808) from rfl, Int.neg_tdiv, Int.tdiv_eq_ediv_of_nonneg (by decide)]
  have n0 : 0 ≤ (9223372036854775808 : Int) / b := Int.ediv_nonneg (by decide) (by omega)
  have n1 : (9223372036854775808 : Int) / b ≤ 9223372036854775808 := Int.ediv_le_self _ (by decide)
  refine ⟨_, e, by omega, by omega, fun a => ?_⟩
  have h : (9223372036854775808 : Int) / b < -a ↔ 9223372036854775808 < -a * b := Int.ediv_lt_iff_lt_mul hb
  rw [Int.neg_mul] at h
  omega

theorem tdiv_64 {a b : Int} (ha : I64 a) (hb : ¬ b = 0) (h : ¬ (a = -9223372036854775808 ∧ b = -1)) : I64 (a.tdiv b) := by
  have h1 := Int.natAbs_tdiv_le_natAbs a b
  have := ha.lo
  have := ha.hi
  by_cases e : a = -9223372036854775808
  · subst e
    have hb1 : ¬ b = -1 := fun e => h ⟨rfl, e⟩
    rcases Int.lt_or_gt_of_ne hb with k | k
    · have h2 : (-9223372036854775808 : Int).tdiv b = (9223372036854775808 : Int) / (-b) := by
        rw [show (-9223372036854775808 : Int) = -(9223372036854775808) from rfl, Int.neg_tdiv, ← Int.tdiv_neg, Int.tdiv_eq_ediv_of_nonneg (by decide)]
      have h3 : (9223372036854775808 : Int) / (-b) < 9223372036854775808 := by
        rw [Int.ediv_lt_iff_lt_mul (by omega)]
        omega
      have h4 : 0 ≤ (9223372036854775808 : Int) / (-b) := Int.ediv_nonneg (by decide) (by omega)
      rw [h2]
      exact ⟨by omega, by omega⟩
    · obtain ⟨Q, q1, q2, q3, _⟩ := quoL_pos b k
      rw [q1]; exact ⟨by omega, by omega⟩
  · exact ⟨by omega, by omega⟩
theorem tmod_64 {a b : Int} (ha : I64 a) : I64 (a.tmod b) := by
  have h1 : (a.tmod b).natAbs ≤ a.natAbs := by rw [Int.natAbs_tmod]; exact Nat.mod_le _ _
  have := ha.lo
  have := ha.hi
  by_cases h : 0 ≤ a
  · have := Int.tmod_nonneg b h
    exact ⟨by omega, by omega⟩
  · have h2 : 0 ≤ (-a).tmod b := Int.tmod_nonneg b (by omega)
    rw [Int.neg_tmod] at h2
    exact ⟨by omega, by omega⟩

end Go.Proofs.YtedamaccflhmfaaGreatDoor
namespace Go.Proofs.YtedamaccflhmfaaGreatDoor
open Go.RowKit
attribute [local go_sem ↓] Go.wp_at_zero Go.wp_at_succ

/-- What an operation of two values that go with it makes of them, neither Null. -/
def twoR (op : Int) (a b : Val) : Val × Int :=
  if op = 3 then fitR (a.n + b.n) else if op = 4 then fitR (a.n - b.n) else if op = 5 then fitR (a.n * b.n) else if op = 6 then divR a.n b.n else if op = 7 then modR a.n b.n else if op = 8 then joinR a.t b.t else (tv (holdsB op (cmpV a b)), 0)

theorem Val.wf.i {v : Val} (h : v.wf) : I64 v.n := ⟨h.n0, h.n1⟩

theorem one_in (w : World) (v : Val) (hv : v.wf) {B : Nat} (hB : B = w.heap.size) : ValsIn (w.alloc (.cells #[.int .u8 v.k, .int .i64 v.n, .string v.t] 31)) (.slice (some ⟨B, 0, none⟩) 1 1) [v] := by
  subst hB
  refine ⟨⟨_, 1, rfl, fun _ => ⟨_, _, rfl, ?_⟩⟩, by simpa using hv, by simp⟩
  intro j hj
  have e : j = 0 := by simp at hj; omega
  subst e
  simp [go_sem]
/-- What is held of a call's own block of three cells behind another call. -/
theorem three_slot {w w2 : World} {x y z : Value} {t : TypeId} {B : Nat} (hB : B = w.heap.size) (hb : Below (w.alloc (.cells #[x, y, z] t)).heap.size (w.alloc (.cells #[x, y, z] t)) w2) :
    w2.cell? ⟨B, 0, none⟩ = some x ∧ w2.cell? ⟨B, 1, none⟩ = some y ∧ w2.cell? ⟨B, 2, none⟩ = some z ∧ w2.frozen? ⟨B, 0, none⟩ = false ∧ w2.frozen? ⟨B, 1, none⟩ = false ∧ w2.frozen? ⟨B, 2, none⟩ = false ∧ B < w2.heap.size := by
  subst hB
  refine ⟨(hb.cell (p := ⟨w.heap.size, 0, none⟩) (by simp)).trans (by simp), (hb.cell (p := ⟨w.heap.size, 1, none⟩) (by simp)).trans (by simp), (hb.cell (p := ⟨w.heap.size, 2, none⟩) (by simp)).trans (by simp), (hb.frozen (p := ⟨w.heap.size, 0, none⟩) (by simp)).trans (by simp), (hb.frozen (p := ⟨w.heap.size, 1, none⟩) (by simp)).trans (by simp), (hb.frozen (p := ⟨w.heap.size, 2, none⟩) (by simp)).trans (by simp), ?_⟩
  have := hb.size
  simp at this; omega
theorem below_two {W w2 : World} {o o' : Obj} (h : Below ((W.alloc o).alloc o').heap.size ((W.alloc o).alloc o') w2) : Below W.heap.size W w2 :=
  (((Below.refl _ _).alloc (Nat.le_refl _) o).alloc (by simp) o').trans (h.mono (by simp; omega))
theorem cmpL_one (a b : Val) : cmpL [a] [b] = cmpV a b := by
  rw [cmpL]
  split
  · next h => rw [h]; rfl
  · rfl

end Go.Proofs.YtedamaccflhmfaaGreatDoor
