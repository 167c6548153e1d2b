/-
  Whether a number of two words is an Int; what the document's operations of two Ints come to.
-/
import Derived.Test.YtjddhakaebkkeaaGreatDoorUQb
namespace Go.Proofs.YtjddhakaebkkeaaGreatDoor
open Go.RowKit
attribute [local go_sem ↓] Go.wp_at_zero Go.wp_at_succ

/-- A magnitude with its sign. -/
def sg (neg : Bool) (v : Nat) : Int := if neg then -(v : Int) else v

set_option maxRecDepth 100000 in
set_option maxHeartbeats 1600000 in
theorem fits_any (w : World) (neg : Bool) (h l : Nat) (l1 : l < 18446744073709551616) :
    Calls Tryz.prog 58 #[.agg #[.bool neg, .int .u64 (h : Int), .int .u64 (l : Int)]] w fun e w' => ∃ (n : Int) (ok : Bool), e = .returned (.tuple #[.int .i64 n, .bool ok]) ∧ (ok = true → n = sg neg (two64 h l) ∧ I64 n) ∧ (ok = false → ¬ I64 (sg neg (two64 h l))) ∧ Below w.heap.size w w' := by
  have B1 : ∀ o : Obj, Below w.heap.size w (w.alloc o) := fun o => (Below.refl _ _).alloc (Nat.le_refl _) o
  by_cases h0 : h = 0
  · subst h0
    have e0 : two64 0 l = l := by unfold two64; rw [Nat.zero_mul, Nat.zero_add]
    rw [e0]
    by_cases k : l < 9223372036854775808
    · have kk : (l : Int) < 9223372036854775808 := by omega
      have c1 : IntKind.i64.wrap (l : Int) = (l : Int) := by rw [IntKind.wrap_i64]; omega
      have c2 : IntKind.i64.wrap (-(l : Int)) = -(l : Int) := by rw [IntKind.wrap_i64]; omega
      cases neg
      · have F : Hid ((l : Int) = sg false l ∧ I64 (l : Int)) := ⟨rfl, by omega, by omega⟩
        clear e0
        go_enter Tryz.func58, Tryz.ntmps58
        go_wp2
        go_ret2
        exact ⟨_, _, rfl, fun _ => F.out, fun e => (by cases e), B1 _⟩
      · have F : Hid (-(l : Int) = sg true l ∧ I64 (-(l : Int))) := ⟨rfl, by omega, by omega⟩
        clear e0
        go_enter Tryz.func58, Tryz.ntmps58
        go_wp2
        go_ret2
        exact ⟨_, _, rfl, fun _ => F.out, fun e => (by cases e), B1 _⟩
    · have kk : ¬ (l : Int) < 9223372036854775808 := by omega
      cases neg
      · have F : Hid (¬ I64 (sg false l)) := fun x => by have := x.hi; unfold sg at this; simp at this; omega
        clear e0
        go_enter Tryz.func58, Tryz.ntmps58
        go_wp2
        go_quiet (fail)
        go_wp2
        go_ret2
        exact ⟨_, _, rfl, fun e => (by cases e), fun _ => F.out, below_drewN (B1 _) _⟩
      · by_cases q : l = 9223372036854775808
        · subst q
          have F : Hid ((-9223372036854775808 : Int) = sg true 9223372036854775808 ∧ I64 (-9223372036854775808)) := ⟨rfl, by decide, by decide⟩
          clear e0
          go_enter Tryz.func58, Tryz.ntmps58
          go_wp2
          go_quiet (fail)
          go_wp2
          go_ret2
          exact ⟨_, _, rfl, fun _ => F.out, fun e => (by cases e), below_drewN (B1 _) _⟩
        · have F : Hid (¬ I64 (sg true l)) := fun x => by have := x.lo; unfold sg at this; simp at this; omega
          have qq : ((l : Int) == 9223372036854775808) = false := by simp; omega
          clear e0
          go_enter Tryz.func58, Tryz.ntmps58
          go_wp2
          go_quiet (fail)
          go_wp2
          go_ret2
          exact ⟨_, _, rfl, fun e => (by cases e), fun _ => F.out, below_drewN (B1 _) _⟩
  · have F : Hid (¬ I64 (sg neg (two64 h l))) := fun x => by
      have a := x.lo
      have b := x.hi
      have g : 18446744073709551616 ≤ two64 h l := by
        unfold two64
        exact Nat.le_trans (Nat.le_mul_of_pos_left _ (by omega)) (Nat.le_add_right _ _)
      cases neg <;> simp [sg] at a b <;> omega
    have hz : ((h : Int) != 0) = true := by simp; omega
    clear h0
    go_enter Tryz.func58, Tryz.ntmps58
    go_wp2
    go_ret2
    exact ⟨_, _, rfl, fun e => (by cases e), fun _ => F.out, B1 _⟩

theorem sg_mul (a b : Int) : sg (!(decide (a < 0) == decide (b < 0))) (a.natAbs * b.natAbs) = a * b := by
  have h : ((a.natAbs * b.natAbs : Nat) : Int) = (a.natAbs : Int) * (b.natAbs : Int) := by simp
  unfold sg
  rw [h]
  by_cases ka : a < 0
  · have ea : (a.natAbs : Int) = -a := by omega
    by_cases kb : b < 0
    · have eb : (b.natAbs : Int) = -b := by omega
      rw [ea, eb]; simp [ka, kb, Int.neg_mul_neg]
    · have eb : (b.natAbs : Int) = b := by omega
      rw [ea, eb]; simp [ka, kb, Int.neg_mul]
  · have ea : (a.natAbs : Int) = a := by omega
    by_cases kb : b < 0
    · have eb : (b.natAbs : Int) = -b := by omega
      rw [ea, eb]; simp [ka, kb, Int.mul_neg]
    · have eb : (b.natAbs : Int) = b := by omega
      rw [ea, eb]; simp [ka, kb]

/-- What an operation of two Ints comes to. -/
def cntR (op a b : Int) : Val × Int := if op = 3 then fitR (a + b) else if op = 4 then fitR (a - b) else if op = 5 then fitR (a * b) else if op = 6 then divR a b else modR a b
/-- As the document's counted answers it. -/
abbrev cntV (r : Val × Int) : Value := .tuple #[.int .i64 r.1.n, .int .i64 r.2]

set_option maxHeartbeats 1600000 in
theorem cnt_3 (w : World) (a b : Int) (ha : I64 a) (hb : I64 b) : Calls Tryz.prog 31 #[.int .u8 3, .int .i64 a, .int .i64 b] w fun e w' => e = .returned (cntV (fitR (a + b))) ∧ w' = w := by
  obtain ⟨a1, a2⟩ := ha
  obtain ⟨b1, b2⟩ := hb
  by_cases hs : I64 (a + b)
  · rw [fit1 hs]
    obtain ⟨s1, s2⟩ := hs
    have ws : IntKind.i64.wrap (a + b) = a + b := by rw [IntKind.wrap_i64]; omega
    rcases Int.lt_trichotomy b 0 with h | h | h
    · have g1 : ¬ 0 < b := by omega
      have w2 : IntKind.i64.wrap (-9223372036854775808 - b) = -9223372036854775808 - b := by rw [IntKind.wrap_i64]; omega
      have g2 : ¬ a < -9223372036854775808 - b := by omega
      clear a1 a2 b1 b2 s1 s2
      go_enter Tryz.func31, Tryz.ntmps31
      go_wp2
      go_ret2
      exact ⟨rfl, rfl⟩
    · subst h
      have wz : wrap64 a = a := (by unfold wrap64; omega)
      have ez : a + 0 = a := by omega
      rw [ez]
      clear a1 a2 b1 b2 s1 s2 ws ez
      go_enter Tryz.func31, Tryz.ntmps31
      go_wp2
      go_ret2
      exact ⟨by rw [wz]; rfl, rfl⟩
    · have g1 : ¬ b < 0 := by omega
      have w2 : IntKind.i64.wrap (9223372036854775807 - b) = 9223372036854775807 - b := by rw [IntKind.wrap_i64]; omega
      have g2 : ¬ 9223372036854775807 - b < a := by omega
      clear a1 a2 b1 b2 s1 s2
      go_enter Tryz.func31, Tryz.ntmps31
      go_wp2
      go_ret2
      exact ⟨rfl, rfl⟩
  · rw [fit0 hs]
    have hs : a + b < -9223372036854775808 ∨ 9223372036854775807 < a + b := by
      by_cases h : -9223372036854775808 ≤ a + b
      · by_cases h2 : a + b ≤ 9223372036854775807
        · exact absurd ⟨h, h2⟩ hs
        · omega
      · omega
    rcases Int.lt_trichotomy b 0 with h | h | h
    · have g1 : ¬ 0 < b := by omega
      have w2 : IntKind.i64.wrap (-9223372036854775808 - b) = -9223372036854775808 - b := by rw [IntKind.wrap_i64]; omega
      have g2 : a < -9223372036854775808 - b := by omega
      clear a1 a2 b1 b2 hs
      go_enter Tryz.func31, Tryz.ntmps31
      go_wp2
      go_ret2
      exact ⟨rfl, rfl⟩
    · omega
    · have g1 : ¬ b < 0 := by omega
      have w2 : IntKind.i64.wrap (9223372036854775807 - b) = 9223372036854775807 - b := by rw [IntKind.wrap_i64]; omega
      have g2 : 9223372036854775807 - b < a := by omega
      clear a1 a2 b1 b2 hs
      go_enter Tryz.func31, Tryz.ntmps31
      go_wp2
      go_ret2
      exact ⟨rfl, rfl⟩

set_option maxHeartbeats 1600000 in
theorem cnt_4 (w : World) (a b : Int) (ha : I64 a) (hb : I64 b) : Calls Tryz.prog 31 #[.int .u8 4, .int .i64 a, .int .i64 b] w fun e w' => e = .returned (cntV (fitR (a - b))) ∧ w' = w := by
  obtain ⟨a1, a2⟩ := ha
  obtain ⟨b1, b2⟩ := hb
  by_cases hs : I64 (a - b)
  · rw [fit1 hs]
    obtain ⟨s1, s2⟩ := hs
    have ws : IntKind.i64.wrap (a - b) = a - b := by rw [IntKind.wrap_i64]; omega
    rcases Int.lt_trichotomy b 0 with h | h | h
    · have g1 : ¬ 0 < b := by omega
      have w2 : IntKind.i64.wrap (9223372036854775807 + b) = 9223372036854775807 + b := by rw [IntKind.wrap_i64]; omega
      have g2 : ¬ 9223372036854775807 + b < a := by omega
      clear a1 a2 b1 b2 s1 s2
      go_enter Tryz.func31, Tryz.ntmps31
      go_wp2
      go_ret2
      exact ⟨rfl, rfl⟩
    · subst h
      have wz : wrap64 a = a := (by unfold wrap64; omega)
      have ez : a - 0 = a := by omega
      rw [ez]
      clear a1 a2 b1 b2 s1 s2 ws ez
      go_enter Tryz.func31, Tryz.ntmps31
      go_wp2
      go_ret2
      exact ⟨by rw [wz]; rfl, rfl⟩
    · have g1 : ¬ b < 0 := by omega
      have w2 : IntKind.i64.wrap (-9223372036854775808 + b) = -9223372036854775808 + b := by rw [IntKind.wrap_i64]; omega
      have g2 : ¬ a < -9223372036854775808 + b := by omega
      clear a1 a2 b1 b2 s1 s2
      go_enter Tryz.func31, Tryz.ntmps31
      go_wp2
      go_ret2
      exact ⟨rfl, rfl⟩
  · rw [fit0 hs]
    have hs : a - b < -9223372036854775808 ∨ 9223372036854775807 < a - b := by
      by_cases h : -9223372036854775808 ≤ a - b
      · by_cases h2 : a - b ≤ 9223372036854775807
        · exact absurd ⟨h, h2⟩ hs
        · omega
      · omega
    rcases Int.lt_trichotomy b 0 with h | h | h
    · have g1 : ¬ 0 < b := by omega
      have w2 : IntKind.i64.wrap (9223372036854775807 + b) = 9223372036854775807 + b := by rw [IntKind.wrap_i64]; omega
      have g2 : 9223372036854775807 + b < a := by omega
      clear a1 a2 b1 b2 hs
      go_enter Tryz.func31, Tryz.ntmps31
      go_wp2
      go_ret2
      exact ⟨rfl, rfl⟩
    · omega
    · have g1 : ¬ b < 0 := by omega
      have w2 : IntKind.i64.wrap (-9223372036854775808 + b) = -9223372036854775808 + b := by rw [IntKind.wrap_i64]; omega
      have g2 : a < -9223372036854775808 + b := by omega
      clear a1 a2 b1 b2 hs
      go_enter Tryz.func31, Tryz.ntmps31
      go_wp2
      go_ret2
      exact ⟨rfl, rfl⟩

set_option maxHeartbeats 1600000 in
theorem cnt_5 (w : World) (a b : Int) (ha : I64 a) (hb : I64 b) : Calls Tryz.prog 31 #[.int .u8 5, .int .i64 a, .int .i64 b] w fun e w' => e = .returned (cntV (fitR (a * b))) ∧ Below w.heap.size w w' := by
  have TI := hide (times_any w a b ha hb)
  have SM := hide (sg_mul a b)
  obtain ⟨P, hP⟩ : ∃ P, P = a * b := ⟨_, rfl⟩
  rw [← hP] at SM ⊢
  clear ha hb hP
  go_enter Tryz.func31, Tryz.ntmps31
  go_wp2_with (fail)
  refine TI.out.mono ?_
  rintro e w2 ⟨h, l, rfl, h1, l1, eq, hb2⟩
  have FT := hide (fits_any w2 (!(decide (a < 0) == decide (b < 0))) h l l1)
  rw [eq, SM.out] at FT
  clear TI SM h1 l1 eq
  go_wp2_with (fail)
  refine FT.out.mono ?_
  rintro e w3 ⟨n, ok, rfl, y, z, hb3⟩
  have B3 : Below w.heap.size w w3 := hb2.trans (hb3.mono hb2.size)
  clear FT hb2 hb3
  cases ok
  · have E := hide (fit0 (z rfl))
    clear y z
    go_wp2
    go_ret2
    exact ⟨by rw [E.out]; rfl, B3⟩
  · obtain ⟨rfl, i⟩ := y rfl
    have E := hide (fit1 i)
    clear y z i
    go_wp2
    go_ret2
    exact ⟨by rw [E.out]; rfl, B3⟩

set_option maxHeartbeats 1600000 in
theorem cnt_quo (w : World) (op a b : Int) (ho : op = 6 ∨ op = 7) (ha : I64 a) : Calls Tryz.prog 31 #[.int .u8 op, .int .i64 a, .int .i64 b] w fun e w' => e = .returned (cntV (if op = 6 then divR a b else modR a b)) ∧ w' = w := by
  by_cases hz : b = 0
  · subst hz
    rcases ho with rfl | rfl
    all_goals
      go_enter Tryz.func31, Tryz.ntmps31
      go_wp2
      go_ret2
      exact ⟨rfl, rfl⟩
  have gz : (b == 0) = false := by simpa using hz
  by_cases hm : b = -1
  · subst hm
    rcases ho with rfl | rfl
    · by_cases hl : a = -9223372036854775808
      · subst hl
        go_enter Tryz.func31, Tryz.ntmps31
        go_wp2
        go_ret2
        exact ⟨rfl, rfl⟩
      · have gl : (a == -9223372036854775808) = false := by simpa using hl
        have w1 : IntKind.i64.wrap (-a) = -a := by rw [IntKind.wrap_i64]; have := ha.lo; have := ha.hi; omega
        have e : divR a (-1) = (numV (-a), 0) := by
          unfold divR
          have : a.tdiv (-1) = -a := by rw [Int.tdiv_neg, Int.tdiv_one]
          rw [if_neg (by decide), this, fitR_in (by have := ha.lo; have := ha.hi; omega) (by have := ha.lo; have := ha.hi; omega)]
        have E := hide e
        clear e hl ha
        go_enter Tryz.func31, Tryz.ntmps31
        go_wp2
        go_ret2
        exact ⟨by first | (rw [E.out]; rfl) | (rw [if_pos rfl, E.out]; rfl), rfl⟩
    · have e : modR a (-1) = (numV 0, 0) := by unfold modR; rw [if_neg (by decide), Int.tmod_neg, Int.tmod_one]
      have E := hide e
      clear e
      go_enter Tryz.func31, Tryz.ntmps31
      go_wp2
      go_ret2
      exact ⟨by first | (rw [E.out]; rfl) | (rw [if_neg (by decide), E.out]; rfl), rfl⟩
  have gm : (b == -1) = false := by simpa using hm
  rcases ho with rfl | rfl
  · have hd := tdiv_64 ha hz (fun x => hm x.2)
    have e : divR a b = (numV (a.tdiv b), 0) := by unfold divR; rw [if_neg hz, fit1 hd]
    have E := hide e
    obtain ⟨P, hP⟩ : ∃ P, P = a.tdiv b := ⟨_, rfl⟩
    rw [← hP] at hd E
    have ws : IntKind.i64.wrap (a.tdiv b) = P := by rw [← hP, IntKind.wrap_i64]; have := hd.lo; have := hd.hi; omega
    clear e hd hP hm ha
    go_enter Tryz.func31, Tryz.ntmps31
    go_wp2
    go_ret2
    exact ⟨by first | (rw [E.out]; rfl) | (rw [if_pos rfl, E.out]; rfl), rfl⟩
  · have hd := tmod_64 (b := b) ha
    have e : modR a b = (numV (a.tmod b), 0) := by unfold modR; rw [if_neg hz]
    have E := hide e
    obtain ⟨P, hP⟩ : ∃ P, P = a.tmod b := ⟨_, rfl⟩
    rw [← hP] at hd E
    have ws : IntKind.i64.wrap (a.tmod b) = P := by rw [← hP, IntKind.wrap_i64]; have := hd.lo; have := hd.hi; omega
    have hP' : a.tmod b = P := hP.symm
    clear e hd hP hm ha
    go_enter Tryz.func31, Tryz.ntmps31
    go_wp2
    go_ret2
    exact ⟨by first | (rw [E.out]; rfl) | (rw [if_neg (by decide), E.out]; rfl), rfl⟩

theorem counted_any (w : World) (op a b : Int) (ho : 3 ≤ op ∧ op ≤ 7) (ha : I64 a) (hb : I64 b) : Calls Tryz.prog 31 #[.int .u8 op, .int .i64 a, .int .i64 b] w fun e w' => e = .returned (cntV (cntR op a b)) ∧ Below w.heap.size w w' := by
  have e : op = 3 ∨ op = 4 ∨ op = 5 ∨ op = 6 ∨ op = 7 := by omega
  have st : ∀ {f args v}, (Calls Tryz.prog f args w fun e w' => e = v ∧ w' = w) → Calls Tryz.prog f args w fun e w' => e = v ∧ Below w.heap.size w w' := fun c => c.mono (fun e w' ⟨h1, h2⟩ => ⟨h1, by rw [h2]; exact Below.refl _ _⟩)
  rcases e with rfl | rfl | rfl | rfl | rfl
  · exact st (cnt_3 w a b ha hb)
  · exact st (cnt_4 w a b ha hb)
  · exact cnt_5 w a b ha hb
  · exact st (cnt_quo w 6 a b (.inl rfl) ha)
  · exact st (cnt_quo w 7 a b (.inr rfl) ha)
end Go.Proofs.YtjddhakaebkkeaaGreatDoor
