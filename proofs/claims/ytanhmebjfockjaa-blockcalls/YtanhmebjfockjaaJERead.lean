/-
  Reading a number: of any bytes, wherever they lie, the call answers the number with whose bytes they begin, and how many these are, or the error; it leaves all that was there as it was.
-/
import Derived.Test.YtanhmebjfockjaaJKBytes
import Derived.Laws.Bits64
import Derived.Laws.BitsAllLaws
namespace Go.Proofs.Ytanhmebjfockjaa.Enc
open Go.RowKit

/-- The number whose groups of seven bits, the lowest first, these bytes bear. -/
def num : List UInt8 → Nat
  | [] => 0
  | c :: r => c.toNat % 128 + 128 * num r

theorem num_snoc (l : List UInt8) (c : UInt8) : num (l ++ [c]) = num l + c.toNat % 128 * 2 ^ (7 * l.length) := by
  induction l with
  | nil => simp [num]
  | cons d l ih =>
    simp only [List.cons_append, num, ih, List.length_cons]
    have e : 2 ^ (7 * (l.length + 1)) = 128 * 2 ^ (7 * l.length) := by rw [show 7 * (l.length + 1) = 7 + 7 * l.length from by omega, Nat.pow_add]
    have e2 : c.toNat % 128 * (128 * 2 ^ (7 * l.length)) = 128 * (c.toNat % 128 * 2 ^ (7 * l.length)) := by
      rw [← Nat.mul_assoc, Nat.mul_comm (c.toNat % 128) 128, Nat.mul_assoc]
    rw [e, Nat.mul_add, e2]
    omega

theorem num_lt (l : List UInt8) : num l < 2 ^ (7 * l.length) := by
  induction l with
  | nil => simp [num]
  | cons d l ih =>
    have e : 2 ^ (7 * (l.length + 1)) = 128 * 2 ^ (7 * l.length) := by rw [show 7 * (l.length + 1) = 7 + 7 * l.length from by omega, Nat.pow_add]
    simp only [num, List.length_cons, e]
    omega

theorem num_take (l : List UInt8) (j : Nat) (h : j < l.length) : num (l.take (j + 1)) = num (l.take j) + (l[j]).toNat % 128 * 2 ^ (7 * j) := by
  rw [List.take_succ_eq_append_getElem h, num_snoc, List.length_take, Nat.min_eq_left (by omega)]

theorem num_take_lt (l : List UInt8) (j : Nat) : num (l.take j) < 2 ^ (7 * j) := by
  have h := num_lt (l.take j)
  have h2 : 2 ^ (7 * (l.take j).length) ≤ 2 ^ (7 * j) := Nat.pow_le_pow_right (by omega) (by have := List.length_take_le j l; omega)
  omega

/-- May a number end with this group, behind j others? -/
def mayEndB (G j : Nat) : Bool := (j == 0 || G != 0) && (decide (j < 9) || decide (G ≤ 1))

def rdFrom (l : List UInt8) (j : Nat) : Nat → Nat × Nat × Nat
  | 0 => (0, 0, 5)
  | k + 1 => if h : j < l.length then
      if 128 ≤ (l[j]).toNat then rdFrom l (j + 1) k
      else if mayEndB (l[j]).toNat j then (num (l.take (j + 1)), j + 1, 0) else (0, 0, 5)
    else (0, 0, 5)
/-- What Read answers. -/
def rd (l : List UInt8) : Nat × Nat × Nat := rdFrom l 0 10

theorem or_shift (x g k : Nat) (h : x < 2 ^ k) : x ||| g * 2 ^ k = x + g * 2 ^ k := by
  have := Nat.shiftLeft_add_eq_or_of_lt h g
  rw [Nat.shiftLeft_eq] at this
  rw [Nat.or_comm, ← this, Nat.add_comm]

theorem pow_le63 (j : Nat) (h : j ≤ 8) : 2 ^ (7 * j) ≤ 72057594037927936 := by
  have h1 : 2 ^ (7 * j) ≤ 2 ^ 56 := Nat.pow_le_pow_right (by omega) (by omega)
  have : (2 : Nat) ^ 56 = 72057594037927936 := by decide
  omega

/-- One group more. -/
theorem or_group (X G j : Nat) (hX : X < 2 ^ (7 * j)) (hG : G < 128) (hj : j ≤ 8 ∨ j = 9 ∧ G ≤ 1) :
    bits .or .u64 (X : Int) (IntKind.u64.wrap ((G : Int) * 2 ^ (7 * j))) = ((X + G * 2 ^ (7 * j) : Nat) : Int) := by
  have hp : 2 ^ (7 * j) ≤ 9223372036854775808 := by
    have h1 : 2 ^ (7 * j) ≤ 2 ^ 63 := Nat.pow_le_pow_right (by omega) (by omega)
    have : (2 : Nat) ^ 63 = 9223372036854775808 := by decide
    omega
  have hlt : G * 2 ^ (7 * j) < 18446744073709551616 := by
    rcases hj with h | ⟨rfl, h⟩
    · have h1 := pow_le63 j h
      have h2 : G * 2 ^ (7 * j) ≤ 127 * 72057594037927936 := Nat.mul_le_mul (by omega) h1
      omega
    · have h2 : G * 2 ^ (7 * 9) ≤ 1 * 9223372036854775808 := Nat.mul_le_mul h hp
      omega
  have e : IntKind.u64.wrap ((G : Int) * 2 ^ (7 * j)) = ((G * 2 ^ (7 * j) : Nat) : Int) := by
    rw [IntKind.wrap_u64]
    have : ((G : Int) * 2 ^ (7 * j)) = ((G * 2 ^ (7 * j) : Nat) : Int) := by push_cast; rfl
    rw [this]; omega
  rw [e, u64_or_nat X (G * 2 ^ (7 * j)) (by omega) hlt, or_shift X G _ hX]

theorem group_of (c : Nat) (h : c < 256) : bits .andNot .u8 (c : Int) 128 = ((c % 128 : Nat) : Int) := by
  have : ∀ c : Fin 256, bits .andNot .u8 (c.val : Int) 128 = ((c.val % 128 : Nat) : Int) := by decide +kernel
  exact this ⟨c, h⟩

set_option maxHeartbeats 400000 in
theorem mayEnd_any (w : World) (G j : Nat) (hj : j < 10) :
    Calls Try.prog 122 #[.int .u8 (G : Int), .int .i64 (j : Int)] w fun e w' => e = .returned (.bool (mayEndB G j)) ∧ w' = w := by
  by_cases h0 : j = 0
  · subst h0
    go_enter Try.func122, Try.ntmps122
    go_wp2
    go_ret
    exact ⟨by simp [mayEndB], rfl⟩
  · have b0 : ((j : Int) == 0) = false := by simp; omega
    by_cases hG : G = 0
    · subst hG
      go_enter Try.func122, Try.ntmps122
      go_wp2
      go_ret
      exact ⟨by simp [mayEndB]; omega, rfl⟩
    · have b1 : ((G : Int) != 0) = true := by simp; omega
      by_cases h9 : j < 9
      · have b2 : (j : Int) < 9 := by omega
        go_enter Try.func122, Try.ntmps122
        go_wp2
        go_ret
        exact ⟨by simp [mayEndB]; omega, rfl⟩
      · have b2 : ¬ (j : Int) < 9 := by omega
        by_cases hG1 : G ≤ 1
        · have b3 : (G : Int) ≤ 1 := by omega
          go_enter Try.func122, Try.ntmps122
          go_wp2
          go_ret
          exact ⟨by simp [mayEndB]; omega, rfl⟩
        · have b3 : ¬ (G : Int) ≤ 1 := by omega
          go_enter Try.func122, Try.ntmps122
          go_wp2
          go_ret
          exact ⟨by simp [mayEndB]; omega, rfl⟩

theorem rdFrom_end (l : List UInt8) (j : Nat) (h : ¬ (j < l.length ∧ j < 10)) : rdFrom l j (10 - j) = (0, 0, 5) := by
  by_cases h10 : j < 10
  · obtain ⟨k, hk⟩ : ∃ k, 10 - j = k + 1 := ⟨10 - j - 1, by omega⟩
    rw [hk, rdFrom, dif_neg (by omega)]
  · rw [show 10 - j = 0 from by omega, rdFrom]

theorem rdFrom_at (l : List UInt8) (j : Nat) (h : j < l.length) (h10 : j < 10) :
    rdFrom l j (10 - j) = if 128 ≤ (l[j]).toNat then rdFrom l (j + 1) (10 - (j + 1)) else if mayEndB (l[j]).toNat j then (num (l.take (j + 1)), j + 1, 0) else (0, 0, 5) := by
  obtain ⟨k, hk⟩ : ∃ k, 10 - j = k + 1 := ⟨10 - j - 1, by omega⟩
  rw [hk, rdFrom, dif_pos h, show 10 - (j + 1) = k from by omega]

set_option maxRecDepth 10000 in
set_option maxHeartbeats 1000000 in
theorem read_some (w : World) (b off cap : Nat) (l : List UInt8) (hv : BytesAt w b off l) (hlen : l.length ≤ 140737488355328) :
    Calls Try.prog 109 #[.slice (some ⟨b, off, none⟩) l.length cap] w fun e w' => e = .returned (.tuple #[.int .u64 ((rd l).1 : Int), .int .i64 ((rd l).2.1 : Int), .int .i64 ((rd l).2.2 : Int)]) ∧ w' = w := by
  rcases (by omega : (l.length : Int) ≤ 10 ∨ (10 : Int) < l.length) with h10 | h10
  all_goals
    go_enter Try.func109, Try.ntmps109
    go_wp2
    go_loop [2, 10] (fun x i => ∃ (j X : Nat), j ≤ l.length ∧ j ≤ 10 ∧ i = .int .i64 j ∧ x = .int .u64 X ∧ (j ≤ 9 → X = num (l.take j)) ∧ rd l = rdFrom l j (10 - j)) (fun _ i => 10 - (intOf i).toNat)
    case atStart => exact ⟨0, 0, Nat.zero_le _, Nat.zero_le _, rfl, rfl, fun _ => rfl, rfl⟩
    case round =>
      obtain ⟨j, X, hj, hj10, rfl, rfl, hX, hR⟩ := hrel
      have HR : Hid (rd l = rdFrom l j (10 - j)) := hR
      clear hR
      by_cases hlt : j < l.length ∧ j < 10
      · obtain ⟨hlt, hlt2⟩ := hlt
        have d0 := hv j hlt
        have HX : Hid (X = num (l.take j)) := hX (by omega)
        have HN : Hid (num (l.take (j + 1)) = num (l.take j) + (l[j]).toNat % 128 * 2 ^ (7 * j)) := num_take l j hlt
        have HL : Hid (X < 2 ^ (7 * j)) := by show _ < _; rw [HX.out]; exact num_take_lt l j
        have HF := rdFrom_at l j hlt hlt2
        obtain ⟨c, hc⟩ : ∃ c : Nat, c = (l[j]).toNat := ⟨_, rfl⟩
        rw [← hc] at d0 HF
        have HN2 : Hid (num (l.take (j + 1)) = num (l.take j) + c % 128 * 2 ^ (7 * j)) := by show _ = _; rw [HN.out, hc]
        have hc8 : c < 256 := by rw [hc]; exact UInt8.toNat_lt _
        have HF2 : Hid (rdFrom l j (10 - j) = if 128 ≤ c then rdFrom l (j + 1) (10 - (j + 1)) else if mayEndB c j then (num (l.take (j + 1)), j + 1, 0) else (0, 0, 5)) := HF
        clear HF HN hc hX hv
        have hg := group_of c hc8
        obtain ⟨G, hG⟩ : ∃ G : Nat, G = c % 128 := ⟨_, rfl⟩
        rw [← hG] at hg
        have hG8 : G < 128 := by omega
        have HG : Hid (G = c % 128) := hG
        clear hG
        by_cases hge : (128 : Int) ≤ (c : Int)
        · obtain ⟨Y, hY⟩ : ∃ Y : Nat, bits .or .u64 (X : Int) (IntKind.u64.wrap ((G : Int) * 2 ^ (7 * j))) = (Y : Int) ∧ (j ≤ 8 → Y = X + G * 2 ^ (7 * j)) := by
            by_cases h8 : j ≤ 8
            · exact ⟨_, or_group X G j HL.out hG8 (.inl h8), fun _ => rfl⟩
            · obtain ⟨n, hn⟩ := Int.eq_ofNat_of_zero_le (show 0 ≤ bits .or .u64 (X : Int) (IntKind.u64.wrap ((G : Int) * 2 ^ (7 * j))) from wrap_u64_nonneg _)
              exact ⟨n, hn, fun h => absurd h h8⟩
          obtain ⟨hY1, hY2⟩ := hY
          go_wp2
          go_round
          case rel =>
            exact ⟨j + 1, Y, by omega, by omega, by go_num, rfl, fun h => by rw [hY2 (by omega), HN2.out, HX.out, HG.out], by rw [HR.out, HF2.out, if_pos (by omega)]⟩
          case measure => simp [intOf]; omega
        · have HGc : Hid (G = c) := by show _ = _; rw [HG.out]; omega
          have hcG : c = G := by rw [HG.out]; omega
          cases hme : mayEndB G j with
          | true =>
            have h9 : j ≤ 8 ∨ j = 9 ∧ G ≤ 1 := by
              simp only [mayEndB, Bool.and_eq_true, Bool.or_eq_true, decide_eq_true_eq] at hme; omega
            have hY1 := or_group X G j HL.out hG8 h9
            have HE : Hid (rd l = (X + G * 2 ^ (7 * j), j + 1, 0)) := by
              show _ = _
              rw [HR.out, HF2.out, if_neg (by omega), hcG, hme, if_pos rfl, HN2.out, HX.out, hcG, Nat.mod_eq_of_lt hG8]
            clear hcG
            go_wp2_with (go_at_call 122; refine (mayEnd_any _ G j hlt2).mono ?_; rintro e w' ⟨rfl, rfl⟩)
            go_ret3
            exact ⟨by rw [HE.out]; rfl, rfl⟩
          | false =>
            have HE : Hid (rd l = (0, 0, 5)) := by
              show _ = _
              rw [HR.out, HF2.out, if_neg (by omega), hcG, hme, if_neg (by simp)]
            clear hcG
            go_wp2_with (go_at_call 122; refine (mayEnd_any _ G j hlt2).mono ?_; rintro e w' ⟨rfl, rfl⟩)
            go_ret3
            exact ⟨by rw [HE.out]; rfl, rfl⟩
      · have HE : Hid (rd l = (0, 0, 5)) := by show _ = _; rw [HR.out]; exact rdFrom_end l j hlt
        have hge : ¬ ((j : Int) < l.length ∧ (j : Int) < 10) := by omega
        clear hlt hv hX
        go_wp2
        go_ret3
        exact ⟨by rw [HE.out]; rfl, rfl⟩

set_option maxHeartbeats 400000 in
theorem read_none (w : World) (a : Option Addr) (cap : Nat) :
    Calls Try.prog 109 #[.slice a 0 cap] w fun e w' => e = .returned (.tuple #[.int .u64 0, .int .i64 0, .int .i64 5]) ∧ w' = w := by
  go_enter Try.func109, Try.ntmps109
  go_wp2
  refine wp_loop_rounds 1 ?_
  rw [rounds_succ]
  go_wp2
  go_ret3
  exact ⟨rfl, rfl⟩

theorem read_any (w : World) (v : Value) (l : List UInt8) (h : BytesIn w v l) :
    Calls Try.prog 109 #[v] w fun e w' => e = .returned (.tuple #[.int .u64 ((rd l).1 : Int), .int .i64 ((rd l).2.1 : Int), .int .i64 ((rd l).2.2 : Int)]) ∧ w' = w := by
  obtain ⟨⟨a, cap, rfl, hf⟩, hlen⟩ := h
  by_cases h0 : l = []
  · subst h0
    refine (read_none w a cap).mono ?_
    rintro e w' ⟨rfl, rfl⟩
    exact ⟨rfl, rfl⟩
  · obtain ⟨b, off, rfl, hv⟩ := hf h0
    exact read_some w b off cap l hv hlen
end Go.Proofs.Ytanhmebjfockjaa.Enc
