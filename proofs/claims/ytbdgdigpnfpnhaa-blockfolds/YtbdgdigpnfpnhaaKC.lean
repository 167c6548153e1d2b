/-
  Reading a number: of any bytes, wherever they lie, the call answers the number with whose bytes they begin, and how many these are, or the error; it leaves all that was there as it was. .. and what follows from it.
-/
import Derived.Test.YtbdgdigpnfpnhaaKB
import Derived.Laws.Bits64
import Derived.Laws.BitsAllLaws
namespace Go.Proofs.Ytbdgdigpnfpnhaa.Q.Enc
open Go.RowKit

/-- The number whose groups of seven bits, the lowest first, these bytes bear. -/
def num : List UInt8 → Nat
  | [] => 0
  | c :: r => c.toNat % 128 + 128 * num r

theorem num_snoc (l : List UInt8) (c : UInt8) : num (l ++ [c]) = num l + c.toNat % 128 * 2 ^ (7 * l.length) := by
  induction l with
  | nil => simp [num]
  | cons d l ih =>
    simp only [List.cons_append, num, ih, List.length_cons]
    have e : 2 ^ (7 * (l.length + 1)) = 128 * 2 ^ (7 * l.length) := by rw [show 7 * (l.length + 1) = 7 + 7 * l.length from by omega, Nat.pow_add]
    have e2 : c.toNat % 128 * (128 * 2 ^ (7 * l.length)) = 128 * (c.toNat % 128 * 2 ^ (7 * l.length)) := by
      rw [← Nat.mul_assoc, Nat.mul_comm (c.toNat % 128) 128, Nat.mul_assoc]
    rw [e, Nat.mul_add, e2]
    omega

theorem num_lt (l : List UInt8) : num l < 2 ^ (7 * l.length) := by
  induction l with
  | nil => simp [num]
  | cons d l ih =>
    have e : 2 ^ (7 * (l.length + 1)) = 128 * 2 ^ (7 * l.length) := by rw [show 7 * (l.length + 1) = 7 + 7 * l.length from by omega, Nat.pow_add]
    simp only [num, List.length_cons, e]
    omega

theorem num_take (l : List UInt8) (j : Nat) (h : j < l.length) : num (l.take (j + 1)) = num (l.take j) + (l[j]).toNat % 128 * 2 ^ (7 * j) := by
  rw [List.take_succ_eq_append_getElem h, num_snoc, List.length_take, Nat.min_eq_left (by omega)]

theorem num_take_lt (l : List UInt8) (j : Nat) : num (l.take j) < 2 ^ (7 * j) := by
  have h := num_lt (l.take j)
  have h2 : 2 ^ (7 * (l.take j).length) ≤ 2 ^ (7 * j) := Nat.pow_le_pow_right (by omega) (by have := List.length_take_le j l; omega)
  omega

/-- May a number end with this group, behind j others? -/
def mayEndB (G j : Nat) : Bool := (j == 0 || G != 0) && (decide (j < 9) || decide (G ≤ 1))

def rdFrom (l : List UInt8) (j : Nat) : Nat → Nat × Nat × Nat
  | 0 => (0, 0, 5)
  | k + 1 => if h : j < l.length then
      if 128 ≤ (l[j]).toNat then rdFrom l (j + 1) k
      else if mayEndB (l[j]).toNat j then (num (l.take (j + 1)), j + 1, 0) else (0, 0, 5)
    else (0, 0, 5)
/-- What Read answers. -/
def rd (l : List UInt8) : Nat × Nat × Nat := rdFrom l 0 10

theorem or_shift (x g k : Nat) (h : x < 2 ^ k) : x ||| g * 2 ^ k = x + g * 2 ^ k := by
  have := Nat.shiftLeft_add_eq_or_of_lt h g
  rw [Nat.shiftLeft_eq] at this
  rw [Nat.or_comm, ← this, Nat.add_comm]

theorem pow_le63 (j : Nat) (h : j ≤ 8) : 2 ^ (7 * j) ≤ 72057594037927936 := by
  have h1 : 2 ^ (7 * j) ≤ 2 ^ 56 := Nat.pow_le_pow_right (by omega) (by omega)
  have : (2 : Nat) ^ 56 = 72057594037927936 := by decide
  omega

/-- One group more. -/
theorem or_group (X G j : Nat) (hX : X < 2 ^ (7 * j)) (hG : G < 128) (hj : j ≤ 8 ∨ j = 9 ∧ G ≤ 1) :
    bits .or .u64 (X : Int) (IntKind.u64.wrap ((G : Int) * 2 ^ (7 * j))) = ((X + G * 2 ^ (7 * j) : Nat) : Int) := by
  have hp : 2 ^ (7 * j) ≤ 9223372036854775808 := by
    have h1 : 2 ^ (7 * j) ≤ 2 ^ 63 := Nat.pow_le_pow_right (by omega) (by omega)
    have : (2 : Nat) ^ 63 = 9223372036854775808 := by decide
    omega
  have hlt : G * 2 ^ (7 * j) < 18446744073709551616 := by
    rcases hj with h | ⟨rfl, h⟩
    · have h1 := pow_le63 j h
      have h2 : G * 2 ^ (7 * j) ≤ 127 * 72057594037927936 := Nat.mul_le_mul (by omega) h1
      omega
    · have h2 : G * 2 ^ (7 * 9) ≤ 1 * 9223372036854775808 := Nat.mul_le_mul h hp
      omega
  have e : IntKind.u64.wrap ((G : Int) * 2 ^ (7 * j)) = ((G * 2 ^ (7 * j) : Nat) : Int) := by
    rw [IntKind.wrap_u64]
    have : ((G : Int) * 2 ^ (7 * j)) = ((G * 2 ^ (7 * j) : Nat) : Int) := by push_cast; rfl
    rw [this]; omega
  rw [e, u64_or_nat X (G * 2 ^ (7 * j)) (by omega) hlt, or_shift X G _ hX]

theorem group_of (c : Nat) (h : c < 256) : bits .andNot .u8 (c : Int) 128 = ((c % 128 : Nat) : Int) := by
  have : ∀ c : Fin 256, bits .andNot .u8 (c.val : Int) 128 = ((c.val % 128 : Nat) : Int) := by decide +kernel
  exact this ⟨c, h⟩

set_option maxHeartbeats 400000 in
theorem mayEnd_any (w : World) (G j : Nat) (hj : j < 10) :
    Calls Try.prog 113 #[.int .u8 (G : Int), .int .i64 (j : Int)] w fun e w' => e = .returned (.bool (mayEndB G j)) ∧ w' = w := by
  by_cases h0 : j = 0
  · subst h0
    go_enter Try.func113, Try.ntmps113
    go_wp2
    go_ret
    exact ⟨by simp [mayEndB], rfl⟩
  · have b0 : ((j : Int) == 0) = false := by simp; omega
    by_cases hG : G = 0
    · subst hG
      go_enter Try.func113, Try.ntmps113
      go_wp2
      go_ret
      exact ⟨by simp [mayEndB]; omega, rfl⟩
    · have b1 : ((G : Int) != 0) = true := by simp; omega
      by_cases h9 : j < 9
      · have b2 : (j : Int) < 9 := by omega
        go_enter Try.func113, Try.ntmps113
        go_wp2
        go_ret
        exact ⟨by simp [mayEndB]; omega, rfl⟩
      · have b2 : ¬ (j : Int) < 9 := by omega
        by_cases hG1 : G ≤ 1
        · have b3 : (G : Int) ≤ 1 := by omega
          go_enter Try.func113, Try.ntmps113
          go_wp2
          go_ret
          exact ⟨by simp [mayEndB]; omega, rfl⟩
        · have b3 : ¬ (G : Int) ≤ 1 := by omega
          go_enter Try.func113, Try.ntmps113
          go_wp2
          go_ret
          exact ⟨by simp [mayEndB]; omega, rfl⟩

theorem rdFrom_end (l : List UInt8) (j : Nat) (h : ¬ (j < l.length ∧ j < 10)) : rdFrom l j (10 - j) = (0, 0, 5) := by
  by_cases h10 : j < 10
  · obtain ⟨k, hk⟩ : ∃ k, 10 - j = k + 1 := ⟨10 - j - 1, by omega⟩
    rw [hk, rdFrom, dif_neg (by omega)]
  · rw [show 10 - j = 0 from by omega, rdFrom]

theorem rdFrom_at (l : List UInt8) (j : Nat) (h : j < l.length) (h10 : j < 10) :
    rdFrom l j (10 - j) = if 128 ≤ (l[j]).toNat then rdFrom l (j + 1) (10 - (j + 1)) else if mayEndB (l[j]).toNat j then (num (l.take (j + 1)), j + 1, 0) else (0, 0, 5) := by
  obtain ⟨k, hk⟩ : ∃ k, 10 - j = k + 1 := ⟨10 - j - 1, by omega⟩
  rw [hk, rdFrom, dif_pos h, show 10 - (j + 1) = k from by omega]

set_option maxRecDepth 10000 in
set_option maxHeartbeats 1000000 in
theorem read_some (w : World) (b off cap : Nat) (l : List UInt8) (hv : BytesAt w b off l) (hlen : l.length ≤ 140737488355328) :
    Calls Try.prog 106 #[.slice (some ⟨b, off, none⟩) l.length cap] w fun e w' => e = .returned (.tuple #[.int .u64 ((rd l).1 : Int), .int .i64 ((rd l).2.1 : Int), .int .i64 ((rd l).2.2 : Int)]) ∧ w' = w := by
  rcases (by omega : (l.length : Int) ≤ 10 ∨ (10 : Int) < l.length) with h10 | h10
  all_goals
    go_enter Try.func106, Try.ntmps106
    go_wp2
    go_loop [2, 10] (fun x i => ∃ (j X : Nat), j ≤ l.length ∧ j ≤ 10 ∧ i = .int .i64 j ∧ x = .int .u64 X ∧ (j ≤ 9 → X = num (l.take j)) ∧ rd l = rdFrom l j (10 - j)) (fun _ i => 10 - (intOf i).toNat)
    case atStart => exact ⟨0, 0, Nat.zero_le _, Nat.zero_le _, rfl, rfl, fun _ => rfl, rfl⟩
    case round =>
      obtain ⟨j, X, hj, hj10, rfl, rfl, hX, hR⟩ := hrel
      have HR : Hid (rd l = rdFrom l j (10 - j)) := hR
      clear hR
      by_cases hlt : j < l.length ∧ j < 10
      · obtain ⟨hlt, hlt2⟩ := hlt
        have d0 := hv j hlt
        have HX : Hid (X = num (l.take j)) := hX (by omega)
        have HN : Hid (num (l.take (j + 1)) = num (l.take j) + (l[j]).toNat % 128 * 2 ^ (7 * j)) := num_take l j hlt
        have HL : Hid (X < 2 ^ (7 * j)) := by show _ < _; rw [HX.out]; exact num_take_lt l j
        have HF := rdFrom_at l j hlt hlt2
        obtain ⟨c, hc⟩ : ∃ c : Nat, c = (l[j]).toNat := ⟨_, rfl⟩
        rw [← hc] at d0 HF
        have HN2 : Hid (num (l.take (j + 1)) = num (l.take j) + c % 128 * 2 ^ (7 * j)) := by show _ = _; rw [HN.out, hc]
        have hc8 : c < 256 := by rw [hc]; exact UInt8.toNat_lt _
        have HF2 : Hid (rdFrom l j (10 - j) = if 128 ≤ c then rdFrom l (j + 1) (10 - (j + 1)) else if mayEndB c j then (num (l.take (j + 1)), j + 1, 0) else (0, 0, 5)) := HF
        clear HF HN hc hX hv
        have hg := group_of c hc8
        obtain ⟨G, hG⟩ : ∃ G : Nat, G = c % 128 := ⟨_, rfl⟩
        rw [← hG] at hg
        have hG8 : G < 128 := by omega
        have HG : Hid (G = c % 128) := hG
        clear hG
        by_cases hge : (128 : Int) ≤ (c : Int)
        · obtain ⟨Y, hY⟩ : ∃ Y : Nat, bits .or .u64 (X : Int) (IntKind.u64.wrap ((G : Int) * 2 ^ (7 * j))) = (Y : Int) ∧ (j ≤ 8 → Y = X + G * 2 ^ (7 * j)) := by
            by_cases h8 : j ≤ 8
            · exact ⟨_, or_group X G j HL.out hG8 (.inl h8), fun _ => rfl⟩
            · obtain ⟨n, hn⟩ := Int.eq_ofNat_of_zero_le (show 0 ≤ bits .or .u64 (X : Int) (IntKind.u64.wrap ((G : Int) * 2 ^ (7 * j))) from wrap_u64_nonneg _)
              exact ⟨n, hn, fun h => absurd h h8⟩
          obtain ⟨hY1, hY2⟩ := hY
          go_wp2
          go_round
          case rel =>
            exact ⟨j + 1, Y, by omega, by omega, by go_num, rfl, fun h => by rw [hY2 (by omega), HN2.out, HX.out, HG.out], by rw [HR.out, HF2.out, if_pos (by omega)]⟩
          case measure => simp [intOf]; omega
        · have HGc : Hid (G = c) := by show _ = _; rw [HG.out]; omega
          have hcG : c = G := by rw [HG.out]; omega
          cases hme : mayEndB G j with
          | true =>
            have h9 : j ≤ 8 ∨ j = 9 ∧ G ≤ 1 := by
              simp only [mayEndB, Bool.and_eq_true, Bool.or_eq_true, decide_eq_true_eq] at hme; omega
            have hY1 := or_group X G j HL.out hG8 h9
            have HE : Hid (rd l = (X + G * 2 ^ (7 * j), j + 1, 0)) := by
              show _ = _
              rw [HR.out, HF2.out, if_neg (by omega), hcG, hme, if_pos rfl, HN2.out, HX.out, hcG, Nat.mod_eq_of_lt hG8]
            clear hcG
            go_wp2_with (go_at_call 113; refine (mayEnd_any _ G j hlt2).mono ?_; rintro e w' ⟨rfl, rfl⟩)
            go_ret3
            exact ⟨by rw [HE.out]; rfl, rfl⟩
          | false =>
            have HE : Hid (rd l = (0, 0, 5)) := by
              show _ = _
              rw [HR.out, HF2.out, if_neg (by omega), hcG, hme, if_neg (by simp)]
            clear hcG
            go_wp2_with (go_at_call 113; refine (mayEnd_any _ G j hlt2).mono ?_; rintro e w' ⟨rfl, rfl⟩)
            go_ret3
            exact ⟨by rw [HE.out]; rfl, rfl⟩
      · have HE : Hid (rd l = (0, 0, 5)) := by show _ = _; rw [HR.out]; exact rdFrom_end l j hlt
        have hge : ¬ ((j : Int) < l.length ∧ (j : Int) < 10) := by omega
        clear hlt hv hX
        go_wp2
        go_ret3
        exact ⟨by rw [HE.out]; rfl, rfl⟩

set_option maxHeartbeats 400000 in
theorem read_none (w : World) (a : Option Addr) (cap : Nat) :
    Calls Try.prog 106 #[.slice a 0 cap] w fun e w' => e = .returned (.tuple #[.int .u64 0, .int .i64 0, .int .i64 5]) ∧ w' = w := by
  go_enter Try.func106, Try.ntmps106
  go_wp2
  refine wp_loop_rounds 1 ?_
  rw [rounds_succ]
  go_wp2
  go_ret3
  exact ⟨rfl, rfl⟩

theorem read_any (w : World) (v : Value) (l : List UInt8) (h : BytesIn w v l) :
    Calls Try.prog 106 #[v] w fun e w' => e = .returned (.tuple #[.int .u64 ((rd l).1 : Int), .int .i64 ((rd l).2.1 : Int), .int .i64 ((rd l).2.2 : Int)]) ∧ w' = w := by
  obtain ⟨⟨a, cap, rfl, hf⟩, hlen⟩ := h
  by_cases h0 : l = []
  · subst h0
    refine (read_none w a cap).mono ?_
    rintro e w' ⟨rfl, rfl⟩
    exact ⟨rfl, rfl⟩
  · obtain ⟨b, off, rfl, hv⟩ := hf h0
    exact read_some w b off cap l hv hlen
end Go.Proofs.Ytbdgdigpnfpnhaa.Q.Enc
namespace Go.Proofs.Ytbdgdigpnfpnhaa.Q.Enc
open Go.RowKit

/-- The bytes of a number, f steps far. -/
def lebF : Nat → Nat → List UInt8
  | 0, x => [UInt8.ofNat x]
  | f + 1, x => if x < 128 then [UInt8.ofNat x] else UInt8.ofNat (x % 128 + 128) :: lebF f (x / 128)
/-- The bytes of a number. -/
def leb (x : Nat) : List UInt8 := lebF x x

theorem lebF_same : ∀ (f g x : Nat), x ≤ f → x ≤ g → lebF f x = lebF g x := by
  intro f
  induction f with
  | zero =>
    intro g x h _
    have : x = 0 := by omega
    subst this
    cases g <;> rfl
  | succ f ih =>
    intro g x h1 h2
    cases g with
    | zero =>
      have : x = 0 := by omega
      subst this
      rfl
    | succ g =>
      rw [lebF, lebF]
      by_cases hx : x < 128
      · rw [if_pos hx, if_pos hx]
      · rw [if_neg hx, if_neg hx, ih g (x / 128) (by omega) (by omega)]

theorem leb_small (x : Nat) (h : x < 128) : leb x = [UInt8.ofNat x] := by
  unfold leb
  cases x with
  | zero => rfl
  | succ x => rw [lebF, if_pos h]
theorem leb_great (x : Nat) (h : ¬ x < 128) : leb x = UInt8.ofNat (x % 128 + 128) :: leb (x / 128) := by
  unfold leb
  cases x with
  | zero => omega
  | succ x => rw [lebF, if_neg h, lebF_same x ((x + 1) / 128) ((x + 1) / 128) (by omega) (by omega)]
theorem leb_pos (x : Nat) : 1 ≤ (leb x).length := by
  by_cases h : x < 128
  · rw [leb_small x h]; simp
  · rw [leb_great x h]; simp

theorem leb_len (k : Nat) : ∀ x, x < 2 ^ (7 * (k + 1)) → (leb x).length ≤ k + 1 := by
  induction k with
  | zero => intro x h; rw [leb_small x (by simpa using h)]; simp
  | succ k ih =>
    intro x h
    by_cases hx : x < 128
    · rw [leb_small x hx]; simp
    · rw [leb_great x hx, List.length_cons]
      have e : 2 ^ (7 * (k + 1 + 1)) = 128 * 2 ^ (7 * (k + 1)) := by rw [show 7 * (k + 1 + 1) = 7 + 7 * (k + 1) from by omega, Nat.pow_add]
      have := ih (x / 128) (by omega)
      omega

theorem leb_len64 (x : Nat) (h : x < 18446744073709551616) : (leb x).length ≤ 10 := by
  refine leb_len 9 x ?_
  have : (18446744073709551616 : Nat) ≤ 2 ^ (7 * (9 + 1)) := by decide
  omega

theorem low_toNat (x : Nat) (h : x < 128) : (UInt8.ofNat x).toNat = x := by rw [UInt8.toNat_ofNat']; omega
theorem more_toNat (x : Nat) : (UInt8.ofNat (x % 128 + 128)).toNat = x % 128 + 128 := by rw [UInt8.toNat_ofNat']; omega

theorem pow7 (j : Nat) : 2 ^ (7 * (j + 1)) = 128 * 2 ^ (7 * j) := by rw [show 7 * (j + 1) = 7 + 7 * j from by omega, Nat.pow_add]

theorem j_le9 (x j : Nat) (h0 : j = 0 ∨ x ≠ 0) (h : x * 2 ^ (7 * j) < 18446744073709551616) : j ≤ 9 := by
  rcases h0 with h0 | h0
  · omega
  · rcases Nat.lt_or_ge j 10 with hj | hj
    · omega
    · exfalso
      have h1 : (2 : Nat) ^ 70 ≤ 2 ^ (7 * j) := Nat.pow_le_pow_right (by omega) (by omega)
      have h2 : 1 * 2 ^ (7 * j) ≤ x * 2 ^ (7 * j) := Nat.mul_le_mul_right _ (by omega)
      have : (18446744073709551616 : Nat) < 2 ^ 70 := by decide
      omega

theorem last_le1 (x : Nat) (h : x * 2 ^ (7 * 9) < 18446744073709551616) : x ≤ 1 := by
  have : (2 : Nat) ^ (7 * 9) = 9223372036854775808 := by decide
  rw [this] at h; omega

theorem get_mid (p : List UInt8) (c : UInt8) (r : List UInt8) (h : p.length < (p ++ c :: r).length) : (p ++ c :: r)[p.length] = c := by simp

/-- What was written is read back. -/
theorem rd_leb : ∀ (x : Nat) (p r : List UInt8), (p.length = 0 ∨ x ≠ 0) → x * 2 ^ (7 * p.length) < 18446744073709551616 →
    rdFrom (p ++ (leb x ++ r)) p.length (10 - p.length) = (num p + x * 2 ^ (7 * p.length), p.length + (leb x).length, 0) := by
  intro x
  induction x using Nat.strongRecOn with
  | _ x ih =>
    intro p r h0 hx
    have hj := j_le9 x p.length h0 hx
    by_cases hs : x < 128
    · rw [leb_small x hs]
      have hl : p.length < (p ++ ([UInt8.ofNat x] ++ r)).length := by simp
      rw [rdFrom_at _ p.length hl (by omega)]
      have hg : (p ++ ([UInt8.ofNat x] ++ r))[p.length] = UInt8.ofNat x := get_mid p _ r hl
      rw [hg, low_toNat x hs, if_neg (by omega)]
      have hm : mayEndB x p.length = true := by
        simp only [mayEndB, Bool.and_eq_true, Bool.or_eq_true, decide_eq_true_eq, beq_iff_eq, bne_iff_ne]
        refine ⟨h0, ?_⟩
        by_cases h9 : p.length < 9
        · exact .inl h9
        · right
          have e : p.length = 9 := by omega
          rw [e] at hx
          exact last_le1 x hx
      rw [hm, if_pos rfl]
      have ht : (p ++ ([UInt8.ofNat x] ++ r)).take (p.length + 1) = p ++ [UInt8.ofNat x] := by
        rw [← List.append_assoc, List.take_left' (by simp)]
      rw [ht, num_snoc, low_toNat x hs, Nat.mod_eq_of_lt hs]
      simp
    · rw [leb_great x hs]
      have hl : p.length < (p ++ (UInt8.ofNat (x % 128 + 128) :: leb (x / 128) ++ r)).length := by simp
      rw [rdFrom_at _ p.length hl (by omega)]
      have hg : (p ++ (UInt8.ofNat (x % 128 + 128) :: leb (x / 128) ++ r))[p.length] = UInt8.ofNat (x % 128 + 128) := get_mid p _ _ hl
      rw [hg, more_toNat, if_pos (by omega)]
      have e : p ++ (UInt8.ofNat (x % 128 + 128) :: leb (x / 128) ++ r) = (p ++ [UInt8.ofNat (x % 128 + 128)]) ++ (leb (x / 128) ++ r) := by simp
      have hlen : (p ++ [UInt8.ofNat (x % 128 + 128)]).length = p.length + 1 := by simp
      have hb : x / 128 * 2 ^ (7 * (p.length + 1)) ≤ x * 2 ^ (7 * p.length) := by
        rw [pow7, ← Nat.mul_assoc]
        exact Nat.mul_le_mul_right _ (by omega)
      have hi := ih (x / 128) (by omega) (p ++ [UInt8.ofNat (x % 128 + 128)]) r (.inr (by omega)) (by rw [hlen]; omega)
      rw [hlen] at hi
      rw [e, hi, num_snoc, more_toNat]
      have e2 : (x % 128 + 128) % 128 = x % 128 := by omega
      rw [e2, pow7]
      have e3 : x / 128 * (128 * 2 ^ (7 * p.length)) = (x / 128 * 128) * 2 ^ (7 * p.length) := by rw [Nat.mul_assoc]
      have e4 : x * 2 ^ (7 * p.length) = (x / 128 * 128 + x % 128) * 2 ^ (7 * p.length) := by congr 1; omega
      rw [e3, e4, Nat.add_mul, List.length_cons]
      congr 1
      · omega
      · congr 1; omega

theorem rd_back (x : Nat) (r : List UInt8) (hx : x < 18446744073709551616) : rd (leb x ++ r) = (x, (leb x).length, 0) := by
  have h := rd_leb x [] r (.inl rfl) (by simpa using hx)
  unfold rd
  simpa [num] using h

/-- What is read was written so. -/
theorem rd_forth : ∀ (k : Nat) (p q : List UInt8) (X n : Nat), k = 10 - p.length → rdFrom (p ++ q) p.length k = (X, n, 0) →
    ∃ y, q.take (leb y).length = leb y ∧ (leb y).length ≤ q.length ∧ n = p.length + (leb y).length ∧ X = num p + y * 2 ^ (7 * p.length) ∧ (p.length = 0 ∨ y ≠ 0) := by
  intro k
  induction k with
  | zero => intro p q X n _ h; simp [rdFrom] at h
  | succ k ih =>
    intro p q X n hk h
    cases q with
    | nil => rw [rdFrom, dif_neg (by simp)] at h; simp at h
    | cons c q =>
      have hl : p.length < (p ++ c :: q).length := by simp
      rw [rdFrom, dif_pos hl, get_mid p c q hl] at h
      have hc := c.toNat_lt
      by_cases h1 : 128 ≤ c.toNat
      · rw [if_pos h1] at h
        have e : p ++ c :: q = (p ++ [c]) ++ q := by simp
        have hlen : (p ++ [c]).length = p.length + 1 := by simp
        rw [e, ← hlen] at h
        obtain ⟨y, a1, a2, a3, a4, a5⟩ := ih (p ++ [c]) q X n (by rw [hlen]; omega) h
        rw [hlen] at a3 a4 a5
        have hy : y ≠ 0 := by rcases a5 with a5 | a5 <;> omega
        refine ⟨c.toNat % 128 + 128 * y, ?_⟩
        have hg : leb (c.toNat % 128 + 128 * y) = c :: leb y := by
          rw [leb_great _ (by omega)]
          congr 1
          · have : (c.toNat % 128 + 128 * y) % 128 + 128 = c.toNat := by omega
            rw [this]; simp
          · congr 1; omega
        rw [hg]
        refine ⟨by simp [a1], by simpa using a2, by rw [a3, List.length_cons]; omega, ?_, .inr (by omega)⟩
        rw [a4, num_snoc, pow7, Nat.add_mul]
        have e3 : y * (128 * 2 ^ (7 * p.length)) = 128 * y * 2 ^ (7 * p.length) := by rw [← Nat.mul_assoc, Nat.mul_comm y 128]
        rw [e3]; omega
      · rw [if_neg h1] at h
        cases hm : mayEndB c.toNat p.length with
        | false => rw [hm] at h; simp at h
        | true =>
          rw [hm, if_pos rfl] at h
          have hs : c.toNat < 128 := by omega
          have hg : leb c.toNat = [c] := by rw [leb_small _ hs]; simp
          simp only [Prod.mk.injEq] at h
          obtain ⟨hX, hn, _⟩ := h
          have ht : (p ++ c :: q).take (p.length + 1) = p ++ [c] := by
            rw [show p ++ c :: q = (p ++ [c]) ++ q from by simp, List.take_left' (by simp)]
          refine ⟨c.toNat, by rw [hg]; simp, by rw [hg]; simp, by rw [hg, ← hn]; simp, ?_, ?_⟩
          · rw [← hX, ht, num_snoc, Nat.mod_eq_of_lt hs]
          · simp only [mayEndB, Bool.and_eq_true, Bool.or_eq_true, beq_iff_eq, bne_iff_ne] at hm
            exact hm.1

theorem rd_made (l : List UInt8) (h : (rd l).2.2 = 0) : l.take (rd l).2.1 = leb (rd l).1 ∧ (rd l).2.1 ≤ l.length := by
  have h2 : rd l = ((rd l).1, (rd l).2.1, 0) := by rw [← h]
  obtain ⟨y, a1, a2, a3, a4, _⟩ := rd_forth 10 [] l _ _ rfl h2
  simp only [List.length_nil, Nat.zero_add, num, Nat.mul_zero, Nat.pow_zero, Nat.mul_one] at a3 a4
  rw [a3, a4]
  exact ⟨a1, a2⟩

theorem rd_err (l : List UInt8) : (rd l).2.2 = 0 ∨ (rd l).2.2 = 5 := by
  have key : ∀ (k j : Nat), (rdFrom l j k).2.2 = 0 ∨ (rdFrom l j k).2.2 = 5 := by
    intro k
    induction k with
    | zero => intro j; exact .inr rfl
    | succ k ih =>
      intro j
      rw [rdFrom]
      split
      · split
        · exact ih _
        · split
          · exact .inl rfl
          · exact .inr rfl
      · exact .inr rfl
  exact key 10 0

theorem rd_lt (l : List UInt8) : (rd l).1 < 18446744073709551616 := by
  have key : ∀ (k j : Nat), k = 10 - j → (rdFrom l j k).1 < 18446744073709551616 := by
    intro k
    induction k with
    | zero => intro j _; show 0 < _; omega
    | succ k ih =>
      intro j hk
      rw [rdFrom]
      split
      · rename_i hj
        split
        · exact ih _ (by omega)
        · cases hm : mayEndB (l[j]).toNat j with
          | false => simp
          | true =>
            rw [if_pos rfl]
            show num (l.take (j + 1)) < _
            simp only [mayEndB, Bool.and_eq_true, Bool.or_eq_true, decide_eq_true_eq] at hm
            have h1 := num_take l j hj
            have h2 := num_take_lt l j
            by_cases h9 : j < 9
            · have h3 := num_take_lt l (j + 1)
              have h4 : 2 ^ (7 * (j + 1)) ≤ 2 ^ 63 := Nat.pow_le_pow_right (by omega) (by omega)
              have : (2 : Nat) ^ 63 < 18446744073709551616 := by decide
              omega
            · have e : j = 9 := by omega
              have hG : (l[j]).toNat ≤ 1 := by rcases hm.2 with h | h <;> omega
              subst e
              have e2 : (2 : Nat) ^ (7 * 9) = 9223372036854775808 := by decide
              rw [e2] at h1 h2
              have : (l[9]).toNat % 128 ≤ 1 := by omega
              have : (l[9]).toNat % 128 * 9223372036854775808 ≤ 1 * 9223372036854775808 := Nat.mul_le_mul_right _ this
              omega
      · decide
  exact key 10 0 rfl
end Go.Proofs.Ytbdgdigpnfpnhaa.Q.Enc
namespace Go.Proofs.Ytbdgdigpnfpnhaa.Q.Enc
open Go.RowKit

/-- The number up to 'most', how many bytes it has, and the error. -/
def smX (l : List UInt8) (most : Int) : Int := if (rd l).2.2 = 0 ∧ 0 ≤ most ∧ ((rd l).1 : Int) ≤ most then ((rd l).1 : Int) else 0
def smN (l : List UInt8) (most : Int) : Int := if (rd l).2.2 = 0 ∧ 0 ≤ most ∧ ((rd l).1 : Int) ≤ most then ((rd l).2.1 : Int) else 0
def smE (l : List UInt8) (most : Int) : Int := if (rd l).2.2 = 0 ∧ 0 ≤ most ∧ ((rd l).1 : Int) ≤ most then 0 else 5

set_option maxHeartbeats 1600000 in
theorem small_any (w : World) (v : Value) (l : List UInt8) (most : Int) (hm : most ≤ 9223372036854775807) (hm0 : -9223372036854775808 ≤ most) (h : BytesIn w v l) :
    Calls Try.prog 91 #[v, .int .i64 most] w fun e w' => e = .returned (.tuple #[.int .i64 (smX l most), .int .i64 (smN l most), .int .i64 (smE l most)]) ∧ w' = w := by
  have RD : Hid (Calls Try.prog 106 #[v] w fun e w' => e = .returned (.tuple #[.int .u64 ((rd l).1 : Int), .int .i64 ((rd l).2.1 : Int), .int .i64 ((rd l).2.2 : Int)]) ∧ w' = w) := read_any w v l h
  have F : ∀ c, ((rd l).2.2 = 0 ∧ 0 ≤ most ∧ ((rd l).1 : Int) ≤ most) = c → Hid (c → smX l most = ((rd l).1 : Int) ∧ smN l most = ((rd l).2.1 : Int) ∧ smE l most = 0) ∧ Hid (¬ c → smX l most = 0 ∧ smN l most = 0 ∧ smE l most = 5) := by
    rintro c rfl
    exact ⟨fun h => ⟨if_pos h, if_pos h, if_pos h⟩, fun h => ⟨if_neg h, if_neg h, if_neg h⟩⟩
  obtain ⟨F1, F2⟩ := F _ rfl
  clear F h
  have hlt := rd_lt l
  have he := rd_err l
  obtain ⟨X, hX⟩ : ∃ X, X = (rd l).1 := ⟨_, rfl⟩
  obtain ⟨N, hN⟩ : ∃ N, N = (rd l).2.1 := ⟨_, rfl⟩
  obtain ⟨E, hE⟩ : ∃ E, E = (rd l).2.2 := ⟨_, rfl⟩
  obtain ⟨sx, hsx⟩ : ∃ s, s = smX l most := ⟨_, rfl⟩
  obtain ⟨sn, hsn⟩ : ∃ s, s = smN l most := ⟨_, rfl⟩
  obtain ⟨se, hse⟩ : ∃ s, s = smE l most := ⟨_, rfl⟩
  rw [← hX, ← hN, ← hE] at RD F1
  rw [← hX, ← hE] at F2
  rw [← hsx, ← hsn, ← hse] at F1 F2 ⊢
  rw [← hX] at hlt
  rw [← hE] at he
  clear hX hN hE hsx hsn hse
  rcases he with rfl | rfl
  · by_cases h1 : 0 ≤ most
    · have h1' : ¬ most < 0 := by omega
      have hw : IntKind.u64.wrap most = most := by rw [IntKind.wrap_u64]; omega
      by_cases h2 : (X : Int) ≤ most
      · have h2' : ¬ most < (X : Int) := by omega
        have hwx : IntKind.i64.wrap (X : Int) = (X : Int) := by simp only [IntKind.wrap, IntKind.bits, IntKind.signed]; simp; omega
        obtain ⟨rfl, rfl, rfl⟩ := F1.out ⟨rfl, h1, h2⟩
        clear F1 F2
        go_enter Try.func91, Try.ntmps91
        go_wp2_with (go_at_call 106; refine RD.out.mono ?_; rintro e w' ⟨rfl, rfl⟩)
        go_ret3
        exact ⟨rfl, rfl⟩
      · have h2' : most < (X : Int) := by omega
        obtain ⟨rfl, rfl, rfl⟩ := F2.out (fun h => h2 h.2.2)
        clear F1 F2
        go_enter Try.func91, Try.ntmps91
        go_wp2_with (go_at_call 106; refine RD.out.mono ?_; rintro e w' ⟨rfl, rfl⟩)
        go_ret3
        exact ⟨rfl, rfl⟩
    · have h1' : most < 0 := by omega
      obtain ⟨rfl, rfl, rfl⟩ := F2.out (fun h => h1 h.2.1)
      clear F1 F2
      go_enter Try.func91, Try.ntmps91
      go_wp2_with (go_at_call 106; refine RD.out.mono ?_; rintro e w' ⟨rfl, rfl⟩)
      go_ret3
      exact ⟨rfl, rfl⟩
  · obtain ⟨rfl, rfl, rfl⟩ := F2.out (fun h => by cases h.1)
    clear F1 F2
    go_enter Try.func91, Try.ntmps91
    go_wp2_with (go_at_call 106; refine RD.out.mono ?_; rintro e w' ⟨rfl, rfl⟩)
    go_ret3
    exact ⟨rfl, rfl⟩
end Go.Proofs.Ytbdgdigpnfpnhaa.Q.Enc
namespace Go.Proofs.Ytbdgdigpnfpnhaa.Q.Enc
open Go.RowKit

/-- A nil slice has no room. -/
def NilBare (v : Value) : Prop := ∀ len cap, v = .slice none len cap → cap = 0

theorem or128 (c : Nat) (h : c < 256) : bits .or .u8 (c : Int) 128 = ((c % 128 + 128 : Nat) : Int) := by
  have : ∀ c : Fin 256, bits .or .u8 (c.val : Int) 128 = ((c.val % 128 + 128 : Nat) : Int) := by decide +kernel
  exact this ⟨c, h⟩
theorem or_more (X : Nat) : bits .or .u8 ((X : Int) % 256) 128 = ((UInt8.ofNat (X % 128 + 128)).toNat : Int) := by
  have e : (X : Int) % 256 = ((X % 256 : Nat) : Int) := by omega
  rw [e, or128 _ (by omega), more_toNat]
  have : X % 256 % 128 = X % 128 := by omega
  rw [this]

set_option maxHeartbeats 800000 in
theorem append_any (w : World) (v : Value) (l : List UInt8) (x : Nat) (h : BytesIn w v l) (hnil : NilBare v) (hx : x < 18446744073709551616) (hlen : l.length ≤ 140737488351232) :
    Calls Try.prog 88 #[v, .int .u64 (x : Int)] w fun e w' => ∃ v', e = .returned v' ∧ Ext w.heap.size w (.slice none 0 0) w' v' (l ++ leb x) := by
  obtain ⟨i0, hi, hz0, hz1, hz2⟩ := info_parts Try.info5
  obtain ⟨⟨a, cap, rfl, hf⟩, _⟩ := h
  have hno : a = none → l.length = 0 ∧ cap = 0 := fun e => by
    subst e
    refine ⟨?_, hnil _ _ rfl⟩
    by_cases h0 : l = []
    · rw [h0]; rfl
    · obtain ⟨b, off, hb, _⟩ := hf h0; cases hb
  have hl10 : Hid ((leb x).length ≤ 10) := leb_len64 x hx
  have HX : Hid (x < 18446744073709551616) := hx
  clear hx hnil
  go_enter Try.func88, Try.ntmps88
  go_wp2_with (at_make; refine wpList_make_own _ rfl _ _ 89 rfl w.heap.size 5 i0 (.int .u8 0) 1 Try.underlying89 hi hz0 hz1 _ _ _ (l.length + 10) rfl rfl ?m1 ?m2 ?m3 (Nat.le_refl _) ?_)
  case m1 => simp
  case m2 => rw [hz2]; omega
  case m3 => unfold maxLen; omega
  · intro w1 hown1 hgrow1
    have hcells : ∀ ad, a = some ad → ∀ j u, (bc l)[j]? = some u → w1.cell? (ad.add j) = some u := fun ad ha j u hu =>
      hgrow1.cell (BytesIn.cells hf ad ha j u hu) (by simp)
    clear hf
    go_wp2_with (at_builtin; refine wpList_append_fits_any _ rfl (.tmp 9) (.tmp 10) 89 rfl w.heap.size 5 i0 1 Try.underlying89 hi hz1 w.heap.size 0 (l.length + 10) [] rfl hown1 a l.length cap (bc l) rfl ?k1 hno hcells (bc_one _) ?k2 ?_)
    case k1 => rw [bc_length]; omega
    case k2 => omega
    · intro w2 hown2 hgrow2
      have hst : Ext w.heap.size w (.slice none 0 0) w2 (.slice (some ⟨w.heap.size, 0, none⟩) l.length (l.length + 10)) l :=
        ⟨by simpa using hown2, grownBy_trans hgrow1 hgrow2 (.inr ⟨_, rfl, Nat.le_refl _⟩), .inr ⟨_, rfl, Nat.le_refl _⟩⟩
      clear hown1 hgrow1 hown2 hgrow2 hcells hno
      go_wp2
      go_loopw [1, 5] (fun y out wr => ∃ (X : Nat) (m : List UInt8), y = .int .u64 X ∧ X < 18446744073709551616 ∧ Ext w.heap.size w (.slice none 0 0) wr out m ∧ m ++ leb X = l ++ leb x) (fun y _ _ => (intOf y).toNat)
      case atStart => exact ⟨x, l, rfl, HX.out, hst, rfl⟩
      case round =>
        obtain ⟨X, m, rfl, hX, hext, hm⟩ := hrel
        have HM : Hid (m ++ leb X = l ++ leb x) := hm
        have hl : m.length ≤ 140737488351242 := by
          have h1 := congrArg List.length hm
          have h2 := hl10.out
          rw [List.length_append, List.length_append] at h1
          omega
        have HXX : Hid (X < 18446744073709551616) := hX
        clear hm hX
        have hs := hext.size
        by_cases hge : (128 : Int) ≤ (X : Int)
        · obtain ⟨c, hc⟩ : ∃ c : UInt8, c = UInt8.ofNat (X % 128 + 128) := ⟨_, rfl⟩
          have HL : Hid (leb X = c :: leb (X / 128)) := by show _ = _; rw [hc]; exact leb_great X (by omega)
          have hb := or_more X
          rw [← hc] at hb
          clear hc
          go_wp2_with (at_builtin; refine wpList_append_lies _ rfl (.tmp 16) (.tmp 20) 89 rfl w.heap.size 5 i0 (.int .u8 0) 1 1 Try.underlying89 hi hz0 hz1 hz2 rfl (by decide) _ _ _ rfl (hext.own.alloc _) ⟨wr.heap.size, 0, none⟩ 1 1 (bc [c]) rfl rfl (cell_one_new _ _ _) (bc_one _) (by decide) ?c3 ?c4 ?c5 _ rfl ?_)
          case c3 => unfold maxLen; omega
          case c4 => omega
          case c5 => simp; omega
          · intro g cap1 w3 hown3 hgrow3 hat3 hlt3
            have R := hext.push (m := [c]) rfl rfl hown3 hgrow3 (by simpa using hat3)
            have HR : Hid (m ++ [c] ++ leb (X / 128) = l ++ leb x) := by
              show _ = _
              rw [← HM.out, HL.out]; simp
            clear hown3 hgrow3 hat3 hlt3 hext hst hs
            go_wp2
            go_roundw
            case rel => exact ⟨X / 128, _, by go_num, by have := HXX.out; omega, R, HR.out⟩
            case measure => simp [intOf]; omega
        · have HL : Hid (leb X = [UInt8.ofNat X]) := leb_small X (by omega)
          have hb : ((UInt8.ofNat X).toNat : Int) = (X : Int) := by rw [low_toNat X (by omega)]
          go_wp2_with (at_builtin; refine wpList_append_lies _ rfl (.tmp 22) (.tmp 25) 89 rfl w.heap.size 5 i0 (.int .u8 0) 1 1 Try.underlying89 hi hz0 hz1 hz2 rfl (by decide) _ _ _ rfl (hext.own.alloc _) ⟨wr.heap.size, 0, none⟩ 1 1 [.int .u8 (X : Int)] rfl rfl (cell_one_new _ _ _) ?e2 (by decide) ?e3 ?e4 ?e5 _ rfl ?_)
          case e2 => rfl
          case e3 => unfold maxLen; omega
          case e4 => omega
          case e5 => omega
          · intro g cap1 w3 hown3 hgrow3 hat3 hlt3
            have R := hext.push (m := [UInt8.ofNat X]) rfl rfl (by simp only [bc, List.map_cons, List.map_nil, hb]; exact hown3) hgrow3 (by simpa using hat3)
            have HR : Hid (m ++ [UInt8.ofNat X] = l ++ leb x) := by
              show _ = _
              rw [← HM.out, HL.out]
            rw [HR.out] at R
            clear hown3 hgrow3 hat3 hlt3 hext hst hs
            go_wp2
            go_ret
            exact ⟨_, rfl, R⟩
end Go.Proofs.Ytbdgdigpnfpnhaa.Q.Enc
namespace Go.Proofs.Ytbdgdigpnfpnhaa.Q
open Go.RowKit

theorem wp_app_bytes (w : World) {o : Oper} {a : Act} {K : Act → World → Prop} {Q : Exit → Act → World → Prop} (s x : Operand)
    (hop : o.op = .call { callee := .builtin .append, args := #[s, x], argTypes := #[89, 89] })
    (base g cap : Nat) (l m : List UInt8) (n k c : Nat) (hn : n = l.length) (hk : k = m.length) (hs : a.eval s = .slice (some ⟨g, 0, none⟩) n cap) (hown : w.ownsRow base 5 1 (.slice (some ⟨g, 0, none⟩) n cap) n (bc l))
    (ao : Option Addr) (hx : a.eval x = .slice ao k c) (hin : BytesIn w (.slice ao k c) m) (hnone : ao = none → c = 0) (hroom : l.length + m.length ≤ 140737488355328) (hbase : base ≤ w.heap.size)
    (h : ∀ g' cap' L w', Hid (L = (l ++ m).length) → Ext base w (.slice (some ⟨g, 0, none⟩) n cap) w' (.slice (some ⟨g', 0, none⟩) L cap') (l ++ m) → K (a.put o.dst (.slice (some ⟨g', 0, none⟩) L cap')) w') :
    Oper.wp Try.prog o a w K Q := by
  subst hk hn
  obtain ⟨i0, hi, hz0, hz1, hz2⟩ := info_parts Try.info5
  have hcap := own_cap hown
  obtain ⟨⟨a', cap', e, hf⟩, hlen⟩ := hin
  simp only [Value.slice.injEq, true_and] at e
  obtain ⟨rfl, rfl⟩ := e
  by_cases hm : m = []
  · subst hm
    have hfin : ∀ w', w'.ownsRow base 5 1 (.slice (some ⟨g, 0, none⟩) l.length cap) l.length (bc l) → w.grownBy w' (some g) → K (a.put o.dst (.slice (some ⟨g, 0, none⟩) l.length cap)) w' := fun w' h1 h2 => by
      refine h g cap l.length w' (by simp [Hid]) ⟨?_, h2, .inl rfl⟩
      rw [List.append_nil]
      exact h1
    cases ao with
    | some ad =>
      obtain ⟨w', hrun, r1, r2⟩ := run_append_fits (P := Try.prog) w base 89 o.type 5 i0 1 Try.underlying89 hi hz1 g l.length cap (bc l) hown ad 0 c [] rfl (fun j u hj => by simp at hj) (by simp) (by omega)
      unfold Oper.wp
      simp [execOp, hop, resolve, invoke, builtin, hs, hx, hrun, Result.andThen]
      exact hfin w' (by simpa using r1) r2
    | none =>
      have hc0 := hnone rfl
      subst hc0
      have hrun := run_append_owned_none (P := Try.prog) w base 89 o.type 5 i0 1 Try.underlying89 hi _ l.length (bc l) hown
      unfold Oper.wp
      simp [execOp, hop, resolve, invoke, builtin, hs, hx, hrun, Result.andThen]
      exact hfin w hown (World.grownBy.refl _ _)
  · obtain ⟨b, off, rfl, hat⟩ := hf hm
    refine wp_append_lies w s x 89 hop base 5 i0 (.int .u8 0) 1 1 Try.underlying89 hi hz0 hz1 hz2 rfl (by decide) _ l.length (bc l) hs hown ⟨b, off, none⟩ m.length c (bc m) hx (by rw [bc_length]; omega) (BytesIn.cells (fun _ => ⟨b, off, rfl, hat⟩) _ rfl) (bc_one m) (List.length_pos_iff.mpr hm) (by unfold maxLen; omega) (by omega) hbase _ rfl ?_
    intro g' cap' w' h1 h2 h3 h4
    have he : (l ++ m).length = l.length + m.length := List.length_append
    refine h g' cap' (l.length + m.length) w' he.symm ⟨by rw [he, bc_append]; exact h1, h2, ?_⟩
    rcases h3 with h3 | h3
    · exact .inl h3.symm
    · exact .inr ⟨g', rfl, by omega⟩

theorem step_app_bytes (w : World) {ops : Array Oper} {o : Oper} {a : Act} {K : Act → World → Prop} {Q : Exit → Act → World → Prop} {E : Prop} (hgd : o.guard = none) (s x : Operand)
    (hop : o.op = .call { callee := .builtin .append, args := #[s, x], argTypes := #[89, 89] })
    (base g cap : Nat) (l m : List UInt8) (n k c : Nat) (hn : n = l.length) (hk : k = m.length) (hs : a.eval s = .slice (some ⟨g, 0, none⟩) n cap) (hown : w.ownsRow base 5 1 (.slice (some ⟨g, 0, none⟩) n cap) n (bc l))
    (ao : Option Addr) (hx : a.eval x = .slice ao k c) (hin : BytesIn w (.slice ao k c) m) (hnone : ao = none → c = 0) (hroom : l.length + m.length ≤ 140737488355328) (hbase : base ≤ w.heap.size)
    (h : ∀ g' cap' L w', Hid (L = (l ++ m).length) → Ext base w (.slice (some ⟨g, 0, none⟩) n cap) w' (.slice (some ⟨g', 0, none⟩) L cap') (l ++ m) → K (a.put o.dst (.slice (some ⟨g', 0, none⟩) L cap')) w') :
    if Region.wanted o (yielded ops a.tmps) = true then Oper.wp Try.prog o a w K Q else E := by
  have hw : Region.wanted o (yielded ops a.tmps) = true := by simp [Region.wanted, hgd]
  rw [if_pos hw]
  exact wp_app_bytes w s x hop base g cap l m n k c hn hk hs hown ao hx hin hnone hroom hbase h
end Go.Proofs.Ytbdgdigpnfpnhaa.Q
