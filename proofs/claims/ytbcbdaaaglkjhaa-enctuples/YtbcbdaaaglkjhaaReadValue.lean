/-
  Reading one value at the head of a text: what the inner call answers, at every text that is not empty; it leaves all that was there as it was.
-/
import Derived.Test.YtbcbdaaaglkjhaaReadText
import Derived.Test.YtbcbdaaaglkjhaaUnstamp
namespace Go.Proofs.Ytbcbdaaaglkjhaa
open Go.RowKit

def zeroVal : Val := ⟨0, 0, ByteArray.empty⟩

/-- The value with which these bytes begin, and how many bytes it has: 0, if there is none. -/
def rv (S : List UInt8) : Val × Nat :=
  match S with
  | [] => (zeroVal, 0)
  | c :: r =>
    if c = 1 then (zeroVal, 1)
    else if c = 2 then (match r with | [] => (zeroVal, 0) | d :: _ => if d.toNat ≤ 1 then (⟨1, d.toNat, ByteArray.empty⟩, 2) else (zeroVal, 0))
    else if c = 3 then (if 8 ≤ r.length then (⟨2, (hnum (r.take 8) : Int) - 9223372036854775808, ByteArray.empty⟩, 9) else (zeroVal, 0))
    else if c = 4 then (if 0 < rtN r then (⟨3, 0, rtT r⟩, 1 + rtN r) else (zeroVal, 0))
    else (zeroVal, 0)

theorem rv_cons (c : UInt8) (r : List UInt8) : rv (c :: r) =
    if c = 1 then (zeroVal, 1)
    else if c = 2 then (match r with | [] => (zeroVal, 0) | d :: _ => if d.toNat ≤ 1 then (⟨1, d.toNat, ByteArray.empty⟩, 2) else (zeroVal, 0))
    else if c = 3 then (if 8 ≤ r.length then (⟨2, (hnum (r.take 8) : Int) - 9223372036854775808, ByteArray.empty⟩, 9) else (zeroVal, 0))
    else if c = 4 then (if 0 < rtN r then (⟨3, 0, rtT r⟩, 1 + rtN r) else (zeroVal, 0))
    else (zeroVal, 0) := rfl

theorem unturn (X : Nat) (h : X < 18446744073709551616) : IntKind.i64.wrap (bits .xor .u64 (X : Int) 9223372036854775808) = (X : Int) - 9223372036854775808 := by
  have e2 : (2 : Nat) ^ 63 = 9223372036854775808 := by decide
  by_cases hx : X < 9223372036854775808
  · have hb := bits_xor_u64_nat X 9223372036854775808 (by omega) (by omega)
    have hq := xor63 X (by omega)
    rw [e2] at hq
    have : bits .xor .u64 (X : Int) 9223372036854775808 = ((9223372036854775808 + X : Nat) : Int) := by rw [← hq]; exact hb
    rw [this, IntKind.wrap_i64]; omega
  · obtain ⟨b, hb'⟩ : ∃ b : Nat, X = 9223372036854775808 + b := ⟨X - 9223372036854775808, by omega⟩
    subst hb'
    have hb := bits_xor_u64_nat (9223372036854775808 + b) 9223372036854775808 (by omega) (by omega)
    have hq := xor63' b (by omega)
    rw [e2] at hq
    have : bits .xor .u64 ((9223372036854775808 + b : Nat) : Int) 9223372036854775808 = (b : Int) := by rw [hq] at hb; exact hb
    rw [this, IntKind.wrap_i64]; omega

theorem drop_one (s : ByteArray) (h : 0 < s.size) : s.data.toList = s[0] :: s.data.toList.drop 1 := by
  have := drop_at s 0 h
  rwa [List.drop_zero] at this

theorem ext_tail (s : ByteArray) : (s.extract 1 s.size).data.toList = s.data.toList.drop 1 := by
  rw [Lib.extract_data, List.take_of_length_le (by rw [List.length_drop, ba_length]; omega)]

theorem is2 (c : UInt8) : ((c.toNat : Int) == 2) = decide (c = 2) := u8_beq c 2 (by decide)
theorem is3 (c : UInt8) : ((c.toNat : Int) == 3) = decide (c = 3) := u8_beq c 3 (by decide)
theorem is4 (c : UInt8) : ((c.toNat : Int) == 4) = decide (c = 4) := u8_beq c 4 (by decide)

set_option maxHeartbeats 4000000 in
theorem readValue_any (w : World) (s : ByteArray) (h : 0 < s.size) (hs : s.size ≤ 9223372036854775806) :
    Calls Try.prog 43 #[.string s] w fun e w' => e = .returned (.tuple #[.agg #[.int .u8 (rv s.data.toList).1.k, .int .i64 (rv s.data.toList).1.n, .string (rv s.data.toList).1.t], .int .i64 ((rv s.data.toList).2 : Int)]) ∧ Below w.heap.size w w' := by
  have hd := drop_one s h
  have j1 := is1 s[0]
  have j2 := is2 s[0]
  have j3 := is3 s[0]
  have j4 := is4 s[0]
  have hz : (0 : Int) < (s.size : Int) := by omega
  by_cases h1 : s[0] = 1
  · have HV : Hid (rv s.data.toList = (zeroVal, 1)) := by show _ = _; rw [hd, rv_cons, if_pos h1]
    have b1 : ((s[0].toNat : Int) == 1) = true := by rw [j1]; simp [h1]
    clear hd j1 j2 j3 j4 h1
    go_enter Try.func43, Try.ntmps43
    go_wp2
    refine bodyPost_ret (v := .tuple #[.agg #[.int .u8 0, .int .i64 0, .string ByteArray.empty], .int .i64 1]) (by simp [results, Try.results43, go_sem]; try rfl) rfl ⟨by rw [HV.out]; rfl, ?_⟩
    exact (Below.refl _ _).alloc (Nat.le_refl _) _
  · have b1 : ((s[0].toNat : Int) == 1) = false := by rw [j1]; simp [h1]
    by_cases h2 : s[0] = 2
    · have b2 : ((s[0].toNat : Int) == 2) = true := by rw [j2]; simp [h2]
      by_cases hl : 1 < s.size
      · have hl2 : (1 : Int) < (s.size : Int) := by omega
        have hd2 := drop_at s 1 hl
        by_cases h01 : (s[1]).toNat ≤ 1
        · have HV : Hid (rv s.data.toList = (⟨1, (s[1]).toNat, ByteArray.empty⟩, 2)) := by show _ = _; rw [hd, rv_cons, if_neg h1, if_pos h2, hd2]; simp only [if_pos h01]
          have b3 : ((s[1].toNat : Int) ≤ 1) := by omega
          clear hd j1 j2 j3 j4 h1 h2 hd2
          go_enter Try.func43, Try.ntmps43
          go_wp2
          refine bodyPost_ret (v := .tuple #[.agg #[.int .u8 1, .int .i64 (s[1].toNat : Int), .string ByteArray.empty], .int .i64 2]) (by simp [results, Try.results43, go_sem]; try rfl) rfl ⟨by rw [HV.out]; rfl, ?_⟩
          exact (Below.refl _ _).alloc (Nat.le_refl _) _
        · have HV : Hid (rv s.data.toList = (zeroVal, 0)) := by show _ = _; rw [hd, rv_cons, if_neg h1, if_pos h2, hd2]; simp only [if_neg h01]
          have b3 : ¬ ((s[1].toNat : Int) ≤ 1) := by omega
          clear hd j1 j2 j3 j4 h1 h2 hd2
          go_enter Try.func43, Try.ntmps43
          go_wp2
          refine bodyPost_ret (v := .tuple #[.agg #[.int .u8 0, .int .i64 0, .string ByteArray.empty], .int .i64 0]) (by simp [results, Try.results43, go_sem]; try rfl) rfl ⟨by rw [HV.out]; rfl, ?_⟩
          exact (Below.refl _ _).alloc (Nat.le_refl _) _
      · have hl2 : ¬ (1 : Int) < (s.size : Int) := by omega
        have HV : Hid (rv s.data.toList = (zeroVal, 0)) := by show _ = _; rw [hd, rv_cons, if_neg h1, if_pos h2, List.drop_eq_nil_of_le (by rw [ba_length]; omega)]
        clear hd j1 j2 j3 j4 h1 h2
        go_enter Try.func43, Try.ntmps43
        go_wp2
        refine bodyPost_ret (v := .tuple #[.agg #[.int .u8 0, .int .i64 0, .string ByteArray.empty], .int .i64 0]) (by simp [results, Try.results43, go_sem]; try rfl) rfl ⟨by rw [HV.out]; rfl, ?_⟩
        exact (Below.refl _ _).alloc (Nat.le_refl _) _
    · have b2 : ((s[0].toNat : Int) == 2) = false := by rw [j2]; simp [h2]
      by_cases h3 : s[0] = 3
      · have b3 : ((s[0].toNat : Int) == 3) = true := by rw [j3]; simp [h3]
        by_cases hl : 8 < s.size
        · have hl2 : (8 : Int) < (s.size : Int) := by omega
          have hl9 : (9 : Int) ≤ (s.size : Int) := by omega
          have hrl : 8 ≤ (s.data.toList.drop 1).length := by rw [List.length_drop, ba_length]; omega
          have hx8 : (s.extract 1 9).data.toList = (s.data.toList.drop 1).take 8 := by rw [Lib.extract_data]
          have hrd := fun wx : World => readHigh_any wx (s.extract 1 9) (by rw [ByteArray.size_extract]; omega)
          rw [hx8] at hrd
          obtain ⟨X, hX⟩ : ∃ X, X = hnum ((s.data.toList.drop 1).take 8) := ⟨_, rfl⟩
          have hX64 : X < 18446744073709551616 := by
            have := hnum_lt ((s.data.toList.drop 1).take 8)
            rw [← hX, List.length_take, Nat.min_eq_left hrl] at this
            have p : (256 : Nat) ^ 8 = 18446744073709551616 := by decide
            omega
          have HV : Hid (rv s.data.toList = (⟨2, (X : Int) - 9223372036854775808, ByteArray.empty⟩, 9)) := by show _ = _; rw [hd, rv_cons, if_neg h1, if_neg h2, if_pos h3, if_pos hrl, hX]
          rw [← hX] at hrd
          have HRD : Hid (∀ wx : World, Calls Try.prog 58 #[.string (s.extract 1 9)] wx fun e w' => e = .returned (.int .u64 (X : Int)) ∧ w' = wx) := hrd
          have hun := unturn X hX64
          clear hd j1 j2 j3 j4 h1 h2 h3 hX hrl hx8 hrd hX64
          go_enter Try.func43, Try.ntmps43
          go_wp2_with (go_at_call 58; refine (HRD.out _).mono ?_; rintro e w' ⟨rfl, rfl⟩)
          refine bodyPost_ret (v := .tuple #[.agg #[.int .u8 2, .int .i64 ((X : Int) - 9223372036854775808), .string ByteArray.empty], .int .i64 9]) (by simp [results, Try.results43, go_sem]; try rfl) rfl ⟨by rw [HV.out]; rfl, ?_⟩
          exact (Below.refl _ _).alloc (Nat.le_refl _) _
        · have hl2 : ¬ (8 : Int) < (s.size : Int) := by omega
          have hrl : ¬ 8 ≤ (s.data.toList.drop 1).length := by rw [List.length_drop, ba_length]; omega
          have HV : Hid (rv s.data.toList = (zeroVal, 0)) := by show _ = _; rw [hd, rv_cons, if_neg h1, if_neg h2, if_pos h3, if_neg hrl]
          clear hd j1 j2 j3 j4 h1 h2 h3 hrl
          go_enter Try.func43, Try.ntmps43
          go_wp2
          refine bodyPost_ret (v := .tuple #[.agg #[.int .u8 0, .int .i64 0, .string ByteArray.empty], .int .i64 0]) (by simp [results, Try.results43, go_sem]; try rfl) rfl ⟨by rw [HV.out]; rfl, ?_⟩
          exact (Below.refl _ _).alloc (Nat.le_refl _) _
      · have b3 : ((s[0].toNat : Int) == 3) = false := by rw [j3]; simp [h3]
        by_cases h4 : s[0] = 4
        · have b4 : ((s[0].toNat : Int) == 4) = true := by rw [j4]; simp [h4]
          have hrt := fun wx : World => readText_any wx (s.extract 1 s.size) (by rw [ByteArray.size_extract]; omega)
          rw [ext_tail s] at hrt
          obtain ⟨T, hT⟩ : ∃ T, T = rtT (s.data.toList.drop 1) := ⟨_, rfl⟩
          obtain ⟨n, hn⟩ : ∃ n, n = rtN (s.data.toList.drop 1) := ⟨_, rfl⟩
          rw [← hT, ← hn] at hrt
          have HRT : Hid (∀ wx : World, Calls Try.prog 62 #[.string (s.extract 1 s.size)] wx fun e w' => e = .returned (.tuple #[.string T, .int .i64 (n : Int)]) ∧ Below wx.heap.size wx w') := hrt
          have hone : (1 : Int) ≤ (s.size : Int) := by omega
          by_cases hn0 : 0 < n
          · have HV : Hid (rv s.data.toList = (⟨3, 0, T⟩, 1 + n)) := by show _ = _; rw [hd, rv_cons, if_neg h1, if_neg h2, if_neg h3, if_pos h4, ← hn, ← hT, if_pos hn0]
            have hni : (0 : Int) < (n : Int) := by omega
            have hnb : n ≤ s.size := by have := rtN_le (s.data.toList.drop 1); rw [← hn, List.length_drop, ba_length] at this; omega
            clear hd j1 j2 j3 j4 h1 h2 h3 h4 hT hn hrt
            go_enter Try.func43, Try.ntmps43
            go_wp2_with (go_at_call 62; refine (HRT.out _).mono ?_; rintro e w1 ⟨rfl, hb1⟩; have q0 := hb1.cell (p := ⟨w.heap.size, 0, none⟩) (by simp); have q1 := hb1.cell (p := ⟨w.heap.size, 1, none⟩) (by simp); have q2 := hb1.cell (p := ⟨w.heap.size, 2, none⟩) (by simp); have f0 := hb1.frozen (p := ⟨w.heap.size, 0, none⟩) (by simp); have f1 := hb1.frozen (p := ⟨w.heap.size, 1, none⟩) (by simp); have f2 := hb1.frozen (p := ⟨w.heap.size, 2, none⟩) (by simp); have hz1 : w.heap.size < w1.heap.size := (by have := hb1.size; simp at this; omega))
            have B : Below w.heap.size w w1 := ((Below.refl _ _).alloc (Nat.le_refl _) _).trans (hb1.mono (by simp))
            refine bodyPost_ret (v := .tuple #[.agg #[.int .u8 3, .int .i64 0, .string T], .int .i64 (1 + (n : Int))]) (by simp [results, Try.results43, go_sem, q0, q1, q2]) rfl ⟨by rw [HV.out]; go_num, ?_⟩
            exact ((B.setCell (Nat.le_refl _) _).setCell (Nat.le_refl _) _).setCell (Nat.le_refl _) _
          · have HV : Hid (rv s.data.toList = (zeroVal, 0)) := by show _ = _; rw [hd, rv_cons, if_neg h1, if_neg h2, if_neg h3, if_pos h4, ← hn, if_neg hn0]
            have hni : ¬ (0 : Int) < (n : Int) := by omega
            clear hd j1 j2 j3 j4 h1 h2 h3 h4 hT hn hrt
            go_enter Try.func43, Try.ntmps43
            go_wp2_with (go_at_call 62; refine (HRT.out _).mono ?_; rintro e w1 ⟨rfl, hb1⟩; have q0 := hb1.cell (p := ⟨w.heap.size, 0, none⟩) (by simp); have q1 := hb1.cell (p := ⟨w.heap.size, 1, none⟩) (by simp); have q2 := hb1.cell (p := ⟨w.heap.size, 2, none⟩) (by simp); have f0 := hb1.frozen (p := ⟨w.heap.size, 0, none⟩) (by simp); have f1 := hb1.frozen (p := ⟨w.heap.size, 1, none⟩) (by simp); have f2 := hb1.frozen (p := ⟨w.heap.size, 2, none⟩) (by simp); have hz1 : w.heap.size < w1.heap.size := (by have := hb1.size; simp at this; omega))
            have B : Below w.heap.size w w1 := ((Below.refl _ _).alloc (Nat.le_refl _) _).trans (hb1.mono (by simp))
            refine bodyPost_ret (v := .tuple #[.agg #[.int .u8 0, .int .i64 0, .string ByteArray.empty], .int .i64 0]) (by simp [results, Try.results43, go_sem, q0, q1, q2]; try rfl) rfl ⟨by rw [HV.out]; rfl, ?_⟩
            exact ((B.setCell (Nat.le_refl _) _).setCell (Nat.le_refl _) _).setCell (Nat.le_refl _) _
        · have b4 : ((s[0].toNat : Int) == 4) = false := by rw [j4]; simp [h4]
          have HV : Hid (rv s.data.toList = (zeroVal, 0)) := by show _ = _; rw [hd, rv_cons, if_neg h1, if_neg h2, if_neg h3, if_neg h4]
          clear hd j1 j2 j3 j4 h1 h2 h3 h4
          go_enter Try.func43, Try.ntmps43
          go_wp2
          refine bodyPost_ret (v := .tuple #[.agg #[.int .u8 0, .int .i64 0, .string ByteArray.empty], .int .i64 0]) (by simp [results, Try.results43, go_sem]; try rfl) rfl ⟨by rw [HV.out]; rfl, ?_⟩
          exact (Below.refl _ _).alloc (Nat.le_refl _) _
end Go.Proofs.Ytbcbdaaaglkjhaa
