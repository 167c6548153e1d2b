/-
  Texts read as stamps: what the calls that read a stamp out of a text answer, of every text; they leave all that was there as it was.
-/
import Derived.Test.YtbcbdaaaglkjhaaStamp
import Derived.Test.YtbcbdaaaglkjhaaRead
import Derived.Test.YtbcbdaaaglkjhaaAfter
namespace Go.Proofs.Ytbcbdaaaglkjhaa
open Go.RowKit

/-- The number whose bytes, the highest first, these are. -/
def hnum (l : List UInt8) : Nat := l.foldl (fun x c => x * 256 + c.toNat) 0
theorem hnum_snoc (l : List UInt8) (c : UInt8) : hnum (l ++ [c]) = hnum l * 256 + c.toNat := by simp [hnum]
theorem hfold_lt (l : List UInt8) : ∀ x : Nat, l.foldl (fun x c => x * 256 + c.toNat) x < (x + 1) * 256 ^ l.length := by
  induction l with
  | nil => intro x; simp
  | cons c l ih =>
    intro x
    have h := ih (x * 256 + c.toNat)
    have hc := c.toNat_lt
    simp only [List.foldl_cons, List.length_cons, Nat.pow_succ]
    have h2 : (x * 256 + c.toNat + 1) * 256 ^ l.length ≤ ((x + 1) * 256) * 256 ^ l.length := Nat.mul_le_mul_right _ (by omega)
    have e : (x + 1) * (256 ^ l.length * 256) = ((x + 1) * 256) * 256 ^ l.length := by rw [Nat.mul_assoc, Nat.mul_comm 256]
    omega
theorem hnum_lt (l : List UInt8) : hnum l < 256 ^ l.length := by have := hfold_lt l 0; unfold hnum; omega
theorem hnum_take (s : ByteArray) (j : Nat) (h : j < s.size) : hnum (s.data.toList.take (j + 1)) = hnum (s.data.toList.take j) * 256 + (s[j]).toNat := by
  rw [take_snoc s j h, hnum_snoc]
theorem hnum_take_lt (s : ByteArray) (j : Nat) (h : j ≤ 7) : hnum (s.data.toList.take j) < 72057594037927936 := by
  have h1 := hnum_lt (s.data.toList.take j)
  have h2 : 256 ^ (s.data.toList.take j).length ≤ 256 ^ 7 := Nat.pow_le_pow_right (by omega) (by have := List.length_take_le j s.data.toList; omega)
  have : (256 : Nat) ^ 7 = 72057594037927936 := by decide
  omega

theorem or_byte (X c : Nat) (hX : X < 72057594037927936) (hc : c < 256) : bits .or .u64 (IntKind.u64.wrap ((X : Int) * 256)) (IntKind.u64.wrap (c : Int)) = ((X * 256 + c : Nat) : Int) := by
  have e0 : IntKind.u64.wrap (c : Int) = (c : Int) := by rw [IntKind.wrap_u64]; omega
  rw [e0]
  have e : IntKind.u64.wrap ((X : Int) * 256) = ((X * 256 : Nat) : Int) := by rw [IntKind.wrap_u64]; omega
  rw [e, u64_or_nat (X * 256) c (by omega) (by omega)]
  have h := or_shift c X 8 hc
  rw [show (2 : Nat) ^ 8 = 256 from rfl] at h
  rw [Nat.or_comm, h, Nat.add_comm]

set_option maxRecDepth 10000 in
set_option maxHeartbeats 800000 in
theorem readHigh_any (w : World) (s : ByteArray) (hs : s.size ≤ 8) :
    Calls Try.prog 58 #[.string s] w fun e w' => e = .returned (.int .u64 (hnum s.data.toList : Int)) ∧ w' = w := by
  go_enter Try.func58, Try.ntmps58
  go_wp2
  go_loop [3, 7] (fun x i => ∃ (j X : Nat), j ≤ s.size ∧ i = .int .i64 j ∧ x = .int .u64 X ∧ X = hnum (s.data.toList.take j)) (fun _ i => s.size - (intOf i).toNat)
  case atStart => exact ⟨0, 0, Nat.zero_le _, rfl, rfl, rfl⟩
  case round =>
    obtain ⟨j, X, hj, rfl, rfl, hX⟩ := hrel
    have HX : Hid (X = hnum (s.data.toList.take j)) := hX
    clear hX
    by_cases hlt : j < s.size
    · have HN : Hid (hnum (s.data.toList.take (j + 1)) = hnum (s.data.toList.take j) * 256 + (s[j]).toNat) := hnum_take s j hlt
      have hY := or_byte X (s[j]).toNat (by rw [HX.out]; exact hnum_take_lt s j (by omega)) (UInt8.toNat_lt _)
      go_wp2
      go_round
      case rel => exact ⟨j + 1, X * 256 + (s[j]).toNat, by omega, by go_num, by go_num, by rw [HN.out, HX.out]⟩
      case measure => simp [intOf]; omega
    · have HE : Hid (X = hnum s.data.toList) := by
        show _ = _
        rw [HX.out, List.take_of_length_le (by rw [ba_length]; omega)]
      go_wp2
      go_ret
      exact ⟨by rw [HE.out]; rfl, rfl⟩

/-- The three numbers of a stamp's text, and whether they are those of a stamp that may be. -/
def uX (l : List UInt8) : Nat := hnum (l.take 8)
def uY (l : List UInt8) : Nat := hnum ((l.drop 8).take 4)
def uZ (l : List UInt8) : Nat := hnum (l.drop 12)
def uOk (l : List UInt8) : Bool := decide (l.length = 16) && (decide (uX l ≤ 9223372036854775807) && decide (9223372036854775807 - uX l ≤ 1099511627776)) && (decide (uY l ≤ 2147483647) && decide (2147483647 - uY l ≤ 1048576)) && (decide (uZ l ≤ 2147483647) && decide (2147483647 - uZ l ≤ 1048576))
def uE (l : List UInt8) : Int := if uOk l then 0 else 5
def uA (l : List UInt8) : Int := if uOk l then 9223372036854775807 - uX l else 0
def uB (l : List UInt8) : Int := if uOk l then 2147483647 - uY l else 0
def uC (l : List UInt8) : Int := if uOk l then 2147483647 - uZ l else 0

theorem u_no {l : List UInt8} (h : uOk l = false) : Hid (uE l = 5) ∧ Hid (uA l = 0) ∧ Hid (uB l = 0) ∧ Hid (uC l = 0) := by
  refine ⟨?_, ?_, ?_, ?_⟩ <;> (show _ = _; simp [uE, uA, uB, uC, h])

theorem ex1 (s : ByteArray) : (s.extract 0 8).data.toList = s.data.toList.take 8 := by rw [Lib.extract_data]; simp
theorem ex2 (s : ByteArray) : (s.extract 8 12).data.toList = (s.data.toList.drop 8).take 4 := by rw [Lib.extract_data]
theorem ex3 (s : ByteArray) (h : s.size = 16) : (s.extract 12 16).data.toList = s.data.toList.drop 12 := by
  rw [Lib.extract_data, List.take_of_length_le (by rw [List.length_drop, ba_length]; omega)]

/-- How far a number is below its top; one above it wraps round, above each limit. -/
theorem sub_word (T : Int) (top lim X : Nat) (hT : T = top) (h1 : lim < 9000000000000000000) (h2 : top ≤ 9223372036854775807) (hX : X ≤ 2 * top + 1) :
    ∃ D : Nat, IntKind.u64.wrap (T - (X : Int)) = (D : Int) ∧ (D ≤ lim → X ≤ top ∧ D = top - X ∧ top - X ≤ lim) ∧ (¬ D ≤ lim → ¬ (X ≤ top ∧ top - X ≤ lim)) := by
  subst hT
  by_cases h : X ≤ top
  · exact ⟨top - X, by rw [IntKind.wrap_u64]; omega, by omega, by omega⟩
  · exact ⟨18446744073709551616 + top - X, by rw [IntKind.wrap_u64]; omega, by omega, by omega⟩

set_option maxHeartbeats 800000 in
theorem unstamp_any (w : World) (s : ByteArray) :
    Calls Try.prog 37 #[.string s] w fun e w' => e = .returned (.tuple #[.agg #[.int .i64 (uA s.data.toList), .int .i32 (uB s.data.toList), .int .i32 (uC s.data.toList)], .int .i64 (uE s.data.toList)]) ∧ Below w.heap.size w w' := by
  by_cases h16 : s.size = 16
  · have hr1 := fun wx : World => readHigh_any wx (s.extract 0 8) (by rw [ByteArray.size_extract]; omega)
    have hr2 := fun wx : World => readHigh_any wx (s.extract 8 12) (by rw [ByteArray.size_extract]; omega)
    have hr3 := fun wx : World => readHigh_any wx (s.extract 12 16) (by rw [ByteArray.size_extract]; omega)
    rw [ex1 s] at hr1
    rw [ex2 s] at hr2
    rw [ex3 s h16] at hr3
    obtain ⟨X, hX⟩ : ∃ X : Nat, X = hnum (s.data.toList.take 8) := ⟨_, rfl⟩
    obtain ⟨Y, hY⟩ : ∃ X : Nat, X = hnum ((s.data.toList.drop 8).take 4) := ⟨_, rfl⟩
    obtain ⟨Z, hZ⟩ : ∃ X : Nat, X = hnum (s.data.toList.drop 12) := ⟨_, rfl⟩
    rw [← hX] at hr1
    rw [← hY] at hr2
    rw [← hZ] at hr3
    have R1 : Hid (∀ wx : World, Calls Try.prog 58 #[.string (s.extract 0 8)] wx fun e w' => e = .returned (.int .u64 (X : Int)) ∧ w' = wx) := hr1
    have R2 : Hid (∀ wx : World, Calls Try.prog 58 #[.string (s.extract 8 12)] wx fun e w' => e = .returned (.int .u64 (Y : Int)) ∧ w' = wx) := hr2
    have R3 : Hid (∀ wx : World, Calls Try.prog 58 #[.string (s.extract 12 16)] wx fun e w' => e = .returned (.int .u64 (Z : Int)) ∧ w' = wx) := hr3
    clear hr1 hr2 hr3
    have hlen : s.data.toList.length = 16 := by rw [ba_length]; exact h16
    have hX64 : X < 18446744073709551616 := by
      have := hnum_lt (s.data.toList.take 8); rw [← hX, List.length_take, hlen] at this; simpa using this
    have hY32 : Y < 4294967296 := by
      have := hnum_lt ((s.data.toList.drop 8).take 4); rw [← hY, List.length_take, List.length_drop, hlen] at this; simpa using this
    have hZ32 : Z < 4294967296 := by
      have := hnum_lt (s.data.toList.drop 12); rw [← hZ, List.length_drop, hlen] at this; simpa using this
    have hok : uOk s.data.toList = ((decide (X ≤ 9223372036854775807) && decide (9223372036854775807 - X ≤ 1099511627776)) && (decide (Y ≤ 2147483647) && decide (2147483647 - Y ≤ 1048576)) && (decide (Z ≤ 2147483647) && decide (2147483647 - Z ≤ 1048576))) := by
      unfold uOk uX uY uZ; rw [← hX, ← hY, ← hZ, hlen]; simp
    obtain ⟨D1, hD1, o1⟩ := sub_word 9223372036854775807 9223372036854775807 1099511627776 X rfl (by omega) (by omega) (by omega)
    obtain ⟨D2, hD2, o2⟩ := sub_word 2147483647 2147483647 1048576 Y rfl (by omega) (by omega) (by omega)
    obtain ⟨D3, hD3, o3⟩ := sub_word 2147483647 2147483647 1048576 Z rfl (by omega) (by omega) (by omega)
    have hb : ((s.size : Int) != 16) = false := by simp [h16]
    by_cases k1 : D1 ≤ 1099511627776
    · by_cases k2 : D2 ≤ 1048576
      · by_cases k3 : D3 ≤ 1048576
        · obtain ⟨x1, x2, x3⟩ := o1.1 k1
          obtain ⟨y1, y2, y3⟩ := o2.1 k2
          obtain ⟨z1, z2, z3⟩ := o3.1 k3
          have hyes : uOk s.data.toList = true := by rw [hok]; simp; omega
          have N1 : Hid (uE s.data.toList = 0) := by show _ = _; simp [uE, hyes]
          have N2 : Hid (uA s.data.toList = D1) := by show _ = _; simp only [uA, hyes, if_true, uX, ← hX]; omega
          have N3 : Hid (uB s.data.toList = D2) := by show _ = _; simp only [uB, hyes, if_true, uY, ← hY]; omega
          have N4 : Hid (uC s.data.toList = D3) := by show _ = _; simp only [uC, hyes, if_true, uZ, ← hZ]; omega
          have i1 : ¬ (1099511627776 : Int) < D1 := by omega
          have i2 : ¬ (1048576 : Int) < D2 := by omega
          have i3 : ¬ (1048576 : Int) < D3 := by omega
          clear hX hY hZ hlen hX64 hY32 hZ32 hok o1 o2 o3 x1 x2 x3 y1 y2 y3 z1 z2 z3 hyes
          go_enter Try.func37, Try.ntmps37
          go_wp2_with (first | (go_at_call 58; refine (R1.out _).mono ?_; rintro e w' ⟨rfl, rfl⟩; clear R1) | (go_at_call 58; refine (R2.out _).mono ?_; rintro e w' ⟨rfl, rfl⟩; clear R2) | (go_at_call 58; refine (R3.out _).mono ?_; rintro e w' ⟨rfl, rfl⟩; clear R3))
          refine bodyPost_ret (v := .tuple #[.agg #[.int .i64 D1, .int .i32 D2, .int .i32 D3], .int .i64 0]) (by simp [results, Try.results37, go_sem]) rfl ⟨by rw [N1.out, N2.out, N3.out, N4.out], ?_⟩
          exact (Below.refl _ _).alloc (Nat.le_refl _) _
        · have hno : uOk s.data.toList = false := by rw [hok]; have := o3.2 k3; simp only [Bool.and_eq_false_iff, decide_eq_false_iff_not]; omega
          obtain ⟨N1, N2, N3, N4⟩ := u_no hno
          have i1 : ¬ (1099511627776 : Int) < D1 := by omega
          have i2 : ¬ (1048576 : Int) < D2 := by omega
          have i3 : (1048576 : Int) < D3 := by omega
          clear hX hY hZ hlen hX64 hY32 hZ32 hok o1 o2 o3 hno
          go_enter Try.func37, Try.ntmps37
          go_wp2_with (first | (go_at_call 58; refine (R1.out _).mono ?_; rintro e w' ⟨rfl, rfl⟩; clear R1) | (go_at_call 58; refine (R2.out _).mono ?_; rintro e w' ⟨rfl, rfl⟩; clear R2) | (go_at_call 58; refine (R3.out _).mono ?_; rintro e w' ⟨rfl, rfl⟩; clear R3))
          refine bodyPost_ret (v := .tuple #[.agg #[.int .i64 0, .int .i32 0, .int .i32 0], .int .i64 5]) (by simp [results, Try.results37, go_sem]) rfl ⟨by rw [N1.out, N2.out, N3.out, N4.out], ?_⟩
          exact (Below.refl _ _).alloc (Nat.le_refl _) _
      · have hno : uOk s.data.toList = false := by rw [hok]; have := o2.2 k2; simp only [Bool.and_eq_false_iff, decide_eq_false_iff_not]; omega
        obtain ⟨N1, N2, N3, N4⟩ := u_no hno
        have i1 : ¬ (1099511627776 : Int) < D1 := by omega
        have i2 : (1048576 : Int) < D2 := by omega
        clear hX hY hZ hlen hX64 hY32 hZ32 hok o1 o2 o3 hno
        go_enter Try.func37, Try.ntmps37
        go_wp2_with (first | (go_at_call 58; refine (R1.out _).mono ?_; rintro e w' ⟨rfl, rfl⟩; clear R1) | (go_at_call 58; refine (R2.out _).mono ?_; rintro e w' ⟨rfl, rfl⟩; clear R2) | (go_at_call 58; refine (R3.out _).mono ?_; rintro e w' ⟨rfl, rfl⟩; clear R3))
        refine bodyPost_ret (v := .tuple #[.agg #[.int .i64 0, .int .i32 0, .int .i32 0], .int .i64 5]) (by simp [results, Try.results37, go_sem]) rfl ⟨by rw [N1.out, N2.out, N3.out, N4.out], ?_⟩
        exact (Below.refl _ _).alloc (Nat.le_refl _) _
    · have hno : uOk s.data.toList = false := by rw [hok]; have := o1.2 k1; simp only [Bool.and_eq_false_iff, decide_eq_false_iff_not]; omega
      obtain ⟨N1, N2, N3, N4⟩ := u_no hno
      have i1 : (1099511627776 : Int) < D1 := by omega
      clear hX hY hZ hlen hX64 hY32 hZ32 hok o1 o2 o3 hno
      go_enter Try.func37, Try.ntmps37
      go_wp2_with (first | (go_at_call 58; refine (R1.out _).mono ?_; rintro e w' ⟨rfl, rfl⟩; clear R1) | (go_at_call 58; refine (R2.out _).mono ?_; rintro e w' ⟨rfl, rfl⟩; clear R2) | (go_at_call 58; refine (R3.out _).mono ?_; rintro e w' ⟨rfl, rfl⟩; clear R3))
      refine bodyPost_ret (v := .tuple #[.agg #[.int .i64 0, .int .i32 0, .int .i32 0], .int .i64 5]) (by simp [results, Try.results37, go_sem]) rfl ⟨by rw [N1.out, N2.out, N3.out, N4.out], ?_⟩
      exact (Below.refl _ _).alloc (Nat.le_refl _) _
  · have hno : uOk s.data.toList = false := by unfold uOk; rw [ba_length]; simp [h16]
    obtain ⟨N1, N2, N3, N4⟩ := u_no hno
    have hb : ((s.size : Int) != 16) = true := by simp; omega
    clear hno h16
    go_enter Try.func37, Try.ntmps37
    go_wp2
    refine bodyPost_ret (v := .tuple #[.agg #[.int .i64 0, .int .i32 0, .int .i32 0], .int .i64 5]) (by simp [results, Try.results37, go_sem]) rfl ⟨by rw [N1.out, N2.out, N3.out, N4.out], ?_⟩
    exact (Below.refl _ _).alloc (Nat.le_refl _) _
end Go.Proofs.Ytbcbdaaaglkjhaa
