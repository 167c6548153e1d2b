/-
  The document's own reading of a stamp out of a text, as the call that says it gives it: the same as the program's, of every text.
-/
import Derived.Test.YtbcbdaaaglkjhaaStampFacts
namespace Go.Proofs.Ytbcbdaaaglkjhaa
open Go.RowKit

theorem add_byte (X c : Nat) (hX : X < 72057594037927936) (hc : c < 256) : IntKind.u64.wrap (IntKind.u64.wrap ((X : Int) * 256) + IntKind.u64.wrap (c : Int)) = ((X * 256 + c : Nat) : Int) := by
  rw [IntKind.wrap_u64, IntKind.wrap_u64, IntKind.wrap_u64]; omega

theorem mid_take (s : ByteArray) (o j i : Nat) (hi : i = o + j) (h : i < s.size) : hnum ((s.data.toList.drop o).take (j + 1)) = hnum ((s.data.toList.drop o).take j) * 256 + (s[i]).toNat := by
  subst hi
  have hl : j < (s.data.toList.drop o).length := by rw [List.length_drop, ba_length]; omega
  rw [List.take_succ_eq_append_getElem hl, hnum_snoc]
  congr 2
  rw [List.getElem_drop]
  rfl

theorem mid_lt (l : List UInt8) (j : Nat) (h : j ≤ 7) : hnum (l.take j) < 72057594037927936 := by
  have h1 := hnum_lt (l.take j)
  have h2 : 256 ^ (l.take j).length ≤ 256 ^ 7 := Nat.pow_le_pow_right (by omega) (by have := List.length_take_le j l; omega)
  have : (256 : Nat) ^ 7 = 72057594037927936 := by decide
  omega

set_option maxRecDepth 10000 in
set_option maxHeartbeats 1600000 in
theorem refUnstamp_any (w : World) (s : ByteArray) :
    Calls Try.prog 38 #[.string s] w fun e w' => e = .returned (.tuple #[.agg #[.int .i64 (uA s.data.toList), .int .i32 (uB s.data.toList), .int .i32 (uC s.data.toList)], .int .i64 (uE s.data.toList)]) ∧ Below w.heap.size w w' := by
  by_cases h16 : s.size = 16
  · have hb : ((s.size : Int) != 16) = false := by simp [h16]
    go_enter Try.func38, Try.ntmps38
    go_wp2
    go_loop [4, 7] (fun x i => ∃ (j X : Nat), j ≤ 8 ∧ i = .int .i64 j ∧ x = .int .u64 X ∧ X = hnum (s.data.toList.take j)) (fun _ i => 8 - (intOf i).toNat)
    case atStart => exact ⟨0, 0, Nat.zero_le _, rfl, rfl, rfl⟩
    case round =>
      obtain ⟨j, X, hj, rfl, rfl, hX⟩ := hrel
      have HX : Hid (X = hnum (s.data.toList.take j)) := hX
      clear hX
      by_cases hlt : j < 8
      · have hjs : j < s.size := by omega
        have HN : Hid (hnum (s.data.toList.take (j + 1)) = hnum (s.data.toList.take j) * 256 + (s[j]).toNat) := hnum_take s j hjs
        have hX7 : X < 72057594037927936 := by rw [HX.out]; exact hnum_take_lt s j (by omega)
        have hY := add_byte X (s[j]).toNat hX7 (UInt8.toNat_lt _)
        clear hX7
        go_wp2
        go_round
        case rel => exact ⟨j + 1, X * 256 + (s[j]).toNat, by omega, by go_num, by first | go_num | rw [hY], by rw [HN.out, HX.out]⟩
        case measure => simp [intOf]; omega
      · have HXX : Hid (X = uX s.data.toList) := by
          show _ = _
          have e : j = 8 := by omega
          rw [HX.out, e]; rfl
        clear HX
        go_wp2
        go_loop [5, 6, 8] (fun y z i => ∃ (k Y Z : Nat), k ≤ 4 ∧ i = .int .i64 (8 + k : Nat) ∧ y = .int .u64 Y ∧ z = .int .u64 Z ∧ Y = hnum ((s.data.toList.drop 8).take k) ∧ Z = hnum ((s.data.toList.drop 12).take k)) (fun _ _ i => 12 - (intOf i).toNat)
        case atStart => exact ⟨0, 0, 0, Nat.zero_le _, rfl, rfl, rfl, rfl, rfl⟩
        case round =>
          obtain ⟨k, Y, Z, hk, rfl, rfl, rfl, hY, hZ⟩ := hrel
          have HY : Hid (Y = hnum ((s.data.toList.drop 8).take k)) := hY
          have HZ : Hid (Z = hnum ((s.data.toList.drop 12).take k)) := hZ
          clear hY hZ
          by_cases hkt : k < 4
          · have h8 : 8 + k < s.size := by omega
            have h12 : 8 + k + 4 < s.size := by omega
            have HN1 : Hid (hnum ((s.data.toList.drop 8).take (k + 1)) = hnum ((s.data.toList.drop 8).take k) * 256 + (s[8 + k]).toNat) := mid_take s 8 k _ rfl h8
            have HN2 : Hid (hnum ((s.data.toList.drop 12).take (k + 1)) = hnum ((s.data.toList.drop 12).take k) * 256 + (s[8 + k + 4]).toNat) := mid_take s 12 k _ (by omega) h12
            have e1 := add_byte Y (s[8 + k]).toNat (by rw [HY.out]; exact mid_lt _ k (by omega)) (UInt8.toNat_lt _)
            have e2 := add_byte Z (s[8 + k + 4]).toNat (by rw [HZ.out]; exact mid_lt _ k (by omega)) (UInt8.toNat_lt _)
            go_wp2
            go_round
            case rel => exact ⟨k + 1, Y * 256 + (s[8 + k]).toNat, Z * 256 + (s[8 + k + 4]).toNat, by omega, by go_num, by first | go_num | rw [e1], by first | go_num | rw [e2], by rw [HN1.out, HY.out], by rw [HN2.out, HZ.out]⟩
            case measure => simp [intOf]; omega
          · have e4 : k = 4 := by omega
            have HYY : Hid (Y = uY s.data.toList) := by show _ = _; rw [HY.out, e4]; rfl
            have HZZ : Hid (Z = uZ s.data.toList) := by
              show _ = _
              rw [HZ.out, e4, List.take_of_length_le (by rw [List.length_drop, ba_length]; omega)]; rfl
            have hok : uOk s.data.toList = ((decide (X ≤ 9223372036854775807) && decide (9223372036854775807 - X ≤ 1099511627776)) && (decide (Y ≤ 2147483647) && decide (2147483647 - Y ≤ 1048576)) && (decide (Z ≤ 2147483647) && decide (2147483647 - Z ≤ 1048576))) := by
              unfold uOk; rw [← HXX.out, ← HYY.out, ← HZZ.out, ba_length, h16]; simp
            have hki : ((8 + k : Nat) : Int) = 12 := by omega
            clear HY HZ
            by_cases c1 : X ≤ 9223372036854775807
            · by_cases c2 : Y ≤ 2147483647
              · by_cases c3 : Z ≤ 2147483647
                · by_cases c4 : 9223372036854775807 - X ≤ 1099511627776
                  · by_cases c5 : 2147483647 - Y ≤ 1048576
                    · by_cases c6 : 2147483647 - Z ≤ 1048576
                      · have hyes : uOk s.data.toList = true := by rw [hok]; simp; omega
                        have N1 : Hid (uE s.data.toList = 0) := by show _ = _; simp [uE, hyes]
                        have N2 : Hid (uA s.data.toList = 9223372036854775807 - (X : Int)) := by show _ = _; rw [HXX.out]; simp only [uA, hyes, if_true]
                        have N3 : Hid (uB s.data.toList = 2147483647 - (Y : Int)) := by show _ = _; rw [HYY.out]; simp only [uB, hyes, if_true]
                        have N4 : Hid (uC s.data.toList = 2147483647 - (Z : Int)) := by show _ = _; rw [HZZ.out]; simp only [uC, hyes, if_true]
                        clear hyes hok
                        have f1 : ¬ (9223372036854775807 : Int) < X := by omega
                        have f2 : ¬ (2147483647 : Int) < Y := by omega
                        have f3 : ¬ (2147483647 : Int) < Z := by omega
                        have f4 : ¬ (1099511627776 : Int) < 9223372036854775807 - X := by omega
                        have f5 : ¬ (1048576 : Int) < 2147483647 - Y := by omega
                        have f6 : ¬ (1048576 : Int) < 2147483647 - Z := by omega
                        go_wp2
                        refine bodyPost_ret (v := .tuple #[.agg #[.int .i64 (9223372036854775807 - (X : Int)), .int .i32 (2147483647 - (Y : Int)), .int .i32 (2147483647 - (Z : Int))], .int .i64 0]) (by simp [results, Try.results38, go_sem]) rfl ⟨by rw [N1.out, N2.out, N3.out, N4.out], ?_⟩
                        exact ((Below.refl _ _).alloc (Nat.le_refl _) _).alloc (by simp) _
                      · have hno : uOk s.data.toList = false := by rw [hok]; simp only [Bool.and_eq_false_iff, decide_eq_false_iff_not]; omega
                        obtain ⟨N1, N2, N3, N4⟩ := u_no hno
                        clear hno hok
                        have f1 : ¬ (9223372036854775807 : Int) < X := by omega
                        have f2 : ¬ (2147483647 : Int) < Y := by omega
                        have f3 : ¬ (2147483647 : Int) < Z := by omega
                        have f4 : ¬ (1099511627776 : Int) < 9223372036854775807 - X := by omega
                        have f5 : ¬ (1048576 : Int) < 2147483647 - Y := by omega
                        have f6 : (1048576 : Int) < 2147483647 - Z := by omega
                        go_wp2
                        refine bodyPost_ret (v := .tuple #[.agg #[.int .i64 0, .int .i32 0, .int .i32 0], .int .i64 5]) (by simp [results, Try.results38, go_sem]) rfl ⟨by rw [N1.out, N2.out, N3.out, N4.out], ?_⟩
                        exact ((Below.refl _ _).alloc (Nat.le_refl _) _).alloc (by simp) _
                    · have hno : uOk s.data.toList = false := by rw [hok]; simp only [Bool.and_eq_false_iff, decide_eq_false_iff_not]; omega
                      obtain ⟨N1, N2, N3, N4⟩ := u_no hno
                      clear hno hok
                      have f1 : ¬ (9223372036854775807 : Int) < X := by omega
                      have f2 : ¬ (2147483647 : Int) < Y := by omega
                      have f3 : ¬ (2147483647 : Int) < Z := by omega
                      have f4 : ¬ (1099511627776 : Int) < 9223372036854775807 - X := by omega
                      have f5 : (1048576 : Int) < 2147483647 - Y := by omega
                      go_wp2
                      refine bodyPost_ret (v := .tuple #[.agg #[.int .i64 0, .int .i32 0, .int .i32 0], .int .i64 5]) (by simp [results, Try.results38, go_sem]) rfl ⟨by rw [N1.out, N2.out, N3.out, N4.out], ?_⟩
                      exact ((Below.refl _ _).alloc (Nat.le_refl _) _).alloc (by simp) _
                  · have hno : uOk s.data.toList = false := by rw [hok]; simp only [Bool.and_eq_false_iff, decide_eq_false_iff_not]; omega
                    obtain ⟨N1, N2, N3, N4⟩ := u_no hno
                    clear hno hok
                    have f1 : ¬ (9223372036854775807 : Int) < X := by omega
                    have f2 : ¬ (2147483647 : Int) < Y := by omega
                    have f3 : ¬ (2147483647 : Int) < Z := by omega
                    have f4 : (1099511627776 : Int) < 9223372036854775807 - X := by omega
                    go_wp2
                    refine bodyPost_ret (v := .tuple #[.agg #[.int .i64 0, .int .i32 0, .int .i32 0], .int .i64 5]) (by simp [results, Try.results38, go_sem]) rfl ⟨by rw [N1.out, N2.out, N3.out, N4.out], ?_⟩
                    exact ((Below.refl _ _).alloc (Nat.le_refl _) _).alloc (by simp) _
                · have hno : uOk s.data.toList = false := by rw [hok]; simp only [Bool.and_eq_false_iff, decide_eq_false_iff_not]; omega
                  obtain ⟨N1, N2, N3, N4⟩ := u_no hno
                  clear hno hok
                  have f1 : ¬ (9223372036854775807 : Int) < X := by omega
                  have f2 : ¬ (2147483647 : Int) < Y := by omega
                  have f3 : (2147483647 : Int) < Z := by omega
                  go_wp2
                  refine bodyPost_ret (v := .tuple #[.agg #[.int .i64 0, .int .i32 0, .int .i32 0], .int .i64 5]) (by simp [results, Try.results38, go_sem]) rfl ⟨by rw [N1.out, N2.out, N3.out, N4.out], ?_⟩
                  exact (Below.refl _ _).alloc (Nat.le_refl _) _
              · have hno : uOk s.data.toList = false := by rw [hok]; simp only [Bool.and_eq_false_iff, decide_eq_false_iff_not]; omega
                obtain ⟨N1, N2, N3, N4⟩ := u_no hno
                clear hno hok
                have f1 : ¬ (9223372036854775807 : Int) < X := by omega
                have f2 : (2147483647 : Int) < Y := by omega
                go_wp2
                refine bodyPost_ret (v := .tuple #[.agg #[.int .i64 0, .int .i32 0, .int .i32 0], .int .i64 5]) (by simp [results, Try.results38, go_sem]) rfl ⟨by rw [N1.out, N2.out, N3.out, N4.out], ?_⟩
                exact (Below.refl _ _).alloc (Nat.le_refl _) _
            · have hno : uOk s.data.toList = false := by rw [hok]; simp only [Bool.and_eq_false_iff, decide_eq_false_iff_not]; omega
              obtain ⟨N1, N2, N3, N4⟩ := u_no hno
              clear hno hok
              have f1 : (9223372036854775807 : Int) < X := by omega
              go_wp2
              refine bodyPost_ret (v := .tuple #[.agg #[.int .i64 0, .int .i32 0, .int .i32 0], .int .i64 5]) (by simp [results, Try.results38, go_sem]) rfl ⟨by rw [N1.out, N2.out, N3.out, N4.out], ?_⟩
              exact (Below.refl _ _).alloc (Nat.le_refl _) _
  · have hno : uOk s.data.toList = false := by unfold uOk; rw [ba_length]; simp [h16]
    obtain ⟨N1, N2, N3, N4⟩ := u_no hno
    have hb : ((s.size : Int) != 16) = true := by simp; omega
    clear hno h16
    go_enter Try.func38, Try.ntmps38
    go_wp2
    refine bodyPost_ret (v := .tuple #[.agg #[.int .i64 0, .int .i32 0, .int .i32 0], .int .i64 5]) (by simp [results, Try.results38, go_sem]) rfl ⟨by rw [N1.out, N2.out, N3.out, N4.out], ?_⟩
    exact (Below.refl _ _).alloc (Nat.le_refl _) _
end Go.Proofs.Ytbcbdaaaglkjhaa
