/-
  The document's own reading of the first value of a tuple's text: it says what the program's own reading does.
-/
import Derived.Test.YtbcbdaaaglkjhaaRefWord
import Derived.Test.YtbcbdaaaglkjhaaRefUnstamp
namespace Go.Proofs.Ytbcbdaaaglkjhaa
open Go.RowKit

/-- What the call answers: a value that the bytes begin with, and how many these are; or that there is none. -/
def FirstOf (S : List UInt8) (w : World) (e : Ending) (w' : World) : Prop := ∃ (k n : Int) (t : ByteArray) (N : Int) (ok : Bool), e = .returned (.tuple #[.agg #[.int .u8 k, .int .i64 n, .string t], .int .i64 N, .bool ok]) ∧
  (ok = true → rv S = (⟨k, n, t⟩, N.toNat) ∧ 0 < N) ∧ (ok = false → (rv S).2 = 0) ∧ Below w.heap.size w w'

theorem FirstOf.yes {S : List UInt8} {w w' : World} {k n : Int} {t : ByteArray} {N : Int} (h : rv S = (⟨k, n, t⟩, N.toNat)) (hN : 0 < N) (hb : Below w.heap.size w w') :
    FirstOf S w (.returned (.tuple #[.agg #[.int .u8 k, .int .i64 n, .string t], .int .i64 N, .bool true])) w' := ⟨k, n, t, N, true, rfl, fun _ => ⟨h, hN⟩, fun e => (by cases e), hb⟩
theorem FirstOf.no {S : List UInt8} {w w' : World} {k n : Int} {t : ByteArray} {N : Int} (h : (rv S).2 = 0) (hb : Below w.heap.size w w') :
    FirstOf S w (.returned (.tuple #[.agg #[.int .u8 k, .int .i64 n, .string t], .int .i64 N, .bool false])) w' := ⟨k, n, t, N, false, rfl, fun e => (by cases e), fun _ => h, hb⟩

set_option maxRecDepth 10000 in
set_option maxHeartbeats 4000000 in
theorem refFirst_any (w : World) (s : ByteArray) (h : 0 < s.size) (hs : s.size ≤ 140737488355327) :
    Calls Try.prog 55 #[.string s] w fun e w' => FirstOf s.data.toList w e w' := by
  have hd := drop_one s h
  have j1 := is1 s[0]
  have j2 := is2 s[0]
  have j3 := is3 s[0]
  have j4 := is4 s[0]
  have hz : (0 : Int) < (s.size : Int) := by omega
  have hz0 : ((s.size : Int) == 0) = false := by rw [beq_eq_false_iff_ne]; omega
  by_cases h1 : s[0] = 1
  · have HV : Hid (rv s.data.toList = (zeroVal, 1)) := by show _ = _; rw [hd, rv_cons, if_pos h1]
    have b1 : ((s[0].toNat : Int) == 1) = true := by rw [j1]; simp [h1]
    clear hd j1 j2 j3 j4 h1
    go_enter Try.func55, Try.ntmps55
    go_wp2
    refine bodyPost_ret (v := .tuple #[.agg #[.int .u8 0, .int .i64 0, .string ByteArray.empty], .int .i64 1, .bool true]) (by simp [results, Try.results55, go_sem]; try rfl) rfl (FirstOf.yes (by rw [HV.out]; rfl) (by decide) ?_)
    exact (Below.refl _ _).alloc (Nat.le_refl _) _
  · have b1 : ((s[0].toNat : Int) == 1) = false := by rw [j1]; simp [h1]
    by_cases h2 : s[0] = 2
    · have b2 : ((s[0].toNat : Int) == 2) = true := by rw [j2]; simp [h2]
      by_cases hl : 1 < s.size
      · have hl2 : ¬ (s.size : Int) < 2 := by omega
        have hl3 : (1 : Int) < (s.size : Int) := by omega
        have hd2 := drop_at s 1 hl
        by_cases h01 : (s[1]).toNat ≤ 1
        · have HV : Hid (rv s.data.toList = (⟨1, (s[1]).toNat, ByteArray.empty⟩, 2)) := by show _ = _; rw [hd, rv_cons, if_neg h1, if_pos h2, hd2]; simp only [if_pos h01]
          have b3 : ¬ (1 < (s[1].toNat : Int)) := by omega
          clear hd j1 j2 j3 j4 h1 h2 hd2
          go_enter Try.func55, Try.ntmps55
          go_wp2
          refine bodyPost_ret (v := .tuple #[.agg #[.int .u8 1, .int .i64 (s[1].toNat : Int), .string ByteArray.empty], .int .i64 2, .bool true]) (by simp [results, Try.results55, go_sem]; try rfl) rfl (FirstOf.yes (by rw [HV.out]; rfl) (by decide) ?_)
          exact (Below.refl _ _).alloc (Nat.le_refl _) _
        · have HV : Hid (rv s.data.toList = (zeroVal, 0)) := by show _ = _; rw [hd, rv_cons, if_neg h1, if_pos h2, hd2]; simp only [if_neg h01]
          have b3 : (1 < (s[1].toNat : Int)) := by omega
          clear hd j1 j2 j3 j4 h1 h2 hd2
          go_enter Try.func55, Try.ntmps55
          go_wp2
          refine bodyPost_ret (v := .tuple #[.agg #[.int .u8 0, .int .i64 0, .string ByteArray.empty], .int .i64 0, .bool false]) (by simp [results, Try.results55, go_sem]; try rfl) rfl (FirstOf.no (by rw [HV.out]) ?_)
          exact (Below.refl _ _).alloc (Nat.le_refl _) _
      · have hl2 : (s.size : Int) < 2 := by omega
        have HV : Hid (rv s.data.toList = (zeroVal, 0)) := by show _ = _; rw [hd, rv_cons, if_neg h1, if_pos h2, List.drop_eq_nil_of_le (by rw [ba_length]; omega)]
        clear hd j1 j2 j3 j4 h1 h2
        go_enter Try.func55, Try.ntmps55
        go_wp2
        refine bodyPost_ret (v := .tuple #[.agg #[.int .u8 0, .int .i64 0, .string ByteArray.empty], .int .i64 0, .bool false]) (by simp [results, Try.results55, go_sem]; try rfl) rfl (FirstOf.no (by rw [HV.out]) ?_)
        exact (Below.refl _ _).alloc (Nat.le_refl _) _
    · have b2 : ((s[0].toNat : Int) == 2) = false := by rw [j2]; simp [h2]
      by_cases h3 : s[0] = 3
      · have b3 : ((s[0].toNat : Int) == 3) = true := by rw [j3]; simp [h3]
        by_cases hl : 8 < s.size
        · have hl2 : ¬ (s.size : Int) < 9 := by omega
          have hrl : 8 ≤ (s.data.toList.drop 1).length := by rw [List.length_drop, ba_length]; omega
          obtain ⟨Z, hZ⟩ : ∃ Z, Z = hnum ((s.data.toList.drop 1).take 8) := ⟨_, rfl⟩
          have HZ : Hid (Z = hnum ((s.data.toList.drop 1).take 8)) := hZ
          have hZ64 : Z < 18446744073709551616 := by
            have := hnum_lt ((s.data.toList.drop 1).take 8)
            rw [← hZ, List.length_take, Nat.min_eq_left hrl] at this
            have p : (256 : Nat) ^ 8 = 18446744073709551616 := by decide
            omega
          have HV : Hid (rv s.data.toList = (⟨2, (Z : Int) - 9223372036854775808, ByteArray.empty⟩, 9)) := by show _ = _; rw [hd, rv_cons, if_neg h1, if_neg h2, if_pos h3, if_pos hrl, ← hZ]
          have hun : IntKind.i64.wrap (IntKind.u64.wrap ((Z : Int) - 9223372036854775808)) = (Z : Int) - 9223372036854775808 := by
            rw [IntKind.wrap_u64]; simp only [IntKind.wrap, IntKind.bits, IntKind.signed]; simp; omega
          clear hd j1 j2 j3 j4 h1 h2 h3 hrl hZ hZ64
          go_enter Try.func55, Try.ntmps55
          go_wp2
          go_loop [5, 6] (fun x i => ∃ (j X : Nat), j ≤ 8 ∧ i = .int .i64 (1 + j : Nat) ∧ x = .int .u64 X ∧ X = hnum ((s.data.toList.drop 1).take j)) (fun _ i => 9 - (intOf i).toNat)
          case atStart => exact ⟨0, 0, Nat.zero_le _, rfl, rfl, rfl⟩
          case round =>
            obtain ⟨j, X, hj, rfl, rfl, hX⟩ := hrel
            have HX : Hid (X = hnum ((s.data.toList.drop 1).take j)) := hX
            clear hX
            by_cases hlt : j < 8
            · have hjs : 1 + j < s.size := by omega
              have HN : Hid (hnum ((s.data.toList.drop 1).take (j + 1)) = hnum ((s.data.toList.drop 1).take j) * 256 + (s[1 + j]).toNat) := mid_take s 1 j _ rfl hjs
              have hY := add_byte X (s[1 + j]).toNat (by rw [HX.out]; exact mid_lt _ j (by omega)) (UInt8.toNat_lt _)
              go_wp2
              go_round
              case rel => exact ⟨j + 1, X * 256 + (s[1 + j]).toNat, by omega, by go_num, by first | go_num | rw [hY], by rw [HN.out, HX.out]⟩
              case measure => simp [intOf]; omega
            · have e8 : j = 8 := by omega
              subst e8
              have e : X = Z := by rw [HX.out, HZ.out]
              subst e
              go_wp2
              refine bodyPost_ret (v := .tuple #[.agg #[.int .u8 2, .int .i64 ((X : Int) - 9223372036854775808), .string ByteArray.empty], .int .i64 9, .bool true]) (by simp [results, Try.results55, go_sem]; try rfl) rfl (FirstOf.yes (by rw [HV.out]; rfl) (by decide) ?_)
              exact (Below.refl _ _).alloc (Nat.le_refl _) _
        · have hl2 : (s.size : Int) < 9 := by omega
          have hrl : ¬ 8 ≤ (s.data.toList.drop 1).length := by rw [List.length_drop, ba_length]; omega
          have HV : Hid (rv s.data.toList = (zeroVal, 0)) := by show _ = _; rw [hd, rv_cons, if_neg h1, if_neg h2, if_pos h3, if_neg hrl]
          clear hd j1 j2 j3 j4 h1 h2 h3 hrl
          go_enter Try.func55, Try.ntmps55
          go_wp2
          refine bodyPost_ret (v := .tuple #[.agg #[.int .u8 0, .int .i64 0, .string ByteArray.empty], .int .i64 0, .bool false]) (by simp [results, Try.results55, go_sem]; try rfl) rfl (FirstOf.no (by rw [HV.out]) ?_)
          exact (Below.refl _ _).alloc (Nat.le_refl _) _
      · have b3 : ((s[0].toNat : Int) == 3) = false := by rw [j3]; simp [h3]
        by_cases h4 : s[0] = 4
        · have b4 : ((s[0].toNat : Int) == 4) = true := by rw [j4]; simp [h4]
          have hws := word_says (s.data.toList.drop 1)
          rw [← h4, ← hd] at hws
          have WS : Hid ((wB (s.data.toList.drop 1) = true → rv s.data.toList = (⟨wK (s.data.toList.drop 1), 0, wT (s.data.toList.drop 1)⟩, (wN (s.data.toList.drop 1)).toNat) ∧ 0 < wN (s.data.toList.drop 1)) ∧ (wB (s.data.toList.drop 1) = false → (rv s.data.toList).2 = 0)) := hws
          obtain ⟨K, hK⟩ : ∃ K, K = wK (s.data.toList.drop 1) := ⟨_, rfl⟩
          obtain ⟨T, hT⟩ : ∃ T, T = wT (s.data.toList.drop 1) := ⟨_, rfl⟩
          obtain ⟨N, hN⟩ : ∃ N, N = wN (s.data.toList.drop 1) := ⟨_, rfl⟩
          obtain ⟨B, hB⟩ : ∃ B, B = wB (s.data.toList.drop 1) := ⟨_, rfl⟩
          have HW : Hid (∀ wx : World, Calls Try.prog 66 #[.string s] wx fun e w' => e = .returned (.tuple #[.agg #[.int .u8 K, .int .i64 0, .string T], .int .i64 N, .bool B]) ∧ Below wx.heap.size wx w') := fun wx => by rw [hK, hT, hN, hB]; exact word_any wx s h hs
          rw [← hK, ← hT, ← hN, ← hB] at WS
          clear hd j1 j2 j3 j4 h1 h2 h3 h4 hws hK hT hN hB
          go_enter Try.func55, Try.ntmps55
          go_wp2_with (go_at_call 66; refine (HW.out _).mono ?_; rintro e w1 ⟨rfl, hb1⟩; have Bx : Below w.heap.size w w1 := ((Below.refl _ _).alloc (Nat.le_refl _) _).trans (hb1.mono (by simp)); obtain ⟨q0, q1, q2, f0, f1, f2, q4⟩ := three_slot hb1)
          refine bodyPost_ret (v := .tuple #[.agg #[.int .u8 K, .int .i64 0, .string T], .int .i64 N, .bool B]) (by simp [results, Try.results55, go_sem, q0, q1, q2]) rfl (show FirstOf _ _ _ _ from ⟨_, _, _, _, _, rfl, WS.out.1, WS.out.2, ?_⟩)
          exact ((Bx.setCell (Nat.le_refl _) _).setCell (Nat.le_refl _) _).setCell (Nat.le_refl _) _
        · have b4 : ((s[0].toNat : Int) == 4) = false := by rw [j4]; simp [h4]
          have HV : Hid (rv s.data.toList = (zeroVal, 0)) := by show _ = _; rw [hd, rv_cons, if_neg h1, if_neg h2, if_neg h3, if_neg h4]
          clear hd j1 j2 j3 j4 h1 h2 h3 h4
          go_enter Try.func55, Try.ntmps55
          go_wp2
          refine bodyPost_ret (v := .tuple #[.agg #[.int .u8 0, .int .i64 0, .string ByteArray.empty], .int .i64 0, .bool false]) (by simp [results, Try.results55, go_sem]; try rfl) rfl (FirstOf.no (by rw [HV.out]) ?_)
          exact (Below.refl _ _).alloc (Nat.le_refl _) _
end Go.Proofs.Ytbcbdaaaglkjhaa
