/-
  The names of segments below 100: what Name answers, and what number a name has.
-/
import Derived.Test.YtppfkhpofbbnbaaGreatDoorShelf5
import Derived.Test.YtppfkhpofbbnbaaGreatDoorWlP
import Derived.Test.YtppfkhpofbbnbaaGreatDoorVA
import Derived.Lib.SmallJoins
namespace Go.Proofs.YtppfkhpofbbnbaaGreatDoor
open Go.RowKit

theorem digs : ∀ n, n < 100 → Lib.decDigits n = if n < 10 then [Wl.dig n] else [Wl.dig (n / 10), Wl.dig n] := by decide +kernel
theorem rep5 : Lib.repeatL [48] 5 = [48, 48, 48, 48, 48] := by decide +kernel
theorem rep4 : Lib.repeatL [48] 4 = [48, 48, 48, 48] := by decide +kernel
theorem dig_ten : Wl.dig 0 = 48 := by decide
theorem trim_seg : ∀ n, n < 100 → Lib.trimPrefix (Wl.seg n) [119, 97, 108, 45] = [48, 48, 48, 48, Wl.dig (n / 10), Wl.dig n] := by decide +kernel
theorem atoi_seg : ∀ n, n < 100 → Lib.atoi [48, 48, 48, 48, Wl.dig (n / 10), Wl.dig n] = some (n : Int) := by decide +kernel

set_option maxRecDepth 100000 in
set_option maxHeartbeats 1000000 in
theorem name_any (w : World) (n : Nat) (h1 : 1 ≤ n) (h2 : n < 100) : Calls Tryz.prog 10 #[.int .i64 (n : Int)] w fun e w' => e = .returned (.tuple #[str (Wl.seg n), .int .i64 0]) ∧ Below w.heap.size w w' := by
  have IT := Tryz.strconv_Itoa_small n h2 w
  have hd := digs n h2
  have i1 : ¬ (n : Int) < 1 := by omega
  have i2 : ¬ (n : Int) > 999999 := by omega
  by_cases h : n < 10
  · rw [if_pos h] at hd
    rw [hd] at IT
    have RP : Hid (Calls Tryz.prog 41 #[.string ⟨#[48]⟩, .int .i64 5] w fun e w' => e = .returned (.string ⟨#[48, 48, 48, 48, 48]⟩) ∧ Below w.heap.size w w') := by
      have := Tryz.strings_Repeat ⟨#[48]⟩ 5 w (by decide) (by decide)
      rw [show (⟨#[48]⟩ : ByteArray).data.toList = [48] from rfl, rep5] at this
      exact this
    have HS : Hid (Wl.seg n = [119, 97, 108, 45, 48, 48, 48, 48, 48, Wl.dig n]) := by
      show _ = _
      unfold Wl.seg
      rw [show n / 10 = 0 by omega, dig_ten]
    rw [HS.out]
    generalize Wl.dig n = d at IT
    clear hd h
    go_enter Tryz.func10, Tryz.ntmps10
    go_wp2_with (first
      | (go_at_call 40; refine IT.mono ?_; rintro e w1 ⟨rfl, rfl⟩)
      | (go_at_call 41; refine RP.out.mono ?_; rintro e w2 ⟨rfl, b2⟩))
    go_ret2
    exact ⟨rfl, b2⟩
  · rw [if_neg h] at hd
    rw [hd] at IT
    have RP : Hid (Calls Tryz.prog 41 #[.string ⟨#[48]⟩, .int .i64 4] w fun e w' => e = .returned (.string ⟨#[48, 48, 48, 48]⟩) ∧ Below w.heap.size w w') := by
      have := Tryz.strings_Repeat ⟨#[48]⟩ 4 w (by decide) (by decide)
      rw [show (⟨#[48]⟩ : ByteArray).data.toList = [48] from rfl, rep4] at this
      exact this
    have HS : Hid (Wl.seg n = [119, 97, 108, 45, 48, 48, 48, 48, Wl.dig (n / 10), Wl.dig n]) := rfl
    rw [HS.out]
    generalize Wl.dig n = d at IT
    generalize Wl.dig (n / 10) = c at IT
    clear hd h
    go_enter Tryz.func10, Tryz.ntmps10
    go_wp2_with (first
      | (go_at_call 40; refine IT.mono ?_; rintro e w1 ⟨rfl, rfl⟩)
      | (go_at_call 41; refine RP.out.mono ?_; rintro e w2 ⟨rfl, b2⟩))
    go_ret2
    exact ⟨rfl, b2⟩

set_option maxRecDepth 100000 in
set_option maxHeartbeats 1000000 in
theorem numberOf_any (w : World) (n : Nat) (h1 : 1 ≤ n) (h2 : n < 100) : Calls Tryz.prog 97 #[str (Wl.seg n)] w fun e w' => e = .returned (.int .i64 (n : Int)) ∧ Below w.heap.size w w' := by
  have TP : Hid (Calls Tryz.prog 116 #[str (Wl.seg n), .string ⟨#[119, 97, 108, 45]⟩] w fun e w' => e = .returned (str [48, 48, 48, 48, Wl.dig (n / 10), Wl.dig n]) ∧ w' = w) := by
    have := Tryz.strings_TrimPrefix ⟨(Wl.seg n).toArray⟩ ⟨#[119, 97, 108, 45]⟩ w
    rw [show (⟨(Wl.seg n).toArray⟩ : ByteArray).data.toList = Wl.seg n from rfl, show (⟨#[119, 97, 108, 45]⟩ : ByteArray).data.toList = [119, 97, 108, 45] from rfl, trim_seg n h2] at this
    exact this
  have AT : Hid (Calls Tryz.prog 115 #[str [48, 48, 48, 48, Wl.dig (n / 10), Wl.dig n]] w fun e w' => e = .returned (.tuple #[.int .i64 (n : Int), .nilIface]) ∧ Below w.heap.size w w') := by
    refine (Tryz.strconv_Atoi ⟨[48, 48, 48, 48, Wl.dig (n / 10), Wl.dig n].toArray⟩ n (by show 6 ≤ 18; decide) (atoi_seg n h2) w).mono ?_
    rintro e w' ⟨rfl, t, rfl⟩
    exact ⟨rfl, Joins.below_bytesWorld _ _ _ _ (Nat.le_refl _)⟩
  have NM : Hid (∀ wx, Calls Tryz.prog 10 #[.int .i64 (n : Int)] wx fun e w' => e = .returned (.tuple #[str (Wl.seg n), .int .i64 0]) ∧ Below wx.heap.size wx w') := fun wx => name_any wx n h1 h2
  have be : (!Wl.seg n == Wl.seg n) = false := by simp
  generalize hs : Wl.seg n = s at TP NM be
  generalize [48, 48, 48, 48, Wl.dig (n / 10), Wl.dig n] = q at TP AT
  clear hs
  go_enter Tryz.func97, Tryz.ntmps97
  go_wp2_with (first
    | (go_at_call 116; refine TP.out.mono ?_; rintro e w1 ⟨rfl, rfl⟩)
    | (go_at_call 115; refine AT.out.mono ?_; rintro e w2 ⟨rfl, b2⟩)
    | (go_at_call 10; refine (NM.out _).mono ?_; rintro e w3 ⟨rfl, b3⟩))
  go_ret
  exact ⟨rfl, b2.trans (b3.mono b2.size)⟩
end Go.Proofs.YtppfkhpofbbnbaaGreatDoor
