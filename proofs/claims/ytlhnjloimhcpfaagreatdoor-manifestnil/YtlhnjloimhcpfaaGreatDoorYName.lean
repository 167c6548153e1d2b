/-
  The names of manifests' files below 100: what nameOf answers, and what number a name has.
-/
import Derived.Test.YtlhnjloimhcpfaaGreatDoorShelf5
import Derived.Test.YtlhnjloimhcpfaaGreatDoorYPR
import Derived.Test.YtlhnjloimhcpfaaGreatDoorYA
import Derived.Lib.SmallJoins
namespace Go.Proofs.YtlhnjloimhcpfaaGreatDoor
open Go.RowKit

namespace Mf
/-- The name of a file below 100. -/
def nm (n : Nat) : Bs := [109, 97, 110, 105, 102, 101, 115, 116, 45, 48, 48, 48, 48, Wl.dig (n / 10), Wl.dig n]
theorem nm_length (n : Nat) : (nm n).length = 15 := rfl
theorem nm_fine (n : Nat) : Vf.fine (nm n) = true := by
  have h1 := Wl.dig_toNat n
  have h2 := Wl.dig_toNat (n / 10)
  simp only [Vf.fine, nm, List.all_cons, List.all_nil, h1, h2, Bool.and_eq_true, decide_eq_true_eq]
  refine ⟨⟨⟨?_, ?_, ?_, ?_, ?_, ?_, ?_, ?_, ?_, ?_, ?_, ?_, ?_, ?_, ?_, trivial⟩, by simp⟩, by simp⟩ <;> first | decide | omega
theorem nm_inj {n m : Nat} (hn : n < 100) (hm : m < 100) (h : nm n = nm m) : n = m := by
  have h1 : Wl.dig (n / 10) = Wl.dig (m / 10) ∧ Wl.dig n = Wl.dig m := by simpa [nm] using h
  have a := congrArg UInt8.toNat h1.1
  have b := congrArg UInt8.toNat h1.2
  rw [Wl.dig_toNat, Wl.dig_toNat] at a b
  omega
end Mf

theorem ydigs : ∀ n, n < 100 → Lib.decDigits n = if n < 10 then [Wl.dig n] else [Wl.dig (n / 10), Wl.dig n] := by decide +kernel
theorem yrep5 : Lib.repeatL [48] 5 = [48, 48, 48, 48, 48] := by decide +kernel
theorem yrep4 : Lib.repeatL [48] 4 = [48, 48, 48, 48] := by decide +kernel
theorem ydig_ten : Wl.dig 0 = 48 := by decide
theorem ytrim : ∀ n, n < 100 → Lib.trimPrefix (Mf.nm n) [109, 97, 110, 105, 102, 101, 115, 116, 45] = [48, 48, 48, 48, Wl.dig (n / 10), Wl.dig n] := by decide +kernel
theorem yatoi : ∀ n, n < 100 → Lib.atoi [48, 48, 48, 48, Wl.dig (n / 10), Wl.dig n] = some (n : Int) := by decide +kernel

set_option maxRecDepth 100000 in
set_option maxHeartbeats 1000000 in
theorem nameOf_any (w : World) (n : Nat) (h2 : n < 100) : Calls Tryz.prog 48 #[.int .i64 (n : Int)] w fun e w' => e = .returned (str (Mf.nm n)) ∧ Below w.heap.size w w' := by
  have IT := Tryz.strconv_Itoa_small n h2 w
  have hd := ydigs n h2
  by_cases h : n < 10
  · rw [if_pos h] at hd
    rw [hd] at IT
    have RP : Hid (Calls Tryz.prog 100 #[.string ⟨#[48]⟩, .int .i64 5] w fun e w' => e = .returned (.string ⟨#[48, 48, 48, 48, 48]⟩) ∧ Below w.heap.size w w') := by
      have := Tryz.strings_Repeat ⟨#[48]⟩ 5 w (by decide) (by decide)
      rw [show (⟨#[48]⟩ : ByteArray).data.toList = [48] from rfl, yrep5] at this
      exact this
    have HS : Hid (Mf.nm n = [109, 97, 110, 105, 102, 101, 115, 116, 45, 48, 48, 48, 48, 48, Wl.dig n]) := by
      show _ = _
      unfold Mf.nm
      rw [show n / 10 = 0 by omega, ydig_ten]
    rw [HS.out]
    generalize Wl.dig n = d at IT
    clear hd h
    go_enter Tryz.func48, Tryz.ntmps48
    go_wp2_with (first
      | (go_at_call 99; refine IT.mono ?_; rintro e w1 ⟨rfl, rfl⟩)
      | (go_at_call 100; refine RP.out.mono ?_; rintro e w2 ⟨rfl, b2⟩))
    go_ret
    exact ⟨rfl, b2⟩
  · rw [if_neg h] at hd
    rw [hd] at IT
    have RP : Hid (Calls Tryz.prog 100 #[.string ⟨#[48]⟩, .int .i64 4] w fun e w' => e = .returned (.string ⟨#[48, 48, 48, 48]⟩) ∧ Below w.heap.size w w') := by
      have := Tryz.strings_Repeat ⟨#[48]⟩ 4 w (by decide) (by decide)
      rw [show (⟨#[48]⟩ : ByteArray).data.toList = [48] from rfl, yrep4] at this
      exact this
    have HS : Hid (Mf.nm n = [109, 97, 110, 105, 102, 101, 115, 116, 45, 48, 48, 48, 48, Wl.dig (n / 10), Wl.dig n]) := rfl
    rw [HS.out]
    generalize Wl.dig n = d at IT
    generalize Wl.dig (n / 10) = c at IT
    clear hd h
    go_enter Tryz.func48, Tryz.ntmps48
    go_wp2_with (first
      | (go_at_call 99; refine IT.mono ?_; rintro e w1 ⟨rfl, rfl⟩)
      | (go_at_call 100; refine RP.out.mono ?_; rintro e w2 ⟨rfl, b2⟩))
    go_ret
    exact ⟨rfl, b2⟩
end Go.Proofs.YtlhnjloimhcpfaaGreatDoor
