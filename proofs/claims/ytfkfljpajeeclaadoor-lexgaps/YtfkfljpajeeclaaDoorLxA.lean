/-
  Package lexer: what a rune is; how many bytes belong.
-/
import Derived.Test.YtfkfljpajeeclaaDoorUBase
import Derived.Test.YtfkfljpajeeclaaDoorLxW
import Derived.Lib.OthersKept
namespace Go.Proofs.YtfkfljpajeeclaaDoor
open Go.RowKit
attribute [local go_sem ↓] Go.wp_at_zero Go.wp_at_succ

theorem isSmall_any (w : World) (r : Int) : Calls Tryd.prog 60 #[.int .i32 r] w fun e w' => e = .returned (.bool (Lx.smR r)) ∧ w' = w := by
  by_cases h1 : 97 ≤ r <;> by_cases h2 : r ≤ 122 <;> by_cases h3 : r = 95
  all_goals
    go_enter Tryd.func60, Tryd.ntmps60
    go_wp2
    go_ret
    exact ⟨by simp [Lx.smR, *], rfl⟩
theorem isCapital_any (w : World) (r : Int) : Calls Tryd.prog 61 #[.int .i32 r] w fun e w' => e = .returned (.bool (Lx.capR r)) ∧ w' = w := by
  by_cases h1 : 65 ≤ r <;> by_cases h2 : r ≤ 90
  all_goals
    go_enter Tryd.func61, Tryd.ntmps61
    go_wp2
    go_ret
    exact ⟨by simp [Lx.capR, *], rfl⟩
theorem isDigit_any (w : World) (r : Int) : Calls Tryd.prog 36 #[.int .i32 r] w fun e w' => e = .returned (.bool (Lx.dgR r)) ∧ w' = w := by
  by_cases h1 : 48 ≤ r <;> by_cases h2 : r ≤ 57
  all_goals
    go_enter Tryd.func36, Tryd.ntmps36
    go_wp2
    go_ret
    exact ⟨by simp [Lx.dgR, *], rfl⟩
theorem isBlank_any (w : World) (r : Int) : Calls Tryd.prog 20 #[.int .i32 r] w fun e w' => e = .returned (.bool (Lx.blR r)) ∧ w' = w := by
  by_cases h1 : r = 9 <;> by_cases h2 : r = 10 <;> by_cases h3 : r = 13 <;> by_cases h4 : r = 32
  all_goals
    go_enter Tryd.func20, Tryd.ntmps20
    go_wp2
    go_ret
    exact ⟨by simp [Lx.blR, *], rfl⟩
theorem isLetter_any (w : World) (r : Int) : Calls Tryd.prog 34 #[.int .i32 r] w fun e w' => e = .returned (.bool (Lx.ltR r)) ∧ w' = w := by
  cases h1 : Lx.smR r <;> cases h2 : Lx.capR r
  all_goals
    have S := hide (fun wx => isSmall_any wx r)
    have C := hide (fun wx => isCapital_any wx r)
    have HL : Hid (Lx.ltR r = (Lx.smR r || Lx.capR r)) := rfl
    rw [h1, h2] at HL
    rw [h1] at S
    rw [h2] at C
    clear h1 h2
    go_enter Tryd.func34, Tryd.ntmps34
    go_wp2_with (first
      | (go_at_call 60; refine (S.out _).mono ?_; rintro e w' ⟨rfl, rfl⟩)
      | (go_at_call 61; refine (C.out _).mono ?_; rintro e w' ⟨rfl, rfl⟩))
    go_ret
    exact ⟨by rw [HL.out]; rfl, rfl⟩
theorem isInWord_any (w : World) (r : Int) : Calls Tryd.prog 63 #[.int .i32 r] w fun e w' => e = .returned (.bool (Lx.inwR r)) ∧ w' = w := by
  cases h1 : Lx.ltR r <;> cases h2 : Lx.dgR r
  all_goals
    have S := hide (fun wx => isLetter_any wx r)
    have C := hide (fun wx => isDigit_any wx r)
    have HL : Hid (Lx.inwR r = (Lx.ltR r || Lx.dgR r)) := rfl
    rw [h1, h2] at HL
    rw [h1] at S
    rw [h2] at C
    clear h1 h2
    go_enter Tryd.func63, Tryd.ntmps63
    go_wp2_with (first
      | (go_at_call 34; refine (S.out _).mono ?_; rintro e w' ⟨rfl, rfl⟩)
      | (go_at_call 36; refine (C.out _).mono ?_; rintro e w' ⟨rfl, rfl⟩))
    go_ret
    exact ⟨by rw [HL.out]; rfl, rfl⟩
end Go.Proofs.YtfkfljpajeeclaaDoor
