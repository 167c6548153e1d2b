/-
  Package lexer: whether a text is a sign; the reserved words.
-/
import Derived.Test.YtjddhakaebkkeaaDoorXB
namespace Go.Proofs.YtjddhakaebkkeaaDoor
open Go.RowKit
attribute [local go_sem ↓] Go.wp_at_zero Go.wp_at_succ

theorem b_both {b : Bool} (h1 : b = true) (h2 : b = false) : False := by rw [h1] at h2; cases h2
theorem elem_no {l : List UInt8} {x : List UInt8} {r : List (List UInt8)} (h : (l == x) = false) : (x :: r).contains l = r.contains l := by
  rw [List.contains_cons, h, Bool.false_or]
theorem elem_nil (l : List UInt8) : ([] : List (List UInt8)).contains l = false := rfl

set_option maxHeartbeats 3200000 in
theorem isSign_any (w : World) (s : ByteArray) : Calls Tryd.prog 39 #[.string s] w fun e w' => e = .returned (.bool (Lx.isS s.data.toList)) ∧ w' = w := by
  obtain ⟨N, hN⟩ : ∃ N, N = Lx.isS s.data.toList := ⟨_, rfl⟩
  rw [← hN]
  have HN : Hid (N = Lx.signs.contains s.toList) := by rw [ByteArray.toList_eq]; exact hN
  clear hN
  go_enter Tryd.func39, Tryd.ntmps39
  go_wp2
  all_goals go_ret
  all_goals refine ⟨?_, rfl⟩
  all_goals first
    | (rename_i a b; exact (b_both a b).elim)
    | (rename_i a b; rw [HN.out, eq_of_beq b]; rfl)
    | (rw [HN.out, Lx.signs]; simp only [elem_no, elem_nil, *]; rfl)

/-- The reserved words. -/
def resL : List (List UInt8) := [[97,110,100], [97,115], [97,115,99], [98,101,103,105,110], [98,111,111,108], [98,121], [99,111,109,109,105,116], [99,111,117,110,116], [99,114,101,97,116,101], [100,101,108,101,116,101], [100,101,115,99], [102,97,108,115,101], [102,114,111,109], [103,114,111,117,112], [105,110,100,101,120], [105,110,115,101,114,116], [105,110,116], [105,110,116,111], [105,115], [106,111,105,110], [107,101,121], [108,105,109,105,116], [109,97,120], [109,105,110], [110,111,116], [110,117,108,108], [111,110], [111,114], [111,114,100,101,114], [112,114,105,109,97,114,121], [114,111,108,108,98,97,99,107], [115,97,118,101,112,111,105,110,116], [115,101,108,101,99,116], [115,101,116], [115,117,109], [116,97,98,108,101], [116,101,120,116], [116,111], [116,114,117,101], [117,110,105,113,117,101], [117,112,100,97,116,101], [118,97,108,117,101,115], [119,104,101,114,101]]

set_option maxRecDepth 10000 in
set_option maxHeartbeats 16000000 in
theorem reserved_any (w : World) (s : ByteArray) : Calls Tryd.prog 10 #[.string s] w fun e w' => e = .returned (.bool (resL.contains s.data.toList)) ∧ w' = w := by
  obtain ⟨N, hN⟩ : ∃ N, N = resL.contains s.data.toList := ⟨_, rfl⟩
  rw [← hN]
  have HN : Hid (N = resL.contains s.toList) := by rw [ByteArray.toList_eq]; exact hN
  clear hN
  go_enter Tryd.func10, Tryd.ntmps10
  go_wp2
  all_goals go_ret
  all_goals refine ⟨?_, rfl⟩
  all_goals first
    | (rename_i a b; exact (b_both a b).elim)
    | (rename_i a b; rw [HN.out, eq_of_beq b]; rfl)
    | (rw [HN.out, resL]; simp only [elem_no, elem_nil, *]; rfl)
end Go.Proofs.YtjddhakaebkkeaaDoor
