/-
  Tokens lie one behind the other, and nothing lies between them but blanks: the law's walk at any text.
-/
import Derived.Test.YtfkfljpajeeclaaDoorLxGp
namespace Go.Proofs.YtfkfljpajeeclaaDoor
open Go.RowKit
attribute [local go_sem ↓] Go.wp_at_zero Go.wp_at_succ

theorem gaps_off (w : World) (s : ByteArray) (hT : Tab2 w) (hs : s.size > 4000) : Calls Tryd.prog 6 #[.string s] w fun e w' => e = .returned (.bool true) ∧ Below w.heap.size w w' := by
  have LV := hide (lives_any w hT)
  have hsi : (s.size : Int) > 4000 := by omega
  clear hT
  go_enter Tryd.func6, Tryd.ntmps6
  go_wp2_with (go_at_call 12; refine LV.out.mono ?_; rintro e w1 ⟨rfl, hz⟩)
  go_ret
  exact ⟨rfl, hz⟩
theorem lexGaps_walk (w : World) (s : ByteArray) (hT : Tab2 w) : Calls Tryd.prog 6 #[.string s] w fun e w' => e = .returned (.bool true) ∧ Below w.heap.size w w' := by
  by_cases hs : s.size > 4000
  · exact gaps_off w s hT hs
  · cases h1 : Lx.lexA s.data.toList 0 with
    | error e =>
      obtain ⟨X, P⟩ := e
      exact gaps_bad w s X P hT (by omega) h1
    | ok q => exact gaps_ok w s q hT (by omega) h1
end Go.Proofs.YtfkfljpajeeclaaDoor
