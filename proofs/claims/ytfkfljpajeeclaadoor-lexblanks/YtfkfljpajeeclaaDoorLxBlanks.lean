/-
  Blanks more, and capital letters, change nothing but places: the law's walk at any text and any number.
-/
import Derived.Test.YtfkfljpajeeclaaDoorLxBl
namespace Go.Proofs.YtfkfljpajeeclaaDoor
open Go.RowKit
attribute [local go_sem ↓] Go.wp_at_zero Go.wp_at_succ

theorem blanks_off (w : World) (s : ByteArray) (x : Int) (hT : Tab2 w) (hs : s.size > 4000) : Calls Tryd.prog 7 #[.string s, .int .i64 x] w fun e w' => e = .returned (.bool true) ∧ Below w.heap.size w w' := by
  have LV := hide (lives_any w hT)
  have hsi : (s.size : Int) > 4000 := by omega
  clear hT
  go_enter Tryd.func7, Tryd.ntmps7
  go_wp2_with (go_at_call 12; refine LV.out.mono ?_; rintro e w1 ⟨rfl, hz⟩)
  go_ret
  exact ⟨rfl, hz⟩
theorem blanks_bad (w : World) (s : ByteArray) (x : Int) (X : Int) (P : Nat) (hT : Tab2 w) (hs : s.size ≤ 4000) (h1 : Lx.lexA s.data.toList 0 = .error (X, P)) : Calls Tryd.prog 7 #[.string s, .int .i64 x] w fun e w' => e = .returned (.bool true) ∧ Below w.heap.size w w' := by
  have LV := hide (fun wx (hb : Below w.heap.size w wx) => lives_any wx (hT.later hb))
  have L1 := hide (fun wx (hb : Below w.heap.size w wx) => lex_bad wx s X P (by omega) (hT.later hb) h1)
  obtain ⟨hX, _⟩ := Lx.lexA_no h1
  have hsi : ¬ (s.size : Int) > 4000 := by omega
  clear hT h1 hs
  go_enter Tryd.func7, Tryd.ntmps7
  go_wp2_with (first
    | (go_at_call 12; refine (LV.out _ (Below.refl _ _)).mono ?_; rintro e w0 ⟨rfl, hz⟩; have B0 := hide hz; clear hz)
    | (go_at_call 8; refine (L1.out _ B0.out).mono ?_; rintro e w1 ⟨rfl, hz⟩; have B1 := hide (B0.out.trans (hz.mono B0.out.size)); clear hz))
  go_ret
  exact ⟨rfl, by first | exact B1.out | exact B1.out.alloc B1.out.size _⟩
theorem lexBlanks_walk (w : World) (s : ByteArray) (x : Int) (hx : -9223372036854775808 ≤ x ∧ x ≤ 9223372036854775807) (hT : Tab2 w) : Calls Tryd.prog 7 #[.string s, .int .i64 x] w fun e w' => e = .returned (.bool true) ∧ Below w.heap.size w w' := by
  by_cases hs : s.size > 4000
  · exact blanks_off w s x hT hs
  · cases h1 : Lx.lexA s.data.toList 0 with
    | error e =>
      obtain ⟨X, P⟩ := e
      exact blanks_bad w s x X P hT (by omega) h1
    | ok q => exact blanks_ok w s x q hT (by omega) hx h1
end Go.Proofs.YtfkfljpajeeclaaDoor
