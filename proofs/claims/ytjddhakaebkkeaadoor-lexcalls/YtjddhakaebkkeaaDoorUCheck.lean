/-
  The check of one value: it answers 0 for a value that may be, 2 for every other one, and leaves behind only a copy of its argument in new memory.
-/
import Derived.Test.YtjddhakaebkkeaaDoorUBase
namespace Go.Proofs.YtjddhakaebkkeaaDoor
open Go.RowKit

set_option maxHeartbeats 800000 in
theorem check_any (w : World) (k n : Int) (t : ByteArray) (ht : t.size ≤ maxLen) :
    Calls Tryd.prog 56 #[.agg #[.int .u8 k, .int .i64 n, .string t]] w fun e w' => e = .returned (.int .i64 (chk k n t)) ∧ w' = w.alloc (.cells #[.int .u8 k, .int .i64 n, .string t] 64) := by
  unfold maxLen at ht
  have hC : ∀ b, mayV k n t = b → Hid (chk k n t = if b then 0 else 2) := fun b h => by show _ = _; unfold chk; rw [h]
  by_cases h0 : k = 0
  · subst h0
    by_cases hn : n = 0
    · subst hn
      cases he : t.toList.isEmpty
      · have HC := hC false (by simp [mayV, he])
        clear hC
        go_enter Tryd.func56, Tryd.ntmps56
        go_wp2
        go_ret
        exact ⟨by rw [HC.out]; rfl, rfl⟩
      · have HC := hC true (by simp [mayV, he])
        clear hC
        go_enter Tryd.func56, Tryd.ntmps56
        go_wp2
        go_ret
        exact ⟨by rw [HC.out]; rfl, rfl⟩
    · have hb : (n == 0) = false := by simpa using hn
      have HC := hC false (by simp [mayV, hb])
      clear hC
      go_enter Tryd.func56, Tryd.ntmps56
      go_wp2
      go_ret
      exact ⟨by rw [HC.out]; rfl, rfl⟩
  by_cases h1 : k = 1
  · subst h1
    by_cases hn : n = 0
    · subst hn
      cases he : t.toList.isEmpty
      · have HC := hC false (by simp [mayV, he])
        clear hC
        go_enter Tryd.func56, Tryd.ntmps56
        go_wp2
        go_ret
        exact ⟨by rw [HC.out]; rfl, rfl⟩
      · have HC := hC true (by simp [mayV, he])
        clear hC
        go_enter Tryd.func56, Tryd.ntmps56
        go_wp2
        go_ret
        exact ⟨by rw [HC.out]; rfl, rfl⟩
    · have hb : (n == 0) = false := by simpa using hn
      by_cases hn1 : n = 1
      · subst hn1
        cases he : t.toList.isEmpty
        · have HC := hC false (by simp [mayV, he])
          clear hC
          go_enter Tryd.func56, Tryd.ntmps56
          go_wp2
          go_ret
          exact ⟨by rw [HC.out]; rfl, rfl⟩
        · have HC := hC true (by simp [mayV, he])
          clear hC
          go_enter Tryd.func56, Tryd.ntmps56
          go_wp2
          go_ret
          exact ⟨by rw [HC.out]; rfl, rfl⟩
      · have hb1 : (n == 1) = false := by simpa using hn1
        have HC := hC false (by simp [mayV, hb, hb1])
        clear hC
        go_enter Tryd.func56, Tryd.ntmps56
        go_wp2
        go_ret
        exact ⟨by rw [HC.out]; rfl, rfl⟩
  by_cases h2 : k = 2
  · subst h2
    cases he : t.toList.isEmpty
    · have HC := hC false (by simp [mayV, he])
      clear hC
      go_enter Tryd.func56, Tryd.ntmps56
      go_wp2
      go_ret
      exact ⟨by rw [HC.out]; rfl, rfl⟩
    · have HC := hC true (by simp [mayV, he])
      clear hC
      go_enter Tryd.func56, Tryd.ntmps56
      go_wp2
      go_ret
      exact ⟨by rw [HC.out]; rfl, rfl⟩
  by_cases h3 : k = 3
  · subst h3
    by_cases hn : n = 0
    · subst hn
      by_cases hs : t.size ≤ 64
      · have hd : ((t.size : Int) ≤ 64) := by omega
        have HC := hC true (by simp [mayV, hs])
        clear hC
        go_enter Tryd.func56, Tryd.ntmps56
        go_wp2
        go_ret
        exact ⟨by rw [HC.out]; rfl, rfl⟩
      · have hd : ¬ ((t.size : Int) ≤ 64) := by omega
        have HC := hC false (by simp [mayV, hs])
        clear hC
        go_enter Tryd.func56, Tryd.ntmps56
        go_wp2
        go_ret
        exact ⟨by rw [HC.out]; rfl, rfl⟩
    · have hb : (n == 0) = false := by simpa using hn
      have HC := hC false (by simp [mayV, hb])
      clear hC
      go_enter Tryd.func56, Tryd.ntmps56
      go_wp2
      go_ret
      exact ⟨by rw [HC.out]; rfl, rfl⟩
  have b0 : (k == 0) = false := by simpa using h0
  have b1 : (k == 1) = false := by simpa using h1
  have b2 : (k == 2) = false := by simpa using h2
  have b3 : (k == 3) = false := by simpa using h3
  have HC := hC false (by simp [mayV, b0, b1, b2, b3])
  clear hC
  go_enter Tryd.func56, Tryd.ntmps56
  go_wp2
  go_ret
  exact ⟨by rw [HC.out]; rfl, rfl⟩
end Go.Proofs.YtjddhakaebkkeaaDoor
