/-
  The check of one value: it answers 0 for a value that may be, 2 for every other one, and leaves behind only a copy of its argument in new memory. .. and what follows from it.
-/
import Derived.Test.YtedamaccflhmfaaGreatDoorUBase
import Derived.Test.YtedamaccflhmfaaGreatDoorXUa
namespace Go.Proofs.YtedamaccflhmfaaGreatDoor
open Go.RowKit

set_option maxHeartbeats 800000 in
theorem check_any (w : World) (k n : Int) (t : ByteArray) (ht : t.size ≤ maxLen) :
    Calls Tryz.prog 160 #[.agg #[.int .u8 k, .int .i64 n, .string t]] w fun e w' => e = .returned (.int .i64 (chk k n t)) ∧ w' = w.alloc (.cells #[.int .u8 k, .int .i64 n, .string t] 31) := by
  unfold maxLen at ht
  have hC : ∀ b, mayV k n t = b → Hid (chk k n t = if b then 0 else 2) := fun b h => by show _ = _; unfold chk; rw [h]
  by_cases h0 : k = 0
  · subst h0
    by_cases hn : n = 0
    · subst hn
      cases he : t.toList.isEmpty
      · have HC := hC false (by simp [mayV, he])
        clear hC
        go_enter Tryz.func160, Tryz.ntmps160
        go_wp2
        go_ret
        exact ⟨by rw [HC.out]; rfl, rfl⟩
      · have HC := hC true (by simp [mayV, he])
        clear hC
        go_enter Tryz.func160, Tryz.ntmps160
        go_wp2
        go_ret
        exact ⟨by rw [HC.out]; rfl, rfl⟩
    · have hb : (n == 0) = false := by simpa using hn
      have HC := hC false (by simp [mayV, hb])
      clear hC
      go_enter Tryz.func160, Tryz.ntmps160
      go_wp2
      go_ret
      exact ⟨by rw [HC.out]; rfl, rfl⟩
  by_cases h1 : k = 1
  · subst h1
    by_cases hn : n = 0
    · subst hn
      cases he : t.toList.isEmpty
      · have HC := hC false (by simp [mayV, he])
        clear hC
        go_enter Tryz.func160, Tryz.ntmps160
        go_wp2
        go_ret
        exact ⟨by rw [HC.out]; rfl, rfl⟩
      · have HC := hC true (by simp [mayV, he])
        clear hC
        go_enter Tryz.func160, Tryz.ntmps160
        go_wp2
        go_ret
        exact ⟨by rw [HC.out]; rfl, rfl⟩
    · have hb : (n == 0) = false := by simpa using hn
      by_cases hn1 : n = 1
      · subst hn1
        cases he : t.toList.isEmpty
        · have HC := hC false (by simp [mayV, he])
          clear hC
          go_enter Tryz.func160, Tryz.ntmps160
          go_wp2
          go_ret
          exact ⟨by rw [HC.out]; rfl, rfl⟩
        · have HC := hC true (by simp [mayV, he])
          clear hC
          go_enter Tryz.func160, Tryz.ntmps160
          go_wp2
          go_ret
          exact ⟨by rw [HC.out]; rfl, rfl⟩
      · have hb1 : (n == 1) = false := by simpa using hn1
        have HC := hC false (by simp [mayV, hb, hb1])
        clear hC
        go_enter Tryz.func160, Tryz.ntmps160
        go_wp2
        go_ret
        exact ⟨by rw [HC.out]; rfl, rfl⟩
  by_cases h2 : k = 2
  · subst h2
    cases he : t.toList.isEmpty
    · have HC := hC false (by simp [mayV, he])
      clear hC
      go_enter Tryz.func160, Tryz.ntmps160
      go_wp2
      go_ret
      exact ⟨by rw [HC.out]; rfl, rfl⟩
    · have HC := hC true (by simp [mayV, he])
      clear hC
      go_enter Tryz.func160, Tryz.ntmps160
      go_wp2
      go_ret
      exact ⟨by rw [HC.out]; rfl, rfl⟩
  by_cases h3 : k = 3
  · subst h3
    by_cases hn : n = 0
    · subst hn
      by_cases hs : t.size ≤ 64
      · have hd : ((t.size : Int) ≤ 64) := by omega
        have HC := hC true (by simp [mayV, hs])
        clear hC
        go_enter Tryz.func160, Tryz.ntmps160
        go_wp2
        go_ret
        exact ⟨by rw [HC.out]; rfl, rfl⟩
      · have hd : ¬ ((t.size : Int) ≤ 64) := by omega
        have HC := hC false (by simp [mayV, hs])
        clear hC
        go_enter Tryz.func160, Tryz.ntmps160
        go_wp2
        go_ret
        exact ⟨by rw [HC.out]; rfl, rfl⟩
    · have hb : (n == 0) = false := by simpa using hn
      have HC := hC false (by simp [mayV, hb])
      clear hC
      go_enter Tryz.func160, Tryz.ntmps160
      go_wp2
      go_ret
      exact ⟨by rw [HC.out]; rfl, rfl⟩
  have b0 : (k == 0) = false := by simpa using h0
  have b1 : (k == 1) = false := by simpa using h1
  have b2 : (k == 2) = false := by simpa using h2
  have b3 : (k == 3) = false := by simpa using h3
  have HC := hC false (by simp [mayV, b0, b1, b2, b3])
  clear hC
  go_enter Tryz.func160, Tryz.ntmps160
  go_wp2
  go_ret
  exact ⟨by rw [HC.out]; rfl, rfl⟩
end Go.Proofs.YtedamaccflhmfaaGreatDoor
namespace Go.Proofs.YtedamaccflhmfaaGreatDoor
open Go.RowKit

theorem below_one {w w' : World} {o : Obj} (h : w' = w.alloc o) : Below w.heap.size w w' := by rw [h]; exact (Below.refl _ _).alloc (Nat.le_refl _) _

theorem truth_any (w : World) (b : Bool) : Calls Tryz.prog 182 #[.bool b] w fun e w' => e = .returned (.agg #[.int .u8 1, .int .i64 (if b then 1 else 0), .string ⟨#[]⟩]) ∧ w' = w.alloc (.cells #[.int .u8 1, .int .i64 (if b then 1 else 0), .string ⟨#[]⟩] 31) := by
  cases b
  all_goals
    go_enter Tryz.func182, Tryz.ntmps182
    go_wp2
  · refine bodyPost_ret (v := .agg #[.int .u8 1, .int .i64 0, .string ⟨#[]⟩]) (by simp [results, Tryz.results182, go_sem]; try rfl) rfl ⟨rfl, ?_⟩
    rfl
  · refine bodyPost_ret (v := .agg #[.int .u8 1, .int .i64 1, .string ⟨#[]⟩]) (by simp [results, Tryz.results182, go_sem]; try rfl) rfl ⟨rfl, ?_⟩
    rfl

set_option maxRecDepth 100000 in
/-- Two values held against each other. -/
theorem eql_val (a b : Int) (c : ByteArray) (a' b' : Int) (c' : ByteArray) (W : World) : (binOp .eql 31 (.agg #[.int .u8 a, .int .i64 b, .string c]) (.agg #[.int .u8 a', .int .i64 b', .string c'])).run Tryz.prog W = .ok (.bool (sameV ⟨a, b, c⟩ ⟨a', b', c'⟩)) W := by
  have hu : Tryz.prog.underlying 31 = some (.struct (Tryz.prog.fieldsOf 31)) := by kernel_rfl
  have hp : Tryz.prog.stoodInHeld 31 = false := by kernel_rfl
  rw [run_eql_struct, run_equalIn_agg _ _ _ _ _ hu hp]
  clear hu hp
  unfold sameV
  cases h1 : (a == a') <;> cases h2 : (b == b') <;> cases h3 : (c.toList == c'.toList)
  all_goals
    go_simp

set_option maxHeartbeats 800000 in
theorem true_any (w : World) (v : Val) : Calls Tryz.prog 161 #[.agg #[.int .u8 v.k, .int .i64 v.n, .string v.t]] w fun e w' => e = .returned (.bool (isT v)) ∧ Below w.heap.size w w' := by
  obtain ⟨k, n, t⟩ := v
  obtain ⟨T, hT⟩ : ∃ T, T = isT ⟨k, n, t⟩ := ⟨_, rfl⟩
  rw [← hT]
  have EQ := eql_val k n t 1 1 ⟨#[]⟩
  have hT2 : sameV ⟨k, n, t⟩ ⟨1, 1, ⟨#[]⟩⟩ = T := hT.symm
  rw [hT2] at EQ
  clear hT hT2
  go_enter Tryz.func161, Tryz.ntmps161
  go_wp2
  go_region_held3 (fun w' => w'.cell? ⟨w.heap.size, 0, none⟩ = some (.int .u8 k) ∧ w'.cell? ⟨w.heap.size, 1, none⟩ = some (.int .i64 n) ∧ w'.cell? ⟨w.heap.size, 2, none⟩ = some (.string t))
    (first | exact S2 | (simp [go_sem]; done))
    (first | (go_at_call 182; refine (truth_any _ _).mono ?_; rintro e w2 ⟨rfl, hw2⟩; have hb2 := below_one hw2; clear hw2; have S2 : w2.cell? ⟨w.heap.size, 0, none⟩ = some (.int .u8 k) ∧ w2.cell? ⟨w.heap.size, 1, none⟩ = some (.int .i64 n) ∧ w2.cell? ⟨w.heap.size, 2, none⟩ = some (.string t) := (⟨(hb2.cell (p := ⟨w.heap.size, 0, none⟩) (by simp)).trans (by simp [go_sem]), (hb2.cell (p := ⟨w.heap.size, 1, none⟩) (by simp)).trans (by simp [go_sem]), (hb2.cell (p := ⟨w.heap.size, 2, none⟩) (by simp)).trans (by simp [go_sem])⟩)))
  have B : Below w.heap.size w w2 := ((Below.refl _ _).alloc (Nat.le_refl _) _).drew.trans (hb2.mono (by simp))
  clear hb2 S2
  go_wp2
  go_ret
  exact ⟨rfl, B⟩
end Go.Proofs.YtedamaccflhmfaaGreatDoor
