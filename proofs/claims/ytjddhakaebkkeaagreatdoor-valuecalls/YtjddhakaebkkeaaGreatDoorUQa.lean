/-
  The document's own small calls of layer 12: how many values an operation takes, Bools and numbers, an Int's magnitude, what decides.
-/
import Derived.Test.YtjddhakaebkkeaaGreatDoorURef1
import Derived.Test.YtjddhakaebkkeaaGreatDoorULaw
import Derived.Laws.Bits64
namespace Go.Proofs.YtjddhakaebkkeaaGreatDoor
open Go.RowKit
attribute [local go_sem ↓] Go.wp_at_zero Go.wp_at_succ

set_option maxHeartbeats 800000 in
theorem rtakes_any (w : World) (op : Int) : Calls Tryz.prog 11 #[.int .u8 op] w fun e w' => e = .returned (.int .i64 (takes op)) ∧ w' = w := by
  obtain ⟨T, hT⟩ : ∃ T, T = takes op := ⟨_, rfl⟩
  rw [← hT]
  have HT : Hid (T = takes op) := hT
  clear hT
  by_cases h1 : 3 ≤ op
  · by_cases h2 : op ≤ 16
    · have HR : Hid (T = 2) := by show _ = _; rw [HT.out]; unfold takes; rw [if_pos ⟨h1, h2⟩]
      go_enter Tryz.func11, Tryz.ntmps11
      go_wp2
      go_ret
      exact ⟨by rw [HR.out]; rfl, rfl⟩
    · have h3 : 17 ≤ op := by omega
      by_cases h4 : op ≤ 20
      · have HR : Hid (T = 1) := by show _ = _; rw [HT.out]; unfold takes; rw [if_neg (by omega), if_pos ⟨h3, h4⟩]
        go_enter Tryz.func11, Tryz.ntmps11
        go_wp2
        go_ret
        exact ⟨by rw [HR.out]; rfl, rfl⟩
      · have HR : Hid (T = 0) := by show _ = _; rw [HT.out]; unfold takes; rw [if_neg (by omega), if_neg (by omega)]
        go_enter Tryz.func11, Tryz.ntmps11
        go_wp2
        go_ret
        exact ⟨by rw [HR.out]; rfl, rfl⟩
  · have h3 : ¬ 17 ≤ op := by omega
    have HR : Hid (T = 0) := by show _ = _; rw [HT.out]; unfold takes; rw [if_neg (by omega), if_neg (by omega)]
    go_enter Tryz.func11, Tryz.ntmps11
    go_wp2
    go_ret
    exact ⟨by rw [HR.out]; rfl, rfl⟩

theorem rtruth_any (w : World) (b : Bool) : Calls Tryz.prog 29 #[.bool b] w fun e w' => e = .returned (.agg #[.int .u8 1, .int .i64 (if b then 1 else 0), .string ⟨#[]⟩]) ∧ w' = w.alloc (.cells #[.int .u8 1, .int .i64 (if b then 1 else 0), .string ⟨#[]⟩] 29) := by
  cases b
  all_goals
    go_enter Tryz.func29, Tryz.ntmps29
    go_wp2
  · refine bodyPost_ret (v := .agg #[.int .u8 1, .int .i64 0, .string ⟨#[]⟩]) (by simp [results, Tryz.results29, go_sem]; try rfl) rfl ⟨rfl, ?_⟩
    rfl
  · refine bodyPost_ret (v := .agg #[.int .u8 1, .int .i64 1, .string ⟨#[]⟩]) (by simp [results, Tryz.results29, go_sem]; try rfl) rfl ⟨rfl, ?_⟩
    rfl
theorem rnumber_any (w : World) (n : Int) : Calls Tryz.prog 32 #[.int .i64 n] w fun e w' => e = .returned (.agg #[.int .u8 2, .int .i64 n, .string ⟨#[]⟩]) ∧ w' = w.alloc (.cells #[.int .u8 2, .int .i64 n, .string ⟨#[]⟩] 29) := by
  go_enter Tryz.func32, Tryz.ntmps32
  go_wp2
  refine bodyPost_ret (v := .agg #[.int .u8 2, .int .i64 n, .string ⟨#[]⟩]) (by simp [results, Tryz.results32, go_sem]; try rfl) rfl ⟨rfl, ?_⟩
  rfl

set_option maxHeartbeats 800000 in
theorem rcompared_any (w : World) (op c : Int) (h : 9 ≤ op ∧ op ≤ 14) : Calls Tryz.prog 33 #[.int .u8 op, .int .i64 c] w fun e w' => e = .returned (.bool (holdsB op c)) ∧ w' = w := by
  have e : op = 9 ∨ op = 10 ∨ op = 11 ∨ op = 12 ∨ op = 13 ∨ op = 14 := by omega
  rcases e with rfl | rfl | rfl | rfl | rfl | rfl
  all_goals
    go_enter Tryz.func33, Tryz.ntmps33
    go_wp2
    go_ret
    exact ⟨rfl, rfl⟩

set_option maxHeartbeats 800000 in
theorem rtrue_any (w : World) (v : Val) : Calls Tryz.prog 16 #[.agg #[.int .u8 v.k, .int .i64 v.n, .string v.t]] w fun e w' => e = .returned (.bool (isT v)) ∧ Below w.heap.size w w' := by
  obtain ⟨k, n, t⟩ := v
  obtain ⟨T, hT⟩ : ∃ T, T = isT ⟨k, n, t⟩ := ⟨_, rfl⟩
  rw [← hT]
  have EQ := eql_val k n t 1 1 ⟨#[]⟩
  have hT2 : sameV ⟨k, n, t⟩ ⟨1, 1, ⟨#[]⟩⟩ = T := hT.symm
  rw [hT2] at EQ
  clear hT hT2
  go_enter Tryz.func16, Tryz.ntmps16
  go_wp2
  go_region_held3 (fun w' => w'.cell? ⟨w.heap.size, 0, none⟩ = some (.int .u8 k) ∧ w'.cell? ⟨w.heap.size, 1, none⟩ = some (.int .i64 n) ∧ w'.cell? ⟨w.heap.size, 2, none⟩ = some (.string t))
    (first | exact S2 | (simp [go_sem]; done))
    (first | (go_at_call 29; refine (rtruth_any _ _).mono ?_; rintro e w2 ⟨rfl, hw2⟩; have hb2 := below_one hw2; clear hw2; have S2 : w2.cell? ⟨w.heap.size, 0, none⟩ = some (.int .u8 k) ∧ w2.cell? ⟨w.heap.size, 1, none⟩ = some (.int .i64 n) ∧ w2.cell? ⟨w.heap.size, 2, none⟩ = some (.string t) := (⟨(hb2.cell (p := ⟨w.heap.size, 0, none⟩) (by simp)).trans (by simp [go_sem]), (hb2.cell (p := ⟨w.heap.size, 1, none⟩) (by simp)).trans (by simp [go_sem]), (hb2.cell (p := ⟨w.heap.size, 2, none⟩) (by simp)).trans (by simp [go_sem])⟩)))
  have B : Below w.heap.size w w2 := ((Below.refl _ _).alloc (Nat.le_refl _) _).drew.trans (hb2.mono (by simp))
  clear hb2 S2
  go_wp2
  go_ret
  exact ⟨rfl, B⟩

set_option maxHeartbeats 800000 in
/-- An Int's magnitude. -/
theorem rmag_any (w : World) (n : Int) (h : I64 n) : Calls Tryz.prog 46 #[.int .i64 n] w fun e w' => e = .returned (.tuple #[.bool (decide (n < 0)), .int .u64 (n.natAbs : Int)]) ∧ w' = w := by
  have l := h.lo
  have u := h.hi
  by_cases k : n < 0
  · have e : (n.natAbs : Int) = -n := by omega
    rw [e, decide_eq_true k]
    have w1 : IntKind.i64.wrap (n + 1) = n + 1 := by rw [IntKind.wrap_i64]; omega
    have w2 : IntKind.i64.wrap (-(n + 1)) = -(n + 1) := by rw [IntKind.wrap_i64]; omega
    have w3 : IntKind.u64.wrap (-(n + 1)) = -(n + 1) := by rw [IntKind.wrap_u64]; omega
    have w4 : IntKind.u64.wrap (-(n + 1) + 1) = -n := by rw [IntKind.wrap_u64]; omega
    clear l u h e
    go_enter Tryz.func46, Tryz.ntmps46
    go_wp2
    go_ret2
    exact ⟨rfl, rfl⟩
  · have e : (n.natAbs : Int) = n := by omega
    rw [e, decide_eq_false k]
    have w1 : IntKind.u64.wrap n = n := by rw [IntKind.wrap_u64]; omega
    clear e
    go_enter Tryz.func46, Tryz.ntmps46
    go_wp2
    go_ret2
    exact ⟨rfl, rfl⟩
end Go.Proofs.YtjddhakaebkkeaaGreatDoor
