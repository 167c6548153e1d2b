/-
  The small calls of package value: how many values an operation takes, which kind it answers, what is Null, what is true.
-/
import Derived.Test.YtjddhakaebkkeaaDoorUP
import Derived.Test.YtjddhakaebkkeaaDoorUCheck
namespace Go.Proofs.YtjddhakaebkkeaaDoor
open Go.RowKit

theorem below_one {w w' : World} {o : Obj} (h : w' = w.alloc o) : Below w.heap.size w w' := by rw [h]; exact (Below.refl _ _).alloc (Nat.le_refl _) _

theorem truth_any (w : World) (b : Bool) : Calls Tryd.prog 70 #[.bool b] w fun e w' => e = .returned (.agg #[.int .u8 1, .int .i64 (if b then 1 else 0), .string ⟨#[]⟩]) ∧ w' = w.alloc (.cells #[.int .u8 1, .int .i64 (if b then 1 else 0), .string ⟨#[]⟩] 64) := by
  cases b
  all_goals
    go_enter Tryd.func70, Tryd.ntmps70
    go_wp2
  · refine bodyPost_ret (v := .agg #[.int .u8 1, .int .i64 0, .string ⟨#[]⟩]) (by simp [results, Tryd.results70, go_sem]; try rfl) rfl ⟨rfl, ?_⟩
    rfl
  · refine bodyPost_ret (v := .agg #[.int .u8 1, .int .i64 1, .string ⟨#[]⟩]) (by simp [results, Tryd.results70, go_sem]; try rfl) rfl ⟨rfl, ?_⟩
    rfl

set_option maxRecDepth 100000 in
/-- Two values held against each other. -/
theorem eql_val (a b : Int) (c : ByteArray) (a' b' : Int) (c' : ByteArray) (W : World) : (binOp .eql 64 (.agg #[.int .u8 a, .int .i64 b, .string c]) (.agg #[.int .u8 a', .int .i64 b', .string c'])).run Tryd.prog W = .ok (.bool (sameV ⟨a, b, c⟩ ⟨a', b', c'⟩)) W := by
  have hu : Tryd.prog.underlying 64 = some (.struct (Tryd.prog.fieldsOf 64)) := by kernel_rfl
  have hp : Tryd.prog.stoodInHeld 64 = false := by kernel_rfl
  rw [run_eql_struct, run_equalIn_agg _ _ _ _ _ hu hp]
  clear hu hp
  unfold sameV
  cases h1 : (a == a') <;> cases h2 : (b == b') <;> cases h3 : (c.toList == c'.toList)
  all_goals
    go_simp

set_option maxHeartbeats 800000 in
theorem true_any (w : World) (v : Val) : Calls Tryd.prog 57 #[.agg #[.int .u8 v.k, .int .i64 v.n, .string v.t]] w fun e w' => e = .returned (.bool (isT v)) ∧ Below w.heap.size w w' := by
  obtain ⟨k, n, t⟩ := v
  obtain ⟨T, hT⟩ : ∃ T, T = isT ⟨k, n, t⟩ := ⟨_, rfl⟩
  rw [← hT]
  have EQ := eql_val k n t 1 1 ⟨#[]⟩
  have hT2 : sameV ⟨k, n, t⟩ ⟨1, 1, ⟨#[]⟩⟩ = T := hT.symm
  rw [hT2] at EQ
  clear hT hT2
  go_enter Tryd.func57, Tryd.ntmps57
  go_wp2
  go_region_held3 (fun w' => w'.cell? ⟨w.heap.size, 0, none⟩ = some (.int .u8 k) ∧ w'.cell? ⟨w.heap.size, 1, none⟩ = some (.int .i64 n) ∧ w'.cell? ⟨w.heap.size, 2, none⟩ = some (.string t))
    (first | exact S2 | (simp [go_sem]; done))
    (first | (go_at_call 70; refine (truth_any _ _).mono ?_; rintro e w2 ⟨rfl, hw2⟩; have hb2 := below_one hw2; clear hw2; have S2 : w2.cell? ⟨w.heap.size, 0, none⟩ = some (.int .u8 k) ∧ w2.cell? ⟨w.heap.size, 1, none⟩ = some (.int .i64 n) ∧ w2.cell? ⟨w.heap.size, 2, none⟩ = some (.string t) := (⟨(hb2.cell (p := ⟨w.heap.size, 0, none⟩) (by simp)).trans (by simp [go_sem]), (hb2.cell (p := ⟨w.heap.size, 1, none⟩) (by simp)).trans (by simp [go_sem]), (hb2.cell (p := ⟨w.heap.size, 2, none⟩) (by simp)).trans (by simp [go_sem])⟩)))
  have B : Below w.heap.size w w2 := ((Below.refl _ _).alloc (Nat.le_refl _) _).drew.trans (hb2.mono (by simp))
  clear hb2 S2
  go_wp2
  go_ret
  exact ⟨rfl, B⟩
end Go.Proofs.YtjddhakaebkkeaaDoor
