/-
  A table that nobody made: each call of it is refused, or tells nothing.
-/
import Derived.Test.YteccbddpgenpkaaSScan
namespace Go.Proofs.Yteccbddpgenpkaa
open Go.RowKit

theorem eql_leftS {P : Program} (w : World) {tp te : TypeId} (a : Addr) (hp : P.underlying tp = some (.pointer te)) :
    (binOp .eql tp (.pointer none) (.pointer (some a))).run P w = .ok (.bool false) w := by
  have h : ∀ d : Nat, (Op.equalIn (d + 1) tp (.pointer none) (.pointer (some a))).run P w = .ok false w := fun d => by
    simp [Op.equalIn, run_underlying hp, sizeOf, typeInfo]
  simp only [binOp]
  simp [Op.equal, Op.maxDepth, h 9999]
/-- Nobody made it. -/
def NoT (w : World) (p : Value) : Prop := p = .pointer none ∨ ∃ B, p = .pointer (some ⟨B, 0, none⟩) ∧ w.cell? ⟨B, 0, none⟩ = some (.pointer none)
theorem NoT.later {w w' : World} {p : Value} (h : NoT w p) (b : Below w.heap.size w w') : NoT w' p := by
  rcases h with h | ⟨B, h1, h2⟩
  · exact .inl h
  · exact .inr ⟨B, h1, keepC b h2⟩
set_option maxRecDepth 10000 in
theorem smade_no {w : World} {p : Value} (h : NoT w p) : Calls Try.prog 41 #[p] w fun e w' => e = .returned (.bool false) ∧ w' = w := by
  rcases h with rfl | ⟨B, rfl, hc⟩
  · go_enter Try.func41, Try.ntmps41
    go_wp2_with (fail)
    go_ret
    exact ⟨rfl, rfl⟩
  · have q := eql_leftS w ⟨B, 0, none⟩ Try.underlying28
    go_enter Try.func41, Try.ntmps41
    go_wp2_with (fail)
    go_ret
    exact ⟨rfl, rfl⟩
theorem sno_len {w : World} {p : Value} (h : NoT w p) : Calls Try.prog 16 #[p] w fun e w' => e = .returned (.int .i64 0) ∧ w' = w := by
  have MD := smade_no h
  go_enter Try.func16, Try.ntmps16
  go_wp2_with (first | (go_at_call 41; refine MD.mono ?_; rintro e w' ⟨rfl, rfl⟩))
  go_ret
  exact ⟨rfl, rfl⟩
theorem sno_blocks {w : World} {p : Value} (h : NoT w p) : Calls Try.prog 17 #[p] w fun e w' => e = .returned (.int .i64 0) ∧ w' = w := by
  have MD := smade_no h
  go_enter Try.func17, Try.ntmps17
  go_wp2_with (first | (go_at_call 41; refine MD.mono ?_; rintro e w' ⟨rfl, rfl⟩))
  go_ret
  exact ⟨rfl, rfl⟩
theorem sno_reads {w : World} {p : Value} (h : NoT w p) : Calls Try.prog 12 #[p] w fun e w' => e = .returned (.int .i64 0) ∧ w' = w := by
  have MD := smade_no h
  go_enter Try.func12, Try.ntmps12
  go_wp2_with (first | (go_at_call 41; refine MD.mono ?_; rintro e w' ⟨rfl, rfl⟩))
  go_ret
  exact ⟨rfl, rfl⟩
theorem sno_last {w : World} {p : Value} (h : NoT w p) : Calls Try.prog 18 #[p] w fun e w' => e = .returned (str []) ∧ w' = w := by
  have MD := smade_no h
  go_enter Try.func18, Try.ntmps18
  go_wp2_with (first | (go_at_call 41; refine MD.mono ?_; rintro e w' ⟨rfl, rfl⟩))
  go_ret
  exact ⟨rfl, rfl⟩
set_option maxRecDepth 100000 in
theorem sno_scan {w : World} {p : Value} (h : NoT w p) (f t : List UInt8) : Calls Try.prog 13 #[p, .agg #[str f, str t]] w fun e w' => e = .returned (.tuple #[.slice none 0 0, .int .i64 1]) ∧ Below w.heap.size w w' := by
  have a1 : Below w.heap.size w (w.alloc (.cells #[str f, str t] 40)) := (Below.refl _ _).alloc (Nat.le_refl _) _
  have MD := smade_no (h.later a1)
  clear h
  go_enter Try.func13, Try.ntmps13
  go_wp2_with (first | (go_at_call 41; refine MD.mono ?_; rintro e w' ⟨rfl, rfl⟩))
  go_ret2
  exact ⟨rfl, a1⟩
set_option maxRecDepth 100000 in
theorem sno_all {w : World} {p : Value} (h : NoT w p) : Calls Try.prog 15 #[p] w fun e w' => e = .returned (.tuple #[.slice none 0 0, .int .i64 1]) ∧ Below w.heap.size w w' := by
  have SC := sno_scan h [] []
  clear h
  go_enter Try.func15, Try.ntmps15
  go_wp2_with (first | (go_at_call 13; refine SC.mono ?_; rintro e w' ⟨rfl, b⟩))
  go_ret2
  exact ⟨rfl, b⟩
set_option maxRecDepth 100000 in
theorem sno_get {w : World} {p : Value} (h : NoT w p) (k : Value) (q : Int) : Calls Try.prog 11 #[p, k, .int .i64 q] w fun e w' => e = .returned (.tuple #[entV ⟨[], [], 0, false⟩, .bool false, .int .i64 1]) ∧ Below w.heap.size w w' := by
  obtain ⟨W1, hW1⟩ : ∃ W1, W1 = w.alloc (.cells #[.string ⟨#[]⟩, .string ⟨#[]⟩, .int .i64 0, .bool false] 33) := ⟨_, rfl⟩
  have a1 : Below w.heap.size w W1 := by rw [hW1]; exact (Below.refl _ _).alloc (Nat.le_refl _) _
  have R1 : W1.heap[w.heap.size]? = some (eO ⟨[], [], 0, false⟩) := by rw [hW1]; exact World.alloc_heap_new w _
  have MD := smade_no (h.later a1)
  obtain ⟨t0, t1, t2, t3, _⟩ := slot4 R1
  rw [hW1] at MD
  clear h
  go_enter Try.func11, Try.ntmps11
  go_wp2_with (first | (go_at_call 41; refine MD.mono ?_; rintro e w' ⟨rfl, rfl⟩))
  rw [← hW1]
  refine bodyPost_ret (v := .tuple #[entV ⟨[], [], 0, false⟩, .bool false, .int .i64 1]) (by simp [results, Try.results11, go_sem, t0, t1, t2, t3]) rfl ?_
  exact ⟨rfl, a1⟩
end Go.Proofs.Yteccbddpgenpkaa
