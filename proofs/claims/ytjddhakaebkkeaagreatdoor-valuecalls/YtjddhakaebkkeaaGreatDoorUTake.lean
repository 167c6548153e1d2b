/-
  The small calls of package value: how many values an operation takes, which kind it answers, what is Null, what is true.
-/
import Derived.Test.YtjddhakaebkkeaaGreatDoorUP
import Derived.Test.YtjddhakaebkkeaaGreatDoorUCheck
namespace Go.Proofs.YtjddhakaebkkeaaGreatDoor
open Go.RowKit

set_option maxHeartbeats 1600000 in
theorem takes_any (w : World) (op : Int) : Calls Tryz.prog 10 #[.int .u8 op] w fun e w' => e = .returned (.int .i64 (takes op)) ∧ w' = w := by
  obtain ⟨T, hT⟩ : ∃ T, T = takes op := ⟨_, rfl⟩
  rw [← hT]
  have HT : Hid (T = takes op) := hT
  clear hT
  go_enter Tryz.func10, Tryz.ntmps10
  go_wp2
  all_goals go_ret
  all_goals refine ⟨?_, rfl⟩
  all_goals rw [HT.out]
  all_goals simp only [beq_iff_eq, beq_eq_false_iff_ne] at *
  all_goals first
    | (subst_vars; rfl)
    | (have e : takes op = 0 := by
        unfold takes
        rw [if_neg, if_neg] <;> omega
       rw [e]; rfl)

theorem just_any (w : World) (op : Int) (n : Nat) (hn : n ≤ 1099511627776000) : Calls Tryz.prog 35 #[.int .u8 op, .int .i64 n] w fun e w' => e = .returned (.bool (justB op n)) ∧ w' = w := by
  obtain ⟨T, hT⟩ : ∃ T, T = takes op := ⟨_, rfl⟩
  have TK : Hid (∀ wx, Calls Tryz.prog 10 #[.int .u8 op] wx fun e w' => e = .returned (.int .i64 T) ∧ w' = wx) := fun wx => by rw [hT]; exact takes_any wx op
  have HT : Hid (T = takes op) := hT
  clear hT
  by_cases h0 : n = 0
  · subst h0
    have HR : Hid (justB op 0 = false) := by show _ = _; simp [justB]
    go_enter Tryz.func35, Tryz.ntmps35
    go_wp2_with (go_at_call 10; refine (TK.out _).mono ?_; rintro e w' ⟨rfl, rfl⟩)
    go_ret
    exact ⟨by rw [HR.out]; rfl, rfl⟩
  · have hp : (0 : Int) < (n : Int) := by omega
    have HR : Hid (justB op n = (T == (n : Int))) := by
      show _ = _
      have : 0 < n := by omega
      rw [HT.out]
      simp [justB, this]
      rw [Bool.eq_iff_iff]; simp
    clear h0
    go_enter Tryz.func35, Tryz.ntmps35
    go_wp2_with (go_at_call 10; refine (TK.out _).mono ?_; rintro e w' ⟨rfl, rfl⟩)
    go_ret
    exact ⟨by rw [HR.out]; rfl, rfl⟩

theorem below_one {w w' : World} {o : Obj} (h : w' = w.alloc o) : Below w.heap.size w w' := by rw [h]; exact (Below.refl _ _).alloc (Nat.le_refl _) _

theorem truth_any (w : World) (b : Bool) : Calls Tryz.prog 22 #[.bool b] w fun e w' => e = .returned (.agg #[.int .u8 1, .int .i64 (if b then 1 else 0), .string ⟨#[]⟩]) ∧ w' = w.alloc (.cells #[.int .u8 1, .int .i64 (if b then 1 else 0), .string ⟨#[]⟩] 29) := by
  cases b
  all_goals
    go_enter Tryz.func22, Tryz.ntmps22
    go_wp2
  · refine bodyPost_ret (v := .agg #[.int .u8 1, .int .i64 0, .string ⟨#[]⟩]) (by simp [results, Tryz.results22, go_sem]; try rfl) rfl ⟨rfl, ?_⟩
    rfl
  · refine bodyPost_ret (v := .agg #[.int .u8 1, .int .i64 1, .string ⟨#[]⟩]) (by simp [results, Tryz.results22, go_sem]; try rfl) rfl ⟨rfl, ?_⟩
    rfl

theorem number_any (w : World) (n : Int) : Calls Tryz.prog 50 #[.int .i64 n] w fun e w' => e = .returned (.agg #[.int .u8 2, .int .i64 n, .string ⟨#[]⟩]) ∧ w' = w.alloc (.cells #[.int .u8 2, .int .i64 n, .string ⟨#[]⟩] 29) := by
  go_enter Tryz.func50, Tryz.ntmps50
  go_wp2
  refine bodyPost_ret (v := .agg #[.int .u8 2, .int .i64 n, .string ⟨#[]⟩]) (by simp [results, Tryz.results50, go_sem]; try rfl) rfl ⟨rfl, ?_⟩
  rfl

theorem isNull_any (w : World) (k n : Int) (t : ByteArray) : Calls Tryz.prog 23 #[.agg #[.int .u8 k, .int .i64 n, .string t]] w fun e w' => e = .returned (.bool (k == 0)) ∧ Below w.heap.size w w' := by
  go_enter Tryz.func23, Tryz.ntmps23
  go_wp2
  go_ret
  exact ⟨rfl, (Below.refl _ _).alloc (Nat.le_refl _) _⟩

theorem isNoKind_any (w : World) (k : Int) : Calls Tryz.prog 37 #[.int .u8 k] w fun e w' => e = .returned (.bool (badK k)) ∧ w' = w := by
  obtain ⟨T, hT⟩ : ∃ T, T = badK k := ⟨_, rfl⟩
  rw [← hT]
  have HT : Hid (T = decide (3 < k)) := hT
  clear hT
  go_enter Tryz.func37, Tryz.ntmps37
  go_wp2
  go_ret
  exact ⟨by rw [HT.out]; rfl, rfl⟩

set_option maxHeartbeats 800000 in
theorem answers_any (w : World) (op : Int) : Calls Tryz.prog 39 #[.int .u8 op] w fun e w' => e = .returned (.int .u8 (answK op)) ∧ w' = w := by
  obtain ⟨T, hT⟩ : ∃ T, T = answK op := ⟨_, rfl⟩
  rw [← hT]
  have HT : Hid (T = answK op) := hT
  clear hT
  go_enter Tryz.func39, Tryz.ntmps39
  go_wp2
  all_goals go_ret
  all_goals refine ⟨?_, rfl⟩
  all_goals rw [HT.out]
  all_goals simp only [beq_iff_eq, beq_eq_false_iff_ne] at *
  all_goals first
    | (subst_vars; rfl)
    | (have e : answK op = 1 := by
        have h1 : numOp op = false := by unfold numOp; simp; omega
        unfold answK
        rw [h1, if_neg (by simp), if_neg (by assumption)]
       rw [e]; rfl)

set_option maxHeartbeats 800000 in
theorem holds_any (w : World) (op c : Int) : Calls Tryz.prog 56 #[.int .u8 op, .int .i64 c] w fun e w' => e = .returned (.bool (holdsB op c)) ∧ w' = w := by
  obtain ⟨T, hT⟩ : ∃ T, T = holdsB op c := ⟨_, rfl⟩
  rw [← hT]
  have HT : Hid (T = holdsB op c) := hT
  clear hT
  go_enter Tryz.func56, Tryz.ntmps56
  go_wp2
  all_goals go_ret
  all_goals refine ⟨?_, rfl⟩
  all_goals rw [HT.out]
  all_goals simp only [beq_iff_eq, beq_eq_false_iff_ne] at *
  all_goals first
    | (subst_vars; rfl)
    | (have e : holdsB op c = false := by unfold holdsB; simp [*]
       rw [e]; rfl)

set_option maxRecDepth 100000 in
/-- Two values held against each other. -/
theorem eql_val (a b : Int) (c : ByteArray) (a' b' : Int) (c' : ByteArray) (W : World) : (binOp .eql 29 (.agg #[.int .u8 a, .int .i64 b, .string c]) (.agg #[.int .u8 a', .int .i64 b', .string c'])).run Tryz.prog W = .ok (.bool (sameV ⟨a, b, c⟩ ⟨a', b', c'⟩)) W := by
  have hu : Tryz.prog.underlying 29 = some (.struct (Tryz.prog.fieldsOf 29)) := by kernel_rfl
  have hp : Tryz.prog.stoodInHeld 29 = false := by kernel_rfl
  rw [run_eql_struct, run_equalIn_agg _ _ _ _ _ hu hp]
  clear hu hp
  unfold sameV
  cases h1 : (a == a') <;> cases h2 : (b == b') <;> cases h3 : (c.toList == c'.toList)
  all_goals
    go_simp

set_option maxHeartbeats 800000 in
theorem true_any (w : World) (v : Val) : Calls Tryz.prog 15 #[.agg #[.int .u8 v.k, .int .i64 v.n, .string v.t]] w fun e w' => e = .returned (.bool (isT v)) ∧ Below w.heap.size w w' := by
  obtain ⟨k, n, t⟩ := v
  obtain ⟨T, hT⟩ : ∃ T, T = isT ⟨k, n, t⟩ := ⟨_, rfl⟩
  rw [← hT]
  have EQ := eql_val k n t 1 1 ⟨#[]⟩
  have hT2 : sameV ⟨k, n, t⟩ ⟨1, 1, ⟨#[]⟩⟩ = T := hT.symm
  rw [hT2] at EQ
  clear hT hT2
  go_enter Tryz.func15, Tryz.ntmps15
  go_wp2
  go_region_held3 (fun w' => w'.cell? ⟨w.heap.size, 0, none⟩ = some (.int .u8 k) ∧ w'.cell? ⟨w.heap.size, 1, none⟩ = some (.int .i64 n) ∧ w'.cell? ⟨w.heap.size, 2, none⟩ = some (.string t))
    (first | exact S2 | (simp [go_sem]; done))
    (first | (go_at_call 22; refine (truth_any _ _).mono ?_; rintro e w2 ⟨rfl, hw2⟩; have hb2 := below_one hw2; clear hw2; have S2 : w2.cell? ⟨w.heap.size, 0, none⟩ = some (.int .u8 k) ∧ w2.cell? ⟨w.heap.size, 1, none⟩ = some (.int .i64 n) ∧ w2.cell? ⟨w.heap.size, 2, none⟩ = some (.string t) := (⟨(hb2.cell (p := ⟨w.heap.size, 0, none⟩) (by simp)).trans (by simp [go_sem]), (hb2.cell (p := ⟨w.heap.size, 1, none⟩) (by simp)).trans (by simp [go_sem]), (hb2.cell (p := ⟨w.heap.size, 2, none⟩) (by simp)).trans (by simp [go_sem])⟩)))
  have B : Below w.heap.size w w2 := ((Below.refl _ _).alloc (Nat.le_refl _) _).drew.trans (hb2.mono (by simp))
  clear hb2 S2
  go_wp2
  go_ret
  exact ⟨rfl, B⟩
end Go.Proofs.YtjddhakaebkkeaaGreatDoor
