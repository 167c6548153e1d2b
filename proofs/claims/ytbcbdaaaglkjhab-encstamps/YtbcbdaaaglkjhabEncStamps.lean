/-
  Proved: for every two stamps t and u and every text s the call EncStamps(t, u, s) returns true and leaves its arguments as they were: texts of stamps that may be have 16 bytes, stand in the turned order, are equal just if the stamps are, and are read back as they were; whatever text is read as a stamp is just that stamp's text.
  Conditions: none beyond the form's own reach.
-/
import Derived.Test.YtbcbdaaaglkjhabRows
import Derived.Test.YtbcbdaaaglkjhabLives
import Derived.Test.YtbcbdaaaglkjhabStampFacts
import Derived.ProofKit
import Derived.OpenShut
import Derived.ShutString
import Derived.ChangeOld
import Derived.Lib.SmallJoins
namespace Go.Proofs.Ytbcbdaaaglkjhab.encStamps
open Go.ChangeShapes Go.WideShapes Go.ChangeAt Go.RowKit
open Go.ChangeMaps (open_string shut_string)
open Go.Proofs.Ytbcbdaaaglkjhab

theorem own : ownKnob Try.prog.godebug = none := by kernel_rfl

/-- The two stamps' cells. -/
structure Six (w : World) (N : Nat) (a b c a' b' c' : Int) : Prop where
  c0 : w.cell? ⟨N, 0, none⟩ = some (.int .i64 a)
  c1 : w.cell? ⟨N, 1, none⟩ = some (.int .i32 b)
  c2 : w.cell? ⟨N, 2, none⟩ = some (.int .i32 c)
  d0 : w.cell? ⟨N + 1, 0, none⟩ = some (.int .i64 a')
  d1 : w.cell? ⟨N + 1, 1, none⟩ = some (.int .i32 b')
  d2 : w.cell? ⟨N + 1, 2, none⟩ = some (.int .i32 c')
theorem keep1 {W w1 : World} (hb : Below W.heap.size W w1) {p : Addr} {v : Value} (h : W.cell? p = some v) : w1.cell? p = some v := (hb.cell (World.block_lt_of_cell? W p h)).trans h
theorem Six.later {W w1 : World} {N : Nat} {a b c a' b' c' : Int} (h : Six W N a b c a' b' c') (hb : Below W.heap.size W w1) : Six w1 N a b c a' b' c' :=
  ⟨keep1 hb h.c0, keep1 hb h.c1, keep1 hb h.c2, keep1 hb h.d0, keep1 hb h.d1, keep1 hb h.d2⟩
theorem Six.alloc {W : World} {N : Nat} {a b c a' b' c' : Int} (h : Six W N a b c a' b' c') (o : Obj) : Six (W.alloc o) N a b c a' b' c' := h.later ((Below.refl _ _).alloc (Nat.le_refl _) o)
theorem six_new (w : World) (a b c a' b' c' : Int) : Six ((w.alloc (.cells #[.int .i64 a, .int .i32 b, .int .i32 c] 29)).alloc (.cells #[.int .i64 a', .int .i32 b', .int .i32 c'] 29)) w.heap.size a b c a' b' c' := by
  constructor <;> simp [go_sem, World.cell?_alloc_past]

/-- What the two calls of the layer answer, in every world. -/
def Stamps (a b c : Int) (S : ByteArray) (E : Int) : Prop := ∀ w : World, Calls Try.prog 9 #[.agg #[.int .i64 a, .int .i32 b, .int .i32 c]] w fun e w' => e = .returned (.tuple #[.string S, .int .i64 E]) ∧ Below w.heap.size w w'
def Unstamps (S : ByteArray) (a b c E : Int) : Prop := ∀ w : World, Calls Try.prog 10 #[.string S] w fun e w' => e = .returned (.tuple #[.agg #[.int .i64 a, .int .i32 b, .int .i32 c], .int .i64 E]) ∧ Below w.heap.size w w'

set_option maxHeartbeats 1000000 in
theorem bad_no (a b c a' b' c' : Int) (s SA SB : ByteArray) (E F xa xb xc : Int) (w : World) (H1 : Stamps a b c SA E) (H2 : Stamps a' b' c' SB F) (H3 : Unstamps s xa xb xc 5) (h : (E != 0) = true ∨ (E = 0 ∧ (F != 0) = true)) :
    Calls Try.prog 4 #[.agg #[.int .i64 a, .int .i32 b, .int .i32 c], .agg #[.int .i64 a', .int .i32 b', .int .i32 c'], .string s] w fun e w' => e = .returned (.bool true) ∧ Below w.heap.size w w' := by
  rcases h with h | ⟨rfl, h⟩
  all_goals
    go_enter Try.func4, Try.ntmps4
    go_wp2_with (first
      | (go_at_call 9; refine (H1 _).mono ?_; rintro e w1 ⟨rfl, hb1⟩; have S1 := (six_new w a b c a' b' c').later hb1; have S1' := S1; obtain ⟨q10, q11, q12, q13, q14, q15⟩ := S1'; have hz1 : w.heap.size + 2 ≤ w1.heap.size := (by have := hb1.size; simp at this; omega); clear H1)
      | (go_at_call 9; refine (H2 _).mono ?_; rintro e w2 ⟨rfl, hb2⟩; have S2 := S1.later hb2; have S2' := S2; obtain ⟨q20, q21, q22, q23, q24, q25⟩ := S2'; have hz2 := hb2.size; clear H2)
      | (go_at_call 7; refine (lives_any _).mono ?_; rintro e w3 ⟨rfl, hb3⟩; have S3 := S2.later hb3; have S3' := S3; obtain ⟨q30, q31, q32, q33, q34, q35⟩ := S3'; have hz3 := hb3.size)
      | (go_at_call 10; refine (H3 _).mono ?_; rintro e w4 ⟨rfl, hb4⟩; have S4 := S3.later hb4; have S4' := S4; obtain ⟨q40, q41, q42, q43, q44, q45⟩ := S4'; have hz4 := hb4.size; clear H3))
    go_ret
    have B1 : Below w.heap.size w w1 := (((Below.refl _ _).alloc (Nat.le_refl _) _).alloc (by simp) _).trans (hb1.mono (by simp; omega))
    have B4 : Below w.heap.size w w4 := ((B1.trans (hb2.mono (by omega))).trans (hb3.mono (by omega))).trans (hb4.mono (by omega))
    exact ⟨rfl, B4.alloc (by omega) _⟩

set_option maxHeartbeats 1000000 in
theorem bad_yes (a b c a' b' c' : Int) (s SA SB : ByteArray) (E F xa xb xc : Int) (w : World) (H1 : Stamps a b c SA E) (H2 : Stamps a' b' c' SB F) (H3 : Unstamps s xa xb xc 0) (H4 : Stamps xa xb xc s 0) (h : (E != 0) = true ∨ (E = 0 ∧ (F != 0) = true)) :
    Calls Try.prog 4 #[.agg #[.int .i64 a, .int .i32 b, .int .i32 c], .agg #[.int .i64 a', .int .i32 b', .int .i32 c'], .string s] w fun e w' => e = .returned (.bool true) ∧ Below w.heap.size w w' := by
  rcases h with h | ⟨rfl, h⟩
  all_goals
    go_enter Try.func4, Try.ntmps4
    go_wp2_with (first
      | (go_at_call 9; refine (H1 _).mono ?_; rintro e w1 ⟨rfl, hb1⟩; have S1 := (six_new w a b c a' b' c').later hb1; have S1' := S1; obtain ⟨q10, q11, q12, q13, q14, q15⟩ := S1'; have hz1 : w.heap.size + 2 ≤ w1.heap.size := (by have := hb1.size; simp at this; omega); clear H1)
      | (go_at_call 9; refine (H2 _).mono ?_; rintro e w2 ⟨rfl, hb2⟩; have S2 := S1.later hb2; have S2' := S2; obtain ⟨q20, q21, q22, q23, q24, q25⟩ := S2'; have hz2 := hb2.size; clear H2)
      | (go_at_call 7; refine (lives_any _).mono ?_; rintro e w3 ⟨rfl, hb3⟩; have S3 := S2.later hb3; have S3' := S3; obtain ⟨q30, q31, q32, q33, q34, q35⟩ := S3'; have hz3 := hb3.size)
      | (go_at_call 10; refine (H3 _).mono ?_; rintro e w4 ⟨rfl, hb4⟩; have S4 := S3.later hb4; have S4' := S4; obtain ⟨q40, q41, q42, q43, q44, q45⟩ := S4'; have hz4 := hb4.size; clear H3)
      | (go_at_call 9; refine (H4 _).mono ?_; rintro e w5 ⟨rfl, hb5⟩; have S5 := (S4.alloc _).later hb5; have S5' := S5; obtain ⟨q50, q51, q52, q53, q54, q55⟩ := S5'; have hz5 : w4.heap.size + 1 ≤ w5.heap.size := (by have := hb5.size; simp at this; omega); clear H4))
    go_ret
    have B1 : Below w.heap.size w w1 := (((Below.refl _ _).alloc (Nat.le_refl _) _).alloc (by simp) _).trans (hb1.mono (by simp; omega))
    have B4 : Below w.heap.size w w4 := ((B1.trans (hb2.mono (by omega))).trans (hb3.mono (by omega))).trans (hb4.mono (by omega))
    have B5 : Below w.heap.size w w5 := (B4.alloc (by omega) _).trans (hb5.mono (by simp; omega))
    exact ⟨rfl, B5⟩

/-- How two stamps are alike or not, part by part. -/
def Parts (a b c a' b' c' : Int) (y : Bool) : Prop :=
  ((a == a') = false ∧ y = false) ∨ ((a == a') = true ∧ (b == b') = false ∧ y = false) ∨ ((a == a') = true ∧ (b == b') = true ∧ (c == c') = false ∧ y = false) ∨ ((a == a') = true ∧ (b == b') = true ∧ (c == c') = true ∧ y = true)

set_option maxHeartbeats 1000000 in
theorem good_no (a b c a' b' c' : Int) (s SA SB : ByteArray) (xa xb xc : Int) (w : World) (H1 : Stamps a b c SA 0) (H2 : Stamps a' b' c' SB 0) (H3 : Unstamps s xa xb xc 5) (H5 : Unstamps SA a b c 0) (hsz : SA.size = 16) (hl : laterB a b c a' b' c' = Op.bytesLess SA.toList SB.toList) (y : Bool) (hy : (SA.toList == SB.toList) = y) (hp : Parts a b c a' b' c' y) :
    Calls Try.prog 4 #[.agg #[.int .i64 a, .int .i32 b, .int .i32 c], .agg #[.int .i64 a', .int .i32 b', .int .i32 c'], .string s] w fun e w' => e = .returned (.bool true) ∧ Below w.heap.size w w' := by
  rcases hp with ⟨h1, rfl⟩ | ⟨h1, h2, rfl⟩ | ⟨h1, h2, h3, rfl⟩ | ⟨h1, h2, h3, rfl⟩
  all_goals
    go_enter Try.func4, Try.ntmps4
    go_wp2_with (first
      | (go_at_call 9; refine (H1 _).mono ?_; rintro e w1 ⟨rfl, hb1⟩; have S1 := (six_new w a b c a' b' c').later hb1; have S1' := S1; obtain ⟨q10, q11, q12, q13, q14, q15⟩ := S1'; have hz1 : w.heap.size + 2 ≤ w1.heap.size := (by have := hb1.size; simp at this; omega); clear H1)
      | (go_at_call 9; refine (H2 _).mono ?_; rintro e w2 ⟨rfl, hb2⟩; have S2 := S1.later hb2; have S2' := S2; obtain ⟨q20, q21, q22, q23, q24, q25⟩ := S2'; have hz2 := hb2.size; clear H2)
      | (go_at_call 7; refine (lives_any _).mono ?_; rintro e w3 ⟨rfl, hb3⟩; have S3 := S2.later hb3; have S3' := S3; obtain ⟨q30, q31, q32, q33, q34, q35⟩ := S3'; have hz3 := hb3.size)
      | (go_at_call 10; refine (H3 _).mono ?_; rintro e w4 ⟨rfl, hb4⟩; have S4 := S3.later hb4; have S4' := S4; obtain ⟨q40, q41, q42, q43, q44, q45⟩ := S4'; have hz4 := hb4.size; clear H3)
      | (go_at_call 10; refine (H5 _).mono ?_; rintro e w6 ⟨rfl, hb6⟩; have S6 := (S4.alloc _).later hb6; have S6' := S6; obtain ⟨q60, q61, q62, q63, q64, q65⟩ := S6'; have T0 := fun o => (S6.alloc o).c0; have T1 := fun o => (S6.alloc o).c1; have T2 := fun o => (S6.alloc o).c2; have T3 := fun o => (S6.alloc o).d0; have T4 := fun o => (S6.alloc o).d1; have T5 := fun o => (S6.alloc o).d2; have hz6 : w4.heap.size + 1 ≤ w6.heap.size := (by have := hb6.size; (try simp at this); omega); clear H5))
    refine (later_any _ _ _ _ _ _ _).mono ?_
    rintro e w7 ⟨rfl, hb7⟩
    have S7 := (S6.alloc (.cells #[.int .i64 a, .int .i32 b, .int .i32 c] 29)).later hb7
    obtain ⟨q70, q71, q72, q73, q74, q75⟩ := S7
    have hz7 : w6.heap.size + 1 ≤ w7.heap.size := (by have := hb7.size; simp at this; omega)
    clear S6 T0 T1 T2 T3 T4 T5
    go_wp2
    go_ret
    have B1 : Below w.heap.size w w1 := (((Below.refl _ _).alloc (Nat.le_refl _) _).alloc (by simp) _).trans (hb1.mono (by simp; omega))
    have B4 : Below w.heap.size w w4 := ((B1.trans (hb2.mono (by omega))).trans (hb3.mono (by omega))).trans (hb4.mono (by omega))
    have B6 : Below w.heap.size w w6 := (B4.alloc (by omega) _).trans (hb6.mono (by simp; omega))
    have B7 : Below w.heap.size w w7 := (B6.alloc (by omega) _).trans (hb7.mono (by simp; omega))
    exact ⟨rfl, B7⟩

set_option maxHeartbeats 1000000 in
theorem good_yes (a b c a' b' c' : Int) (s SA SB : ByteArray) (xa xb xc : Int) (w : World) (H1 : Stamps a b c SA 0) (H2 : Stamps a' b' c' SB 0) (H3 : Unstamps s xa xb xc 0) (H4 : Stamps xa xb xc s 0) (H5 : Unstamps SA a b c 0) (hsz : SA.size = 16) (hl : laterB a b c a' b' c' = Op.bytesLess SA.toList SB.toList) (y : Bool) (hy : (SA.toList == SB.toList) = y) (hp : Parts a b c a' b' c' y) :
    Calls Try.prog 4 #[.agg #[.int .i64 a, .int .i32 b, .int .i32 c], .agg #[.int .i64 a', .int .i32 b', .int .i32 c'], .string s] w fun e w' => e = .returned (.bool true) ∧ Below w.heap.size w w' := by
  rcases hp with ⟨h1, rfl⟩ | ⟨h1, h2, rfl⟩ | ⟨h1, h2, h3, rfl⟩ | ⟨h1, h2, h3, rfl⟩
  all_goals
    go_enter Try.func4, Try.ntmps4
    go_wp2_with (first
      | (go_at_call 9; refine (H1 _).mono ?_; rintro e w1 ⟨rfl, hb1⟩; have S1 := (six_new w a b c a' b' c').later hb1; have S1' := S1; obtain ⟨q10, q11, q12, q13, q14, q15⟩ := S1'; have hz1 : w.heap.size + 2 ≤ w1.heap.size := (by have := hb1.size; simp at this; omega); clear H1)
      | (go_at_call 9; refine (H2 _).mono ?_; rintro e w2 ⟨rfl, hb2⟩; have S2 := S1.later hb2; have S2' := S2; obtain ⟨q20, q21, q22, q23, q24, q25⟩ := S2'; have hz2 := hb2.size; clear H2)
      | (go_at_call 7; refine (lives_any _).mono ?_; rintro e w3 ⟨rfl, hb3⟩; have S3 := S2.later hb3; have S3' := S3; obtain ⟨q30, q31, q32, q33, q34, q35⟩ := S3'; have hz3 := hb3.size)
      | (go_at_call 10; refine (H3 _).mono ?_; rintro e w4 ⟨rfl, hb4⟩; have S4 := S3.later hb4; have S4' := S4; obtain ⟨q40, q41, q42, q43, q44, q45⟩ := S4'; have hz4 := hb4.size; clear H3)
      | (go_at_call 9; refine (H4 _).mono ?_; rintro e w5 ⟨rfl, hb5⟩; have S5 := (S4.alloc _).later hb5; have S5' := S5; obtain ⟨q50, q51, q52, q53, q54, q55⟩ := S5'; have hz5 : w4.heap.size + 1 ≤ w5.heap.size := (by have := hb5.size; simp at this; omega); clear H4)
      | (go_at_call 10; refine (H5 _).mono ?_; rintro e w6 ⟨rfl, hb6⟩; have S6 := S5.later hb6; have S6' := S6; obtain ⟨q60, q61, q62, q63, q64, q65⟩ := S6'; have T0 := fun o => (S6.alloc o).c0; have T1 := fun o => (S6.alloc o).c1; have T2 := fun o => (S6.alloc o).c2; have T3 := fun o => (S6.alloc o).d0; have T4 := fun o => (S6.alloc o).d1; have T5 := fun o => (S6.alloc o).d2; have hz6 : w5.heap.size ≤ w6.heap.size := (by have := hb6.size; (try simp at this); omega); clear H5))
    refine (later_any _ _ _ _ _ _ _).mono ?_
    rintro e w7 ⟨rfl, hb7⟩
    have S7 := (S6.alloc (.cells #[.int .i64 a, .int .i32 b, .int .i32 c] 29)).later hb7
    obtain ⟨q70, q71, q72, q73, q74, q75⟩ := S7
    have hz7 : w6.heap.size + 1 ≤ w7.heap.size := (by have := hb7.size; simp at this; omega)
    clear S6 T0 T1 T2 T3 T4 T5
    go_wp2
    go_ret
    have B1 : Below w.heap.size w w1 := (((Below.refl _ _).alloc (Nat.le_refl _) _).alloc (by simp) _).trans (hb1.mono (by simp; omega))
    have B4 : Below w.heap.size w w4 := ((B1.trans (hb2.mono (by omega))).trans (hb3.mono (by omega))).trans (hb4.mono (by omega))
    have B5 : Below w.heap.size w w5 := (B4.alloc (by omega) _).trans (hb5.mono (by simp; omega))
    have B6 : Below w.heap.size w w6 := B5.trans (hb6.mono (by omega))
    have B7 : Below w.heap.size w w7 := (B6.alloc (by omega) _).trans (hb7.mono (by simp; omega))
    exact ⟨rfl, B7⟩

theorem stamps_of (a b c : Int) : Stamps a b c (stS a b c) (stE a b c) := fun w => stamp_any w a b c
theorem unstamps_of (s : ByteArray) : Unstamps s (uA s.data.toList) (uB s.data.toList) (uC s.data.toList) (uE s.data.toList) := fun w => unstamp_any w s

theorem walk (a b c a' b' c' : Int) (s : ByteArray) (w : World) :
    Calls Try.prog 4 #[.agg #[.int .i64 a, .int .i32 b, .int .i32 c], .agg #[.int .i64 a', .int .i32 b', .int .i32 c'], .string s] w fun e w' => e = .returned (.bool true) ∧ Below w.heap.size w w' := by
  have H1 := stamps_of a b c
  have H2 := stamps_of a' b' c'
  have H3 := unstamps_of s
  have h4 : uOk s.data.toList = true → Stamps (uA s.data.toList) (uB s.data.toList) (uC s.data.toList) s 0 := fun ok => by
    obtain ⟨hm, hb⟩ := forth _ ok
    have := stamps_of (uA s.data.toList) (uB s.data.toList) (uC s.data.toList)
    have e1 : stS (uA s.data.toList) (uB s.data.toList) (uC s.data.toList) = s := by unfold stS; rw [if_pos hm, hb]
    have e2 : stE (uA s.data.toList) (uB s.data.toList) (uC s.data.toList) = 0 := by unfold stE; rw [if_pos hm]
    rwa [e1, e2] at this
  by_cases hm : mayS a b c = true ∧ mayS a' b' c' = true
  · obtain ⟨m1, m2⟩ := hm
    have e1 : stE a b c = 0 := by unfold stE; rw [if_pos m1]
    have e2 : stE a' b' c' = 0 := by unfold stE; rw [if_pos m2]
    have s1 : stS a b c = ⟨(stB a b c).toArray⟩ := by unfold stS; rw [if_pos m1]
    have s2 : stS a' b' c' = ⟨(stB a' b' c').toArray⟩ := by unfold stS; rw [if_pos m2]
    have t1 : (stS a b c).toList = stB a b c := by rw [s1, ByteArray.toList_eq]
    have t2 : (stS a' b' c').toList = stB a' b' c' := by rw [s2, ByteArray.toList_eq]
    have H5 : Unstamps (stS a b c) a b c 0 := by
      have h := unstamps_of (stS a b c)
      obtain ⟨ok, x1, x2, x3⟩ := back a b c m1
      have d : (stS a b c).data.toList = stB a b c := by rw [s1]
      have x4 : uE (stB a b c) = 0 := by unfold uE; rw [if_pos ok]
      rwa [d, x1, x2, x3, x4] at h
    rw [e1] at H1
    rw [e2] at H2
    have hsz : (stS a b c).size = 16 := by rw [s1]; show (stB a b c).toArray.size = 16; rw [List.size_toArray, stB_length]
    have hl : laterB a b c a' b' c' = Op.bytesLess (stS a b c).toList (stS a' b' c').toList := by rw [t1, t2, st_less a b c a' b' c' m1 m2]
    have hp : Parts a b c a' b' c' ((stS a b c).toList == (stS a' b' c').toList) := by
      rw [t1, t2]
      by_cases k1 : a = a'
      · by_cases k2 : b = b'
        · by_cases k3 : c = c'
          · subst k1; subst k2; subst k3
            exact .inr (.inr (.inr ⟨by simp, by simp, by simp, by simp⟩))
          · refine .inr (.inr (.inl ⟨by simpa using k1, by simpa using k2, by simpa using k3, ?_⟩))
            rw [beq_eq_false_iff_ne]; intro h; exact k3 (st_inj _ _ _ _ _ _ m1 m2 h).2.2
        · refine .inr (.inl ⟨by simpa using k1, by simpa using k2, ?_⟩)
          rw [beq_eq_false_iff_ne]; intro h; exact k2 (st_inj _ _ _ _ _ _ m1 m2 h).2.1
      · refine .inl ⟨by simpa using k1, ?_⟩
        rw [beq_eq_false_iff_ne]; intro h; exact k1 (st_inj _ _ _ _ _ _ m1 m2 h).1
    cases ok : uOk s.data.toList
    · have g : uE s.data.toList = 5 := by unfold uE; rw [ok]; rfl
      rw [g] at H3
      exact good_no a b c a' b' c' s _ _ _ _ _ w H1 H2 H3 H5 hsz hl _ rfl hp
    · have g : uE s.data.toList = 0 := by unfold uE; rw [ok]; rfl
      rw [g] at H3
      exact good_yes a b c a' b' c' s _ _ _ _ _ w H1 H2 H3 (h4 ok) H5 hsz hl _ rfl hp
  · have hbad : (stE a b c != 0) = true ∨ (stE a b c = 0 ∧ (stE a' b' c' != 0) = true) := by
      by_cases m1 : mayS a b c = true
      · right
        have m2 : ¬ mayS a' b' c' = true := fun h => hm ⟨m1, h⟩
        exact ⟨by unfold stE; rw [if_pos m1], by unfold stE; rw [if_neg m2]; rfl⟩
      · left; unfold stE; rw [if_neg m1]; rfl
    cases ok : uOk s.data.toList
    · have g : uE s.data.toList = 5 := by unfold uE; rw [ok]; rfl
      rw [g] at H3
      exact bad_no a b c a' b' c' s _ _ _ _ _ _ _ w H1 H2 H3 hbad
    · have g : uE s.data.toList = 0 := by unfold uE; rw [ok]; rfl
      rw [g] at H3
      exact bad_yes a b c a' b' c' s _ _ _ _ _ _ _ w H1 H2 H3 (h4 ok) hbad

theorem laidOut : laidOutB Try.prog = true := by kernel_rfl
theorem cellsS : Try.prog.cellsOf 29 = 3 := by kernel_rfl

set_option maxRecDepth 100000 in
theorem lifted (os : Os) (started : os.Started) (H : Type) (enc : TypeId × Value → H) :
    ReturnsInHanded {} Try.checked os 4 .any (Rows.encStampsSpec.pre6 enc Try.prog Try.f4 Rows.encStampsRow.domain false) (Rows.encStampsSpec.post enc Try.prog Try.f4 false true false false) := by
  refine returnsInHanded_of_change (C := Try.checked) own started (by kernel_rfl) Try.func4
    (ChangeSpec.witness6 (enc := enc) (C := Try.checked) false ⟨#[], #[.agg #[.int .i64 0, .int .i32 0, .int .i32 0], .agg #[.int .i64 0, .int .i32 0, .int .i32 0], .string ByteArray.empty], []⟩ 8 (by kernel_rfl) (by kernel_rfl) (by kernel_rfl) (by kernel_rfl)) ?_
  intro W base args ds gs before hval0 hW hcnd _
  have hval : ∀ (j : Nat) t v, Try.f4.params[j]? = some t → args[j]? = some v → Value.okWide Try.prog W .any base t v := hval0
  have hW' := hW
  obtain ⟨p, q, hA0, hV, rfl, hfz, hnd⟩ := hW
  have hA : DataW.TrodAll enc Try.prog W 0 (fun _ => true) true Try.f4.params.toList args.toList ds p := hA0
  rw [Try.params4] at hA hval
  obtain ⟨v0, vs0, d0, ds0, p0, q0, hargs, rfl, rfl, h0, r0⟩ := trodAll_cons hA
  obtain ⟨v1, vs1, d1, ds1, p1, q1, rfl, rfl, rfl, h1, r1⟩ := trodAll_cons r0
  obtain ⟨v2, vs2, d2, ds2, p2, q2, rfl, rfl, rfl, h2, r2⟩ := trodAll_cons r1
  obtain ⟨rfl, rfl, rfl⟩ := trodAll_nil r2
  obtain rfl : args = #[v0, v1, v2] := by cases args; simp_all
  obtain ⟨rfl, rfl⟩ := trodVars_none hV
  have k0 := h0
  have k1 := h1
  have k2 := h2
  have lt0 : ∀ x ∈ p0, x.block < W.heap.size := by obtain ⟨m, hm⟩ := k0; exact DataW.trod_lt m _ _ _ hm
  have lt1 : ∀ x ∈ p1, x.block < W.heap.size := by obtain ⟨m, hm⟩ := k1; exact DataW.trod_lt m _ _ _ hm
  have lt2 : ∀ x ∈ p2, x.block < W.heap.size := by obtain ⟨m, hm⟩ := k2; exact DataW.trod_lt m _ _ _ hm
  obtain ⟨a, b, c, rfl⟩ : ∃ a b c, v0 = .agg #[.int .i64 a, .int .i32 b, .int .i32 c] := by
    obtain ⟨c0, c1, c2, y0, y1, y2, m, rfl, _, _, hy0, hy1, hy2⟩ := Joins.open_agg3 Try.underlying29 (by kernel_rfl) cellsS (hval 0 29 v0 rfl rfl) h0
    obtain ⟨a, e0, _, _⟩ := DataW.trod_int Try.underlying2 hy0
    obtain ⟨b, e1, _, _⟩ := DataW.trod_int Try.underlying21 hy1
    obtain ⟨c, e2, _, _⟩ := DataW.trod_int Try.underlying21 hy2
    simp at e0 e1 e2
    subst e0 e1 e2
    exact ⟨a, b, c, rfl⟩
  obtain ⟨a', b', c', rfl⟩ : ∃ a b c, v1 = .agg #[.int .i64 a, .int .i32 b, .int .i32 c] := by
    obtain ⟨c0, c1, c2, y0, y1, y2, m, rfl, _, _, hy0, hy1, hy2⟩ := Joins.open_agg3 Try.underlying29 (by kernel_rfl) cellsS (hval 1 29 v1 rfl rfl) h1
    obtain ⟨a, e0, _, _⟩ := DataW.trod_int Try.underlying2 hy0
    obtain ⟨b, e1, _, _⟩ := DataW.trod_int Try.underlying21 hy1
    obtain ⟨c, e2, _, _⟩ := DataW.trod_int Try.underlying21 hy2
    simp at e0 e1 e2
    subst e0 e1 e2
    exact ⟨a, b, c, rfl⟩
  obtain ⟨s, rfl⟩ : ∃ s, v2 = .string s := by
    obtain ⟨s, hs, _⟩ := open_string Try.underlying9 (hval 2 9 v2 rfl rfl) h2
    exact ⟨s, hs⟩
  clear hA0 hval0
  refine (walk a b c a' b' c' s W).mono fun e W' ⟨he, bel⟩ => ?_
  subst he
  exact ⟨_, rfl, _, _, _, [], _, [], hW', trodAll_mk1 (shut_bool Try.underlying4 _), (trodAll_cons_mk (Below.trod laidOut (by kernel_rfl) (of_decide_eq_true (by kernel_rfl)) k0 bel lt0) (trodAll_cons_mk (Below.trod laidOut (by kernel_rfl) (of_decide_eq_true (by kernel_rfl)) k1 bel lt1) (trodAll_cons_mk (Below.trod laidOut (by kernel_rfl) (of_decide_eq_true (by kernel_rfl)) k2 bel lt2) trodAll_mk0))), rfl, bel.frame _, fun h => by cases h⟩

theorem over : Rows.encStampsRow.holds Try.pinned (OpenSpec.ofChange Rows.encStampsSpec) :=
  OpenClaim.holds_of_wide 4 Try.f4 rfl rfl rfl rfl rfl rfl rfl ⟨rfl, rfl, rfl, rfl, rfl⟩ rfl rfl rfl rfl rfl (by kernel_rfl) Try.func4 (by kernel_rfl)
    (of_decide_eq_true (by kernel_rfl)) (by unfold Func.isWrapper; first | (rw [if_pos (by decide +kernel)]; kernel_rfl) | (rw [if_neg (by decide +kernel)]; exact ⟨rfl, rfl⟩))
    (fun os started H enc _ => lifted os started H enc)
end Go.Proofs.Ytbcbdaaaglkjhab.encStamps

namespace Go.Proofs.Ytbcbdaaaglkjhab
/-- THE STATEMENT. -/
theorem encStamps_holds : Rows.EncStampsSaid := encStamps.over
#print axioms encStamps_holds
end Go.Proofs.Ytbcbdaaaglkjhab
