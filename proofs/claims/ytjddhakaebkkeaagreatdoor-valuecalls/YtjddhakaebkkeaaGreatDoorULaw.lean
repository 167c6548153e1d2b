/-
  The statements' own small questions: does an operation of two come to a value, does it have an error, do some examples hold?
-/
import Derived.Test.YtjddhakaebkkeaaGreatDoorUDo3
namespace Go.Proofs.YtjddhakaebkkeaaGreatDoor
open Go.RowKit
attribute [local go_sem ↓] Go.wp_at_zero Go.wp_at_succ

theorem lnumber_any (w : World) (n : Int) : Calls Tryz.prog 18 #[.int .i64 n] w fun e w' => e = .returned (.agg #[.int .u8 2, .int .i64 n, .string ⟨#[]⟩]) ∧ w' = w.alloc (.cells #[.int .u8 2, .int .i64 n, .string ⟨#[]⟩] 29) := by
  go_enter Tryz.func18, Tryz.ntmps18
  go_wp2
  refine bodyPost_ret (v := .agg #[.int .u8 2, .int .i64 n, .string ⟨#[]⟩]) (by simp [results, Tryz.results18, go_sem]; try rfl) rfl ⟨rfl, ?_⟩
  rfl
theorem ltruth_any (w : World) (b : Bool) : Calls Tryz.prog 19 #[.bool b] w fun e w' => e = .returned (.agg #[.int .u8 1, .int .i64 (if b then 1 else 0), .string ⟨#[]⟩]) ∧ w' = w.alloc (.cells #[.int .u8 1, .int .i64 (if b then 1 else 0), .string ⟨#[]⟩] 29) := by
  cases b
  all_goals
    go_enter Tryz.func19, Tryz.ntmps19
    go_wp2
  · refine bodyPost_ret (v := .agg #[.int .u8 1, .int .i64 0, .string ⟨#[]⟩]) (by simp [results, Tryz.results19, go_sem]; try rfl) rfl ⟨rfl, ?_⟩
    rfl
  · refine bodyPost_ret (v := .agg #[.int .u8 1, .int .i64 1, .string ⟨#[]⟩]) (by simp [results, Tryz.results19, go_sem]; try rfl) rfl ⟨rfl, ?_⟩
    rfl
theorem two_in (w : World) (a b : Val) (ha : a.wf) (hb : b.wf) {B : Nat} (hB : B = w.heap.size) : ValsIn (w.alloc (.cells #[.int .u8 a.k, .int .i64 a.n, .string a.t, .int .u8 b.k, .int .i64 b.n, .string b.t] 29)) (.slice (some ⟨B, 0, none⟩) 2 2) [a, b] := by
  subst hB
  refine ⟨⟨_, 2, rfl, fun _ => ⟨_, _, rfl, ?_⟩⟩, ?_, by simp⟩
  · intro j hj
    have e : j = 0 ∨ j = 1 := by simp at hj; omega
    rcases e with rfl | rfl <;> simp [go_sem]
  · intro v hv
    simp at hv
    rcases hv with rfl | rfl <;> assumption

theorem ahead_at {w w2 : World} {x y z : Value} {t : TypeId} {o : Obj} {B : Nat} (hB : B = w.heap.size) (hb : Below ((w.alloc (.cells #[x, y, z] t)).alloc o).heap.size ((w.alloc (.cells #[x, y, z] t)).alloc o) w2) :
    w2.cell? ⟨B, 0, none⟩ = some x ∧ w2.cell? ⟨B, 1, none⟩ = some y ∧ w2.cell? ⟨B, 2, none⟩ = some z ∧ B < w2.heap.size := by
  subst hB
  obtain ⟨h0, h1, h2⟩ := ahead_slot hb
  exact ⟨h0, h1, h2, World.block_lt_of_cell? w2 _ h0⟩

/-- Does an operation of two come to a value? Does it have an error? -/
def isB (op : Int) (a b x : Val) : Bool := ((doR op [a, b]).2 == 0) && sameV (doR op [a, b]).1 x
def failsB (op : Int) (a b : Val) (e : Int) : Bool := ((doR op [a, b]).2 == e) && sameV (doR op [a, b]).1 nullV

set_option maxHeartbeats 1600000 in
theorem is_any (w : World) (op : Int) (a b x : Val) (ha : a.wf) (hb : b.wf) :
    Calls Tryz.prog 17 #[.int .u8 op, .agg #[.int .u8 a.k, .int .i64 a.n, .string a.t], .agg #[.int .u8 b.k, .int .i64 b.n, .string b.t], .agg #[.int .u8 x.k, .int .i64 x.n, .string x.t]] w fun e w' => e = .returned (.bool (isB op a b x)) ∧ Below w.heap.size w w' := by
  obtain ⟨R, hR⟩ : ∃ R, R = doR op [a, b] := ⟨_, rfl⟩
  have CD : Hid (∀ (wx : World) (v : Value), ValsIn wx v [a, b] → Calls Tryz.prog 6 #[.int .u8 op, v] wx fun e w' => e = .returned (tupR R) ∧ Below wx.heap.size wx w') := fun wx v h => by rw [hR]; exact do_any wx op v _ h
  have HB : Hid (isB op a b x = ((R.2 == 0) && sameV R.1 x)) := by show _ = _; rw [hR]; rfl
  clear hR
  obtain ⟨⟨rk, rn, rt⟩, re⟩ := R
  have V := hide (two_in (((w.alloc (.cells #[.int .u8 a.k, .int .i64 a.n, .string a.t] 29)).alloc (.cells #[.int .u8 b.k, .int .i64 b.n, .string b.t] 29)).alloc (.cells #[.int .u8 x.k, .int .i64 x.n, .string x.t] 29)) a b ha hb (B := w.heap.size + 1 + 1 + 1) (by simp))
  have B0 := (((((Below.refl w.heap.size w).alloc (Nat.le_refl _) (.cells #[.int .u8 a.k, .int .i64 a.n, .string a.t] 29)).alloc (by simp) (.cells #[.int .u8 b.k, .int .i64 b.n, .string b.t] 29)).alloc (by simp; omega) (.cells #[.int .u8 x.k, .int .i64 x.n, .string x.t] 29)).alloc (by simp; omega) (.cells #[.int .u8 a.k, .int .i64 a.n, .string a.t, .int .u8 b.k, .int .i64 b.n, .string b.t] 29))
  obtain ⟨xk, xn, xt⟩ := x
  have EQ := eql_val rk rn rt xk xn xt
  obtain ⟨S, hS⟩ : ∃ S, S = sameV ⟨rk, rn, rt⟩ ⟨xk, xn, xt⟩ := ⟨_, rfl⟩
  rw [← hS] at EQ
  have HB2 : Hid (isB op a b ⟨xk, xn, xt⟩ = ((re == 0) && S)) := by show _ = _; rw [HB.out, hS]
  clear HB hS ha hb
  by_cases h0 : re = 0
  · subst h0
    have HR : Hid (isB op a b ⟨xk, xn, xt⟩ = S) := by show _ = _; rw [HB2.out]; simp
    clear HB2
    go_enter Tryz.func17, Tryz.ntmps17
    go_wp2_with (go_at_call 6; refine (CD.out _ _ V.out).mono ?_; rintro e w2 ⟨rfl, hb2⟩; obtain ⟨s0, s1, s2, s3⟩ := ahead_at (B := w.heap.size + 1 + 1) (by simp) hb2; have B2 := B0.trans (hb2.mono B0.size))
    go_ret
    exact ⟨by rw [HR.out]; rfl, B2.alloc B2.size _⟩
  · have HR : Hid (isB op a b ⟨xk, xn, xt⟩ = false) := by
      show _ = _
      have : (re == 0) = false := by simpa using h0
      rw [HB2.out, this]; rfl
    have hz : (re == 0) = false := by simpa using h0
    clear HB2 h0
    go_enter Tryz.func17, Tryz.ntmps17
    go_wp2_with (go_at_call 6; refine (CD.out _ _ V.out).mono ?_; rintro e w2 ⟨rfl, hb2⟩; obtain ⟨s0, s1, s2, s3⟩ := ahead_at (B := w.heap.size + 1 + 1) (by simp) hb2; have B2 := B0.trans (hb2.mono B0.size))
    go_ret
    exact ⟨by rw [HR.out]; rfl, B2.alloc B2.size _⟩

set_option maxHeartbeats 1600000 in
theorem fails_any (w : World) (op : Int) (a b : Val) (x : Int) (ha : a.wf) (hb : b.wf) :
    Calls Tryz.prog 20 #[.int .u8 op, .agg #[.int .u8 a.k, .int .i64 a.n, .string a.t], .agg #[.int .u8 b.k, .int .i64 b.n, .string b.t], .int .i64 x] w fun e w' => e = .returned (.bool (failsB op a b x)) ∧ Below w.heap.size w w' := by
  obtain ⟨R, hR⟩ : ∃ R, R = doR op [a, b] := ⟨_, rfl⟩
  have CD : Hid (∀ (wx : World) (v : Value), ValsIn wx v [a, b] → Calls Tryz.prog 6 #[.int .u8 op, v] wx fun e w' => e = .returned (tupR R) ∧ Below wx.heap.size wx w') := fun wx v h => by rw [hR]; exact do_any wx op v _ h
  have HB : Hid (failsB op a b x = ((R.2 == x) && sameV R.1 nullV)) := by show _ = _; rw [hR]; rfl
  clear hR
  obtain ⟨⟨rk, rn, rt⟩, re⟩ := R
  have V := hide (two_in ((w.alloc (.cells #[.int .u8 a.k, .int .i64 a.n, .string a.t] 29)).alloc (.cells #[.int .u8 b.k, .int .i64 b.n, .string b.t] 29)) a b ha hb (B := w.heap.size + 1 + 1) (by simp))
  have B0 := ((((Below.refl w.heap.size w).alloc (Nat.le_refl _) (.cells #[.int .u8 a.k, .int .i64 a.n, .string a.t] 29)).alloc (by simp) (.cells #[.int .u8 b.k, .int .i64 b.n, .string b.t] 29)).alloc (by simp; omega) (.cells #[.int .u8 a.k, .int .i64 a.n, .string a.t, .int .u8 b.k, .int .i64 b.n, .string b.t] 29))
  have EQ := eql_val rk rn rt 0 0 ⟨#[]⟩
  obtain ⟨S, hS⟩ : ∃ S, S = sameV ⟨rk, rn, rt⟩ ⟨0, 0, ⟨#[]⟩⟩ := ⟨_, rfl⟩
  rw [← hS] at EQ
  have HB2 : Hid (failsB op a b x = ((re == x) && S)) := by show _ = _; rw [HB.out, hS]; rfl
  clear HB hS ha hb
  cases h0 : (re == x)
  · have HR : Hid (failsB op a b x = false) := by show _ = _; rw [HB2.out, h0]; rfl
    clear HB2
    go_enter Tryz.func20, Tryz.ntmps20
    go_wp2_with (go_at_call 6; refine (CD.out _ _ V.out).mono ?_; rintro e w2 ⟨rfl, hb2⟩; have B2 := B0.trans (hb2.mono B0.size))
    go_ret
    exact ⟨by rw [HR.out]; rfl, B2.alloc B2.size _⟩
  · have HR : Hid (failsB op a b x = S) := by show _ = _; rw [HB2.out, h0]; simp
    clear HB2
    go_enter Tryz.func20, Tryz.ntmps20
    go_wp2_with (go_at_call 6; refine (CD.out _ _ V.out).mono ?_; rintro e w2 ⟨rfl, hb2⟩; have B2 := B0.trans (hb2.mono B0.size))
    go_ret
    exact ⟨by rw [HR.out]; rfl, B2.alloc B2.size _⟩

theorem numV_wf {n : Int} (h : I64 n) : (numV n).wf := ⟨(by decide : (0 : Int) ≤ 2), (by decide : (2 : Int) ≤ 255), h.lo, h.hi, (by decide : (⟨#[]⟩ : ByteArray).size ≤ maxLen)⟩
theorem nullV_wf : nullV.wf := ⟨by decide, by decide, by decide, by decide, by decide⟩
theorem tv_wf (b : Bool) : (tv b).wf := by cases b <;> exact ⟨by decide, by decide, by decide, by decide, by decide⟩

theorem live1 : isB 6 (numV (-7)) (numV 2) (numV (-3)) = true := by decide +kernel
theorem live2 : isB 15 nullV (tv false) (tv false) = true := by decide +kernel
theorem live3 : failsB 6 (numV 1) (numV 0) 222 = true := by decide +kernel

set_option maxHeartbeats 1600000 in
theorem lives_any (w : World) : Calls Tryz.prog 4 #[] w fun e w' => e = .returned (.bool true) ∧ Below w.heap.size w w' := by
  have I1 : Hid (∀ wx : World, Calls Tryz.prog 17 #[.int .u8 6, .agg #[.int .u8 2, .int .i64 (-7), .string ⟨#[]⟩], .agg #[.int .u8 2, .int .i64 2, .string ⟨#[]⟩], .agg #[.int .u8 2, .int .i64 (-3), .string ⟨#[]⟩]] wx fun e w' => e = .returned (.bool true) ∧ Below wx.heap.size wx w') := fun wx => by
    have := is_any wx 6 (numV (-7)) (numV 2) (numV (-3)) (numV_wf ⟨by decide, by decide⟩) (numV_wf ⟨by decide, by decide⟩)
    rw [live1] at this; exact this
  have I2 : Hid (∀ wx : World, Calls Tryz.prog 17 #[.int .u8 15, .agg #[.int .u8 0, .int .i64 0, .string ⟨#[]⟩], .agg #[.int .u8 1, .int .i64 0, .string ⟨#[]⟩], .agg #[.int .u8 1, .int .i64 0, .string ⟨#[]⟩]] wx fun e w' => e = .returned (.bool true) ∧ Below wx.heap.size wx w') := fun wx => by
    have := is_any wx 15 nullV (tv false) (tv false) nullV_wf (tv_wf _)
    rw [live2] at this; exact this
  have I3 : Hid (∀ wx : World, Calls Tryz.prog 20 #[.int .u8 6, .agg #[.int .u8 2, .int .i64 1, .string ⟨#[]⟩], .agg #[.int .u8 2, .int .i64 0, .string ⟨#[]⟩], .int .i64 222] wx fun e w' => e = .returned (.bool true) ∧ Below wx.heap.size wx w') := fun wx => by
    have := fails_any wx 6 (numV 1) (numV 0) 222 (numV_wf ⟨by decide, by decide⟩) (numV_wf ⟨by decide, by decide⟩)
    rw [live3] at this; exact this
  have T0 : Hid True := trivial
  have B0 : Below w.heap.size w w := Below.refl _ _
  go_enter Tryz.func4, Tryz.ntmps4
  go_wp2_with (first
    | (go_at_call 18; refine (lnumber_any _ _).mono ?_; rintro e wx ⟨rfl, hw⟩; replace B0 := B0.trans ((below_one hw).mono B0.size); clear hw)
    | (go_at_call 19; refine (ltruth_any _ _).mono ?_; rintro e wx ⟨rfl, hw⟩; replace B0 := B0.trans ((below_one hw).mono B0.size); clear hw)
    | (go_at_call 17; have tk := T0; refine (I1.out _).mono ?_; rintro e wx ⟨rfl, hw⟩; replace B0 := B0.trans (hw.mono B0.size); clear hw tk T0)
    | (go_at_call 17; refine (I2.out _).mono ?_; rintro e wx ⟨rfl, hw⟩; replace B0 := B0.trans (hw.mono B0.size); clear hw)
    | (go_at_call 20; refine (I3.out _).mono ?_; rintro e wx ⟨rfl, hw⟩; replace B0 := B0.trans (hw.mono B0.size); clear hw))
  go_ret
  exact ⟨rfl, B0⟩
end Go.Proofs.YtjddhakaebkkeaaGreatDoor
