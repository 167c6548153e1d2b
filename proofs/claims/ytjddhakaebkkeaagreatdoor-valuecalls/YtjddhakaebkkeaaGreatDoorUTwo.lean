/-
  What an operation of two values that go with it makes of them; what decides of two Bools; why an operation is refused.
-/
import Derived.Test.YtjddhakaebkkeaaGreatDoorURefuse
import Derived.Test.YtjddhakaebkkeaaGreatDoorUArith
namespace Go.Proofs.YtjddhakaebkkeaaGreatDoor
open Go.RowKit
attribute [local go_sem ↓] Go.wp_at_zero Go.wp_at_succ

/-- What an operation of two values that go with it makes of them, neither Null. -/
def twoR (op : Int) (a b : Val) : Val × Int :=
  if op = 3 then fitR (a.n + b.n) else if op = 4 then fitR (a.n - b.n) else if op = 5 then fitR (a.n * b.n) else if op = 6 then divR a.n b.n else if op = 7 then modR a.n b.n else if op = 8 then joinR a.t b.t else (tv (holdsB op (cmpV a b)), 0)

theorem Val.wf.i {v : Val} (h : v.wf) : I64 v.n := ⟨h.n0, h.n1⟩

theorem one_in (w : World) (v : Val) (hv : v.wf) {B : Nat} (hB : B = w.heap.size) : ValsIn (w.alloc (.cells #[.int .u8 v.k, .int .i64 v.n, .string v.t] 29)) (.slice (some ⟨B, 0, none⟩) 1 1) [v] := by
  subst hB
  refine ⟨⟨_, 1, rfl, fun _ => ⟨_, _, rfl, ?_⟩⟩, by simpa using hv, by simp⟩
  intro j hj
  have e : j = 0 := by simp at hj; omega
  subst e
  simp [go_sem]
/-- What is held of a call's own block of three cells behind another call. -/
theorem three_slot {w w2 : World} {x y z : Value} {t : TypeId} {B : Nat} (hB : B = w.heap.size) (hb : Below (w.alloc (.cells #[x, y, z] t)).heap.size (w.alloc (.cells #[x, y, z] t)) w2) :
    w2.cell? ⟨B, 0, none⟩ = some x ∧ w2.cell? ⟨B, 1, none⟩ = some y ∧ w2.cell? ⟨B, 2, none⟩ = some z ∧ w2.frozen? ⟨B, 0, none⟩ = false ∧ w2.frozen? ⟨B, 1, none⟩ = false ∧ w2.frozen? ⟨B, 2, none⟩ = false ∧ B < w2.heap.size := by
  subst hB
  refine ⟨(hb.cell (p := ⟨w.heap.size, 0, none⟩) (by simp)).trans (by simp), (hb.cell (p := ⟨w.heap.size, 1, none⟩) (by simp)).trans (by simp), (hb.cell (p := ⟨w.heap.size, 2, none⟩) (by simp)).trans (by simp), (hb.frozen (p := ⟨w.heap.size, 0, none⟩) (by simp)).trans (by simp), (hb.frozen (p := ⟨w.heap.size, 1, none⟩) (by simp)).trans (by simp), (hb.frozen (p := ⟨w.heap.size, 2, none⟩) (by simp)).trans (by simp), ?_⟩
  have := hb.size
  simp at this; omega
theorem below_two {W w2 : World} {o o' : Obj} (h : Below ((W.alloc o).alloc o').heap.size ((W.alloc o).alloc o') w2) : Below W.heap.size W w2 :=
  (((Below.refl _ _).alloc (Nat.le_refl _) o).alloc (by simp) o').trans (h.mono (by simp; omega))
theorem cmpL_one (a b : Val) : cmpL [a] [b] = cmpV a b := by
  rw [cmpL]
  split
  · next h => rw [h]; rfl
  · rfl

set_option maxHeartbeats 1600000 in
theorem two_sum (w : World) (a b : Val) (ha : a.wf) (hb : b.wf) :
    Calls Tryz.prog 27 #[.int .u8 3, .agg #[.int .u8 a.k, .int .i64 a.n, .string a.t], .agg #[.int .u8 b.k, .int .i64 b.n, .string b.t]] w fun e w' => e = .returned (tupR (twoR 3 a b)) ∧ Below w.heap.size w w' := by
  have e0 : twoR 3 a b = fitR (a.n + b.n) := rfl
  rw [e0]
  obtain ⟨R, hR⟩ : ∃ R, R = fitR (a.n + b.n) := ⟨_, rfl⟩
  have C : Hid (∀ wx, Calls Tryz.prog 51 #[.int .i64 a.n, .int .i64 b.n] wx fun e w' => e = .returned (tupR R) ∧ Below wx.heap.size wx w') := fun wx => by rw [hR]; exact sum_any wx a.n b.n ha.i hb.i
  rw [← hR]
  clear hR ha hb e0
  obtain ⟨ak, an, at'⟩ := a
  obtain ⟨bk, bn, bt⟩ := b
  obtain ⟨⟨rk, rn, rt⟩, re⟩ := R
  go_enter Tryz.func27, Tryz.ntmps27
  go_wp2_with (go_at_call 51; refine (C.out _).mono ?_; rintro e w2 ⟨rfl, hb2⟩; obtain ⟨q0, q1, q2, r0, r1, r2, r3⟩ := three_slot (B := w.heap.size + 1 + 1) (by simp) hb2)
  have B2 : Below w.heap.size w w2 := ((((Below.refl _ _).alloc (Nat.le_refl _) _).alloc (by simp) _).alloc (by simp; omega) _).trans (hb2.mono (by simp; omega))
  have le2 : w.heap.size ≤ w.heap.size + 1 + 1 := by omega
  refine bodyPost_ret (v := .tuple #[.agg #[.int .u8 rk, .int .i64 rn, .string rt], .int .i64 re]) (by simp [results, Tryz.results27, go_sem, q0, q1, q2]; try rfl) rfl ⟨rfl, ?_⟩
  exact ((B2.setCell le2 _).setCell le2 _).setCell le2 _

set_option maxHeartbeats 1600000 in
theorem two_difference (w : World) (a b : Val) (ha : a.wf) (hb : b.wf) :
    Calls Tryz.prog 27 #[.int .u8 4, .agg #[.int .u8 a.k, .int .i64 a.n, .string a.t], .agg #[.int .u8 b.k, .int .i64 b.n, .string b.t]] w fun e w' => e = .returned (tupR (twoR 4 a b)) ∧ Below w.heap.size w w' := by
  have e0 : twoR 4 a b = fitR (a.n - b.n) := rfl
  rw [e0]
  obtain ⟨R, hR⟩ : ∃ R, R = fitR (a.n - b.n) := ⟨_, rfl⟩
  have C : Hid (∀ wx, Calls Tryz.prog 26 #[.int .i64 a.n, .int .i64 b.n] wx fun e w' => e = .returned (tupR R) ∧ Below wx.heap.size wx w') := fun wx => by rw [hR]; exact difference_any wx a.n b.n ha.i hb.i
  rw [← hR]
  clear hR ha hb e0
  obtain ⟨ak, an, at'⟩ := a
  obtain ⟨bk, bn, bt⟩ := b
  obtain ⟨⟨rk, rn, rt⟩, re⟩ := R
  go_enter Tryz.func27, Tryz.ntmps27
  go_wp2_with (go_at_call 26; refine (C.out _).mono ?_; rintro e w2 ⟨rfl, hb2⟩; obtain ⟨q0, q1, q2, r0, r1, r2, r3⟩ := three_slot (B := w.heap.size + 1 + 1) (by simp) hb2)
  have B2 : Below w.heap.size w w2 := ((((Below.refl _ _).alloc (Nat.le_refl _) _).alloc (by simp) _).alloc (by simp; omega) _).trans (hb2.mono (by simp; omega))
  have le2 : w.heap.size ≤ w.heap.size + 1 + 1 := by omega
  refine bodyPost_ret (v := .tuple #[.agg #[.int .u8 rk, .int .i64 rn, .string rt], .int .i64 re]) (by simp [results, Tryz.results27, go_sem, q0, q1, q2]; try rfl) rfl ⟨rfl, ?_⟩
  exact ((B2.setCell le2 _).setCell le2 _).setCell le2 _

set_option maxHeartbeats 1600000 in
theorem two_product (w : World) (a b : Val) :
    Calls Tryz.prog 27 #[.int .u8 5, .agg #[.int .u8 a.k, .int .i64 a.n, .string a.t], .agg #[.int .u8 b.k, .int .i64 b.n, .string b.t]] w fun e w' => e = .returned (tupR (twoR 5 a b)) ∧ Below w.heap.size w w' := by
  have e0 : twoR 5 a b = fitR (a.n * b.n) := rfl
  rw [e0]
  obtain ⟨R, hR⟩ : ∃ R, R = fitR (a.n * b.n) := ⟨_, rfl⟩
  have C : Hid (∀ wx, Calls Tryz.prog 52 #[.int .i64 a.n, .int .i64 b.n] wx fun e w' => e = .returned (tupR R) ∧ Below wx.heap.size wx w') := fun wx => by rw [hR]; exact product_any wx a.n b.n
  rw [← hR]
  clear hR e0
  obtain ⟨ak, an, at'⟩ := a
  obtain ⟨bk, bn, bt⟩ := b
  obtain ⟨⟨rk, rn, rt⟩, re⟩ := R
  go_enter Tryz.func27, Tryz.ntmps27
  go_wp2_with (go_at_call 52; refine (C.out _).mono ?_; rintro e w2 ⟨rfl, hb2⟩; obtain ⟨q0, q1, q2, r0, r1, r2, r3⟩ := three_slot (B := w.heap.size + 1 + 1) (by simp) hb2)
  have B2 : Below w.heap.size w w2 := ((((Below.refl _ _).alloc (Nat.le_refl _) _).alloc (by simp) _).alloc (by simp; omega) _).trans (hb2.mono (by simp; omega))
  have le2 : w.heap.size ≤ w.heap.size + 1 + 1 := by omega
  refine bodyPost_ret (v := .tuple #[.agg #[.int .u8 rk, .int .i64 rn, .string rt], .int .i64 re]) (by simp [results, Tryz.results27, go_sem, q0, q1, q2]; try rfl) rfl ⟨rfl, ?_⟩
  exact ((B2.setCell le2 _).setCell le2 _).setCell le2 _

set_option maxHeartbeats 1600000 in
theorem two_quotient (w : World) (a b : Val) (ha : a.wf) :
    Calls Tryz.prog 27 #[.int .u8 6, .agg #[.int .u8 a.k, .int .i64 a.n, .string a.t], .agg #[.int .u8 b.k, .int .i64 b.n, .string b.t]] w fun e w' => e = .returned (tupR (twoR 6 a b)) ∧ Below w.heap.size w w' := by
  have e0 : twoR 6 a b = divR a.n b.n := rfl
  rw [e0]
  obtain ⟨R, hR⟩ : ∃ R, R = divR a.n b.n := ⟨_, rfl⟩
  have C : Hid (∀ wx, Calls Tryz.prog 53 #[.int .i64 a.n, .int .i64 b.n] wx fun e w' => e = .returned (tupR R) ∧ Below wx.heap.size wx w') := fun wx => by rw [hR]; exact quotient_any wx a.n b.n ha.i
  rw [← hR]
  clear hR ha e0
  obtain ⟨ak, an, at'⟩ := a
  obtain ⟨bk, bn, bt⟩ := b
  obtain ⟨⟨rk, rn, rt⟩, re⟩ := R
  go_enter Tryz.func27, Tryz.ntmps27
  go_wp2_with (go_at_call 53; refine (C.out _).mono ?_; rintro e w2 ⟨rfl, hb2⟩; obtain ⟨q0, q1, q2, r0, r1, r2, r3⟩ := three_slot (B := w.heap.size + 1 + 1) (by simp) hb2)
  have B2 : Below w.heap.size w w2 := ((((Below.refl _ _).alloc (Nat.le_refl _) _).alloc (by simp) _).alloc (by simp; omega) _).trans (hb2.mono (by simp; omega))
  have le2 : w.heap.size ≤ w.heap.size + 1 + 1 := by omega
  refine bodyPost_ret (v := .tuple #[.agg #[.int .u8 rk, .int .i64 rn, .string rt], .int .i64 re]) (by simp [results, Tryz.results27, go_sem, q0, q1, q2]; try rfl) rfl ⟨rfl, ?_⟩
  exact ((B2.setCell le2 _).setCell le2 _).setCell le2 _

set_option maxHeartbeats 1600000 in
theorem two_rest (w : World) (a b : Val) (ha : a.wf) :
    Calls Tryz.prog 27 #[.int .u8 7, .agg #[.int .u8 a.k, .int .i64 a.n, .string a.t], .agg #[.int .u8 b.k, .int .i64 b.n, .string b.t]] w fun e w' => e = .returned (tupR (twoR 7 a b)) ∧ Below w.heap.size w w' := by
  have e0 : twoR 7 a b = modR a.n b.n := rfl
  rw [e0]
  obtain ⟨R, hR⟩ : ∃ R, R = modR a.n b.n := ⟨_, rfl⟩
  have C : Hid (∀ wx, Calls Tryz.prog 54 #[.int .i64 a.n, .int .i64 b.n] wx fun e w' => e = .returned (tupR R) ∧ Below wx.heap.size wx w') := fun wx => by rw [hR]; exact rest_any wx a.n b.n ha.i
  rw [← hR]
  clear hR ha e0
  obtain ⟨ak, an, at'⟩ := a
  obtain ⟨bk, bn, bt⟩ := b
  obtain ⟨⟨rk, rn, rt⟩, re⟩ := R
  go_enter Tryz.func27, Tryz.ntmps27
  go_wp2_with (go_at_call 54; refine (C.out _).mono ?_; rintro e w2 ⟨rfl, hb2⟩; obtain ⟨q0, q1, q2, r0, r1, r2, r3⟩ := three_slot (B := w.heap.size + 1 + 1) (by simp) hb2)
  have B2 : Below w.heap.size w w2 := ((((Below.refl _ _).alloc (Nat.le_refl _) _).alloc (by simp) _).alloc (by simp; omega) _).trans (hb2.mono (by simp; omega))
  have le2 : w.heap.size ≤ w.heap.size + 1 + 1 := by omega
  refine bodyPost_ret (v := .tuple #[.agg #[.int .u8 rk, .int .i64 rn, .string rt], .int .i64 re]) (by simp [results, Tryz.results27, go_sem, q0, q1, q2]; try rfl) rfl ⟨rfl, ?_⟩
  exact ((B2.setCell le2 _).setCell le2 _).setCell le2 _

set_option maxHeartbeats 1600000 in
theorem two_joined (w : World) (a b : Val) (ha : a.t.size ≤ 1000) (hb : b.t.size ≤ 1000) :
    Calls Tryz.prog 27 #[.int .u8 8, .agg #[.int .u8 a.k, .int .i64 a.n, .string a.t], .agg #[.int .u8 b.k, .int .i64 b.n, .string b.t]] w fun e w' => e = .returned (tupR (twoR 8 a b)) ∧ Below w.heap.size w w' := by
  have e0 : twoR 8 a b = joinR a.t b.t := rfl
  rw [e0]
  obtain ⟨R, hR⟩ : ∃ R, R = joinR a.t b.t := ⟨_, rfl⟩
  have C : Hid (∀ wx, Calls Tryz.prog 55 #[.string a.t, .string b.t] wx fun e w' => e = .returned (tupR R) ∧ Below wx.heap.size wx w') := fun wx => by rw [hR]; exact joined_any wx a.t b.t ha hb
  rw [← hR]
  clear hR ha hb e0
  obtain ⟨ak, an, at'⟩ := a
  obtain ⟨bk, bn, bt⟩ := b
  obtain ⟨⟨rk, rn, rt⟩, re⟩ := R
  go_enter Tryz.func27, Tryz.ntmps27
  go_wp2_with (go_at_call 55; refine (C.out _).mono ?_; rintro e w2 ⟨rfl, hb2⟩; obtain ⟨q0, q1, q2, r0, r1, r2, r3⟩ := three_slot (B := w.heap.size + 1 + 1) (by simp) hb2)
  have B2 : Below w.heap.size w w2 := ((((Below.refl _ _).alloc (Nat.le_refl _) _).alloc (by simp) _).alloc (by simp; omega) _).trans (hb2.mono (by simp; omega))
  have le2 : w.heap.size ≤ w.heap.size + 1 + 1 := by omega
  refine bodyPost_ret (v := .tuple #[.agg #[.int .u8 rk, .int .i64 rn, .string rt], .int .i64 re]) (by simp [results, Tryz.results27, go_sem, q0, q1, q2]; try rfl) rfl ⟨rfl, ?_⟩
  exact ((B2.setCell le2 _).setCell le2 _).setCell le2 _

set_option maxHeartbeats 1600000 in
theorem two_compared (w : World) (op : Int) (a b : Val) (ha : a.wf) (hb : b.wf) (h : (op == 3) = false ∧ (op == 4) = false ∧ (op == 5) = false ∧ (op == 6) = false ∧ (op == 7) = false ∧ (op == 8) = false) :
    Calls Tryz.prog 27 #[.int .u8 op, .agg #[.int .u8 a.k, .int .i64 a.n, .string a.t], .agg #[.int .u8 b.k, .int .i64 b.n, .string b.t]] w fun e w' => e = .returned (tupR (twoR op a b)) ∧ Below w.heap.size w w' := by
  obtain ⟨h3, h4, h5, h6, h7, h8⟩ := h
  have e0 : twoR op a b = (tv (holdsB op (cmpV a b)), 0) := by
    simp only [beq_eq_false_iff_ne] at h3 h4 h5 h6 h7 h8
    unfold twoR
    rw [if_neg h3, if_neg h4, if_neg h5, if_neg h6, if_neg h7, if_neg h8]
  rw [e0]
  obtain ⟨c, hc⟩ : ∃ c, c = cmpV a b := ⟨_, rfl⟩
  have C : Hid (∀ (wx : World) v u, ValsIn wx v [a] → ValsIn wx u [b] → Calls Tryz.prog 57 #[v, u] wx fun e w' => e = .returned (.int .i64 c) ∧ Below wx.heap.size wx w') := fun wx v u h1 h2 => by rw [hc, ← cmpL_one]; exact compare_any wx v u _ _ h1 h2
  rw [← hc]
  obtain ⟨d, hd⟩ : ∃ d, d = holdsB op c := ⟨_, rfl⟩
  have H : Hid (∀ wx : World, Calls Tryz.prog 56 #[.int .u8 op, .int .i64 c] wx fun e w' => e = .returned (.bool d) ∧ w' = wx) := fun wx => by rw [hd]; exact holds_any wx op c
  rw [← hd]
  have Q1 : Hid (ValsIn (((((w.alloc (.cells #[.int .u8 a.k, .int .i64 a.n, .string a.t] 29)).alloc (.cells #[.int .u8 b.k, .int .i64 b.n, .string b.t] 29)).alloc (.cells #[.int .u8 0, .int .i64 0, .string ⟨#[]⟩] 29)).alloc (.cells #[.int .u8 a.k, .int .i64 a.n, .string a.t] 29)).alloc (.cells #[.int .u8 b.k, .int .i64 b.n, .string b.t] 29)) (.slice (some ⟨w.heap.size + 1 + 1 + 1, 0, none⟩) 1 1) [a]) :=
    (one_in (((w.alloc (.cells #[.int .u8 a.k, .int .i64 a.n, .string a.t] 29)).alloc (.cells #[.int .u8 b.k, .int .i64 b.n, .string b.t] 29)).alloc (.cells #[.int .u8 0, .int .i64 0, .string ⟨#[]⟩] 29)) a ha (by simp)).later ((Below.refl _ _).alloc (Nat.le_refl _) (.cells #[.int .u8 b.k, .int .i64 b.n, .string b.t] 29))
  have Q2 : Hid (ValsIn (((((w.alloc (.cells #[.int .u8 a.k, .int .i64 a.n, .string a.t] 29)).alloc (.cells #[.int .u8 b.k, .int .i64 b.n, .string b.t] 29)).alloc (.cells #[.int .u8 0, .int .i64 0, .string ⟨#[]⟩] 29)).alloc (.cells #[.int .u8 a.k, .int .i64 a.n, .string a.t] 29)).alloc (.cells #[.int .u8 b.k, .int .i64 b.n, .string b.t] 29)) (.slice (some ⟨w.heap.size + 1 + 1 + 1 + 1, 0, none⟩) 1 1) [b]) :=
    one_in ((((w.alloc (.cells #[.int .u8 a.k, .int .i64 a.n, .string a.t] 29)).alloc (.cells #[.int .u8 b.k, .int .i64 b.n, .string b.t] 29)).alloc (.cells #[.int .u8 0, .int .i64 0, .string ⟨#[]⟩] 29)).alloc (.cells #[.int .u8 a.k, .int .i64 a.n, .string a.t] 29)) b hb (by simp)
  clear hc hd ha hb e0
  cases d
  all_goals
   go_enter Tryz.func27, Tryz.ntmps27
   go_wp2_with (first
    | (go_at_call 57; refine (C.out _ _ _ Q1.out Q2.out).mono ?_; rintro e w2 ⟨rfl, hb2⟩; have hb3 := below_two hb2; obtain ⟨q0, q1, q2, r0, r1, r2, r3⟩ := three_slot (B := w.heap.size + 1 + 1) (by simp) hb3)
    | (go_at_call 56; refine still (H.out _) ?_)
    | (go_at_call 22; refine (truth_any _ _).mono ?_; rintro e w' ⟨rfl, rfl⟩))
   have B2 : Below w.heap.size w w2 := ((((((Below.refl _ _).alloc (Nat.le_refl _) _).alloc (by simp) _).alloc (by simp; omega) _).alloc (by simp; omega) _).alloc (by simp; omega) _).trans (hb2.mono (by simp; omega))
   have le2 : w.heap.size ≤ w.heap.size + 1 + 1 := by omega
   have B3 := fun (p q r : Value) => ((B2.setCell (p := ⟨w.heap.size + 1 + 1, 0, none⟩) le2 p).setCell (p := ⟨w.heap.size + 1 + 1, 1, none⟩) le2 q).setCell (p := ⟨w.heap.size + 1 + 1, 2, none⟩) le2 r
  · refine bodyPost_ret (v := .tuple #[.agg #[.int .u8 1, .int .i64 0, .string ⟨#[]⟩], .int .i64 0]) (by simp [results, Tryz.results27, go_sem, q0, q1, q2, r3]; try rfl) rfl ⟨rfl, ?_⟩
    exact (B3 _ _ _).alloc (B3 _ _ _).size _
  · refine bodyPost_ret (v := .tuple #[.agg #[.int .u8 1, .int .i64 1, .string ⟨#[]⟩], .int .i64 0]) (by simp [results, Tryz.results27, go_sem, q0, q1, q2, r3]; try rfl) rfl ⟨rfl, ?_⟩
    exact (B3 _ _ _).alloc (B3 _ _ _).size _

end Go.Proofs.YtjddhakaebkkeaaGreatDoor
