/-
  What an operation does to any values: the value and the error that Do answers, of every list.
-/
import Derived.Test.YtjddhakaebkkeaaGreatDoorUDo0
namespace Go.Proofs.YtjddhakaebkkeaaGreatDoor
open Go.RowKit
attribute [local go_sem ↓] Go.wp_at_zero Go.wp_at_succ

/-- The Bool that decides, if it is among them; else Null, if one is; else the other Bool. -/
def decL (d : Bool) (l : List Val) : Val := if l.any (sameV (tv d)) then tv d else if l.any isN then nullV else tv (!d)
def v0 (l : List Val) : Val := l.headD nullV
def v1 (l : List Val) : Val := (l.drop 1).headD nullV
/-- What an operation makes of values that it is not refused of. -/
def makesR (op : Int) (l : List Val) : Val × Int :=
  if op = 19 then (tv (isN (v0 l)), 0) else if op = 20 then (tv (!isN (v0 l)), 0) else if op = 15 then (decL false l, 0) else if op = 16 then (decL true l, 0)
  else if l.any isN then (nullV, 0) else if op = 17 then (tv (!isT (v0 l)), 0) else if op = 18 then fitR (0 - (v0 l).n) else twoR op (v0 l) (v1 l)
def doR (op : Int) (l : List Val) : Val × Int := if refE op l = 0 then makesR op l else (nullV, refE op l)

theorem isT_tv (d : Bool) : isT (tv d) = d := by cases d <;> simp [isT, sameV, tv]

/-- The block ahead of the last one, behind a call. -/
theorem ahead_slot {w w2 : World} {x y z : Value} {t : TypeId} {o : Obj} (hb : Below ((w.alloc (.cells #[x, y, z] t)).alloc o).heap.size ((w.alloc (.cells #[x, y, z] t)).alloc o) w2) :
    w2.cell? ⟨w.heap.size, 0, none⟩ = some x ∧ w2.cell? ⟨w.heap.size, 1, none⟩ = some y ∧ w2.cell? ⟨w.heap.size, 2, none⟩ = some z := by
  refine ⟨(hb.cell (p := ⟨w.heap.size, 0, none⟩) (by simp; omega)).trans (by simp), (hb.cell (p := ⟨w.heap.size, 1, none⟩) (by simp; omega)).trans (by simp), (hb.cell (p := ⟨w.heap.size, 2, none⟩) (by simp; omega)).trans (by simp)⟩

set_option maxHeartbeats 1600000 in
theorem decided_any (w : World) (v : Value) (l : List Val) (d : Bool) (h : ValsIn w v l) :
    Calls Tryz.prog 24 #[v, .agg #[.int .u8 1, .int .i64 (if d then 1 else 0), .string ⟨#[]⟩]] w fun e w' => e = .returned (.agg #[.int .u8 (decL d l).k, .int .i64 (decL d l).n, .string (decL d l).t]) ∧ Below w.heap.size w w' := by
  obtain ⟨A, hA⟩ : ∃ A, A = l.any (sameV (tv d)) := ⟨_, rfl⟩
  obtain ⟨N, hN⟩ : ∃ N, N = l.any isN := ⟨_, rfl⟩
  have CA : Hid (∀ wx, Below w.heap.size w wx → Calls Tryz.prog 48 #[v, .agg #[.int .u8 1, .int .i64 (if d then 1 else 0), .string ⟨#[]⟩]] wx fun e w' => e = .returned (.bool A) ∧ Below wx.heap.size wx w') := fun wx hb => by rw [hA]; exact hasV_any wx v l (tv d) (h.later hb)
  have CN : Hid (∀ wx, Below w.heap.size w wx → Calls Tryz.prog 25 #[v, .func (.func 23) #[] #[]] wx fun e w' => e = .returned (.bool N) ∧ Below wx.heap.size wx w') := fun wx hb => by rw [hN]; exact hasN_any wx v l (h.later hb)
  have CT : Hid (∀ wx, Calls Tryz.prog 15 #[.agg #[.int .u8 1, .int .i64 (if d then 1 else 0), .string ⟨#[]⟩]] wx fun e w' => e = .returned (.bool d) ∧ Below wx.heap.size wx w') := fun wx => by
    have := true_any wx (tv d)
    rw [isT_tv] at this; exact this
  have HD : Hid (decL d l = if A then tv d else if N then nullV else tv (!d)) := by show _ = _; rw [hA, hN]; rfl
  clear hA hN h
  obtain ⟨D, hD⟩ : ∃ D, D = decL d l := ⟨_, rfl⟩
  rw [← hD] at HD ⊢
  clear hD
  have B0 : Below w.heap.size w ((w.alloc (.cells #[.int .u8 1, .int .i64 (if d then 1 else 0), .string ⟨#[]⟩] 29)).alloc (.cells #[.int .u8 0, .int .i64 0, .string ⟨#[]⟩] 29)) := ((Below.refl _ _).alloc (Nat.le_refl _) _).alloc (by simp) _
  have le1 : w.heap.size ≤ w.heap.size + 1 := by omega
  have e1 : ∀ c : Bool, (if c then (1 : Int) else 0) = (if c then 1 else 0) := fun _ => rfl
  cases A
  · cases N
    · have e := HD.out
      simp only [if_false, Bool.false_eq_true] at e
      subst e
      cases d
      all_goals
        go_enter Tryz.func24, Tryz.ntmps24
        go_wp2_with (first
          | (go_at_call 48; refine (CA.out _ B0).mono ?_; rintro e w2 ⟨rfl, hb2⟩; have B2 := B0.trans (hb2.mono B0.size))
          | (go_at_call 25; refine (CN.out _ B2).mono ?_; rintro e w3 ⟨rfl, hb3⟩; have B3 := B2.trans (hb3.mono B2.size); have hb23 := hb2.trans (hb3.mono hb2.size); obtain ⟨q0, q1, q2, r0, r1, r2, r3⟩ := three_slot (B := w.heap.size + 1) (by simp) hb23; obtain ⟨s0, s1, s2⟩ := ahead_slot hb23)
          | (go_at_call 15; refine (CT.out _).mono ?_; rintro e w4 ⟨rfl, hb4⟩; have B4 := B3.trans (hb4.mono B3.size); have hb24 := hb23.trans (hb4.mono hb23.size); obtain ⟨t0, t1, t2, u0, u1, u2, u3⟩ := three_slot (B := w.heap.size + 1) (by simp) hb24)
          | (go_at_call 22; refine (truth_any _ _).mono ?_; rintro e w' ⟨rfl, rfl⟩))
      · refine bodyPost_ret (v := .agg #[.int .u8 1, .int .i64 1, .string ⟨#[]⟩]) (by simp [results, Tryz.results24, go_sem, t0, t1, t2, u3]; try rfl) rfl ⟨rfl, ?_⟩
        have C4 := fun (p q r : Value) => ((B4.setCell (p := ⟨w.heap.size + 1, 0, none⟩) le1 p).setCell (p := ⟨w.heap.size + 1, 1, none⟩) le1 q).setCell (p := ⟨w.heap.size + 1, 2, none⟩) le1 r
        exact (C4 _ _ _).alloc (C4 _ _ _).size _
      · refine bodyPost_ret (v := .agg #[.int .u8 1, .int .i64 0, .string ⟨#[]⟩]) (by simp [results, Tryz.results24, go_sem, t0, t1, t2, u3]; try rfl) rfl ⟨rfl, ?_⟩
        have C4 := fun (p q r : Value) => ((B4.setCell (p := ⟨w.heap.size + 1, 0, none⟩) le1 p).setCell (p := ⟨w.heap.size + 1, 1, none⟩) le1 q).setCell (p := ⟨w.heap.size + 1, 2, none⟩) le1 r
        exact (C4 _ _ _).alloc (C4 _ _ _).size _
    · have e := HD.out
      simp only [if_false, if_true, Bool.false_eq_true] at e
      subst e
      cases d
      all_goals
        go_enter Tryz.func24, Tryz.ntmps24
        go_wp2_with (first
          | (go_at_call 48; refine (CA.out _ B0).mono ?_; rintro e w2 ⟨rfl, hb2⟩; have B2 := B0.trans (hb2.mono B0.size))
          | (go_at_call 25; refine (CN.out _ B2).mono ?_; rintro e w3 ⟨rfl, hb3⟩; have B3 := B2.trans (hb3.mono B2.size); have hb23 := hb2.trans (hb3.mono hb2.size); obtain ⟨q0, q1, q2, r0, r1, r2, r3⟩ := three_slot (B := w.heap.size + 1) (by simp) hb23))
        refine bodyPost_ret (v := .agg #[.int .u8 0, .int .i64 0, .string ⟨#[]⟩]) (by simp [results, Tryz.results24, go_sem, q0, q1, q2]; try rfl) rfl ⟨rfl, ?_⟩
        first | exact B3 | exact ((B3.setCell (p := ⟨w.heap.size + 1, 0, none⟩) le1 _).setCell (p := ⟨w.heap.size + 1, 1, none⟩) le1 _).setCell (p := ⟨w.heap.size + 1, 2, none⟩) le1 _
  · have e := HD.out
    simp only [if_true] at e
    subst e
    cases d
    all_goals
      go_enter Tryz.func24, Tryz.ntmps24
      go_wp2_with (go_at_call 48; refine (CA.out _ B0).mono ?_; rintro e w2 ⟨rfl, hb2⟩; have B2 := B0.trans (hb2.mono B0.size); obtain ⟨q0, q1, q2, r0, r1, r2, r3⟩ := three_slot (B := w.heap.size + 1) (by simp) hb2; obtain ⟨s0, s1, s2⟩ := ahead_slot hb2)
    · refine bodyPost_ret (v := .agg #[.int .u8 1, .int .i64 0, .string ⟨#[]⟩]) (by simp [results, Tryz.results24, go_sem, q0, q1, q2]; try rfl) rfl ⟨rfl, ?_⟩
      exact ((B2.setCell (p := ⟨w.heap.size + 1, 0, none⟩) le1 _).setCell (p := ⟨w.heap.size + 1, 1, none⟩) le1 _).setCell (p := ⟨w.heap.size + 1, 2, none⟩) le1 _
    · refine bodyPost_ret (v := .agg #[.int .u8 1, .int .i64 1, .string ⟨#[]⟩]) (by simp [results, Tryz.results24, go_sem, q0, q1, q2]; try rfl) rfl ⟨rfl, ?_⟩
      exact ((B2.setCell (p := ⟨w.heap.size + 1, 0, none⟩) le1 _).setCell (p := ⟨w.heap.size + 1, 1, none⟩) le1 _).setCell (p := ⟨w.heap.size + 1, 2, none⟩) le1 _
end Go.Proofs.YtjddhakaebkkeaaGreatDoor
