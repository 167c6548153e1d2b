/-
  Do, of any operation and any values.
-/
import Derived.Test.YtjddhakaebkkeaaGreatDoorUDo
namespace Go.Proofs.YtjddhakaebkkeaaGreatDoor
open Go.RowKit
attribute [local go_sem ↓] Go.wp_at_zero Go.wp_at_succ

/-- Where the values of a list of one, of two, lie. -/
theorem one_at {w : World} {v : Value} {x : Val} (h : ValsIn w v [x]) : ∃ b off cap, v = .slice (some ⟨b, off, none⟩) 1 cap ∧ w.cell? ⟨b, off, none⟩ = some (.int .u8 x.k) ∧ w.cell? ⟨b, off + 1, none⟩ = some (.int .i64 x.n) ∧ w.cell? ⟨b, off + 2, none⟩ = some (.string x.t) := by
  obtain ⟨⟨a, cap, rfl, hf⟩, _, _⟩ := h
  obtain ⟨b, off, rfl, hv⟩ := hf (by simp)
  obtain ⟨h0, h1, h2⟩ := hv 0 (by simp)
  exact ⟨b, off, cap, rfl, by simpa using h0, by simpa using h1, by simpa using h2⟩
theorem two_at {w : World} {v : Value} {x y : Val} (h : ValsIn w v [x, y]) : ∃ b off cap, v = .slice (some ⟨b, off, none⟩) 2 cap ∧ (w.cell? ⟨b, off, none⟩ = some (.int .u8 x.k) ∧ w.cell? ⟨b, off + 1, none⟩ = some (.int .i64 x.n) ∧ w.cell? ⟨b, off + 2, none⟩ = some (.string x.t)) ∧ w.cell? ⟨b, off + 3, none⟩ = some (.int .u8 y.k) ∧ w.cell? ⟨b, off + 3 + 1, none⟩ = some (.int .i64 y.n) ∧ w.cell? ⟨b, off + 3 + 2, none⟩ = some (.string y.t) := by
  obtain ⟨⟨a, cap, rfl, hf⟩, _, _⟩ := h
  obtain ⟨b, off, rfl, hv⟩ := hf (by simp)
  obtain ⟨h0, h1, h2⟩ := hv 0 (by simp)
  obtain ⟨k0, k1, k2⟩ := hv 1 (by simp)
  exact ⟨b, off, cap, rfl, ⟨by simpa using h0, by simpa using h1, by simpa using h2⟩, by simpa using k0, by simpa using k1, by simpa using k2⟩

/-- The block of a call's first result, behind its first call. -/
theorem first_res {w w2 : World} {x y z : Value} {t : TypeId} (hb : Below (w.alloc (.cells #[x, y, z] t)).heap.size (w.alloc (.cells #[x, y, z] t)) w2) : Below w.heap.size w w2 := ((Below.refl _ _).alloc (Nat.le_refl _) _).trans (hb.mono (by simp))

theorem below_cells {w W : World} {B : Nat} {p q r : Value} (h : Below w.heap.size w W) (hB : w.heap.size ≤ B) : Below w.heap.size w (((W.setCell ⟨B, 0, none⟩ p).setCell ⟨B, 1, none⟩ q).setCell ⟨B, 2, none⟩ r) :=
  ((h.setCell (p := ⟨B, 0, none⟩) hB p).setCell (p := ⟨B, 1, none⟩) hB q).setCell (p := ⟨B, 2, none⟩) hB r

set_option maxHeartbeats 1600000 in
theorem do_bad (w : World) (op : Int) (v : Value) (l : List Val) (h : ValsIn w v l) (hr : ¬ refE op l = 0) :
    Calls Tryz.prog 6 #[.int .u8 op, v] w fun e w' => e = .returned (tupR (doR op l)) ∧ Below w.heap.size w w' := by
  have e0 : doR op l = (nullV, refE op l) := by unfold doR; rw [if_neg hr]
  rw [e0]
  obtain ⟨E, hE⟩ : ∃ E, E = refE op l := ⟨_, rfl⟩
  have RF : Hid (∀ wx, Below w.heap.size w wx → Calls Tryz.prog 21 #[.int .u8 op, v] wx fun e w' => e = .returned (.int .i64 E) ∧ Below wx.heap.size wx w') := fun wx hb => by rw [hE]; exact refused_any wx op v l (h.later hb)
  rw [← hE] at hr ⊢
  have hz : (E != 0) = true := by simpa using hr
  have B0 : Below w.heap.size w (w.alloc (.cells #[.int .u8 0, .int .i64 0, .string ⟨#[]⟩] 29)) := (Below.refl _ _).alloc (Nat.le_refl _) _
  clear hE h hr e0
  go_enter Tryz.func6, Tryz.ntmps6
  go_wp2_with (go_at_call 21; refine (RF.out _ B0).mono ?_; rintro e w2 ⟨rfl, hb2⟩; obtain ⟨q0, q1, q2, r0, r1, r2, r3⟩ := three_slot (B := w.heap.size) rfl hb2)
  have B2 := first_res hb2
  refine bodyPost_ret (v := .tuple #[.agg #[.int .u8 0, .int .i64 0, .string ⟨#[]⟩], .int .i64 E]) (by simp [results, Tryz.results6, go_sem, q0, q1, q2]; try rfl) rfl ⟨rfl, ?_⟩
  first | exact B2 | exact below_cells B2 (Nat.le_refl _)

set_option maxHeartbeats 1600000 in
theorem do_null1 (w : World) (op : Int) (v : Value) (x : Val) (h : ValsIn w v [x]) (hr : refE op [x] = 0) (ho : op = 19 ∨ op = 20) :
    Calls Tryz.prog 6 #[.int .u8 op, v] w fun e w' => e = .returned (tupR (doR op [x])) ∧ Below w.heap.size w w' := by
  have e0 : doR op [x] = (tv (if op = 19 then isN x else !isN x), 0) := by
    unfold doR makesR
    rw [if_pos hr]
    rcases ho with rfl | rfl <;> rfl
  rw [e0]
  have RF : Hid (∀ wx, Below w.heap.size w wx → Calls Tryz.prog 21 #[.int .u8 op, v] wx fun e w' => e = .returned (.int .i64 0) ∧ Below wx.heap.size wx w') := fun wx hb => by rw [← hr]; exact refused_any wx op v [x] (h.later hb)
  have B0 : Below w.heap.size w (w.alloc (.cells #[.int .u8 0, .int .i64 0, .string ⟨#[]⟩] 29)) := (Below.refl _ _).alloc (Nat.le_refl _) _
  obtain ⟨N, hN⟩ : ∃ N, N = isN x := ⟨_, rfl⟩
  obtain ⟨b, off, cap, rfl, c0, c1, c2⟩ := one_at h
  have lb := World.block_lt_of_cell? w _ c0
  have NU : Hid (∀ wx, Calls Tryz.prog 23 #[.agg #[.int .u8 x.k, .int .i64 x.n, .string x.t]] wx fun e w' => e = .returned (.bool N) ∧ Below wx.heap.size wx w') := fun wx => by rw [hN]; exact isNull_any wx x.k x.n x.t
  rw [← hN]
  clear e0 h hr hN
  rcases ho with rfl | rfl
  all_goals
    cases N
    all_goals
      go_enter Tryz.func6, Tryz.ntmps6
      go_wp2_with (first
        | (go_at_call 21; refine (RF.out _ B0).mono ?_; rintro e w2 ⟨rfl, hb2⟩; have B2 := first_res hb2; have d0 := (B2.cell lb).trans c0; have d1 := (B2.cell (p := ⟨b, off + 1, none⟩) lb).trans c1; have d2 := (B2.cell (p := ⟨b, off + 2, none⟩) lb).trans c2)
        | (go_at_call 23; refine (NU.out _).mono ?_; rintro e w3 ⟨rfl, hb3⟩; have B3 := B2.trans (hb3.mono B2.size); have hb23 := hb2.trans (hb3.mono hb2.size); obtain ⟨q0, q1, q2, r0, r1, r2, r3⟩ := three_slot (B := w.heap.size) rfl hb23)
        | (go_at_call 22; refine (truth_any _ _).mono ?_; rintro e w' ⟨rfl, rfl⟩))
  · refine bodyPost_ret (v := .tuple #[.agg #[.int .u8 1, .int .i64 0, .string ⟨#[]⟩], .int .i64 0]) (by simp [results, Tryz.results6, go_sem, q0, q1, q2, r3]; try rfl) rfl ⟨rfl, ?_⟩
    exact (below_cells B3 (Nat.le_refl _)).alloc (below_cells B3 (Nat.le_refl _)).size _
  · refine bodyPost_ret (v := .tuple #[.agg #[.int .u8 1, .int .i64 1, .string ⟨#[]⟩], .int .i64 0]) (by simp [results, Tryz.results6, go_sem, q0, q1, q2, r3]; try rfl) rfl ⟨rfl, ?_⟩
    exact (below_cells B3 (Nat.le_refl _)).alloc (below_cells B3 (Nat.le_refl _)).size _
  · refine bodyPost_ret (v := .tuple #[.agg #[.int .u8 1, .int .i64 1, .string ⟨#[]⟩], .int .i64 0]) (by simp [results, Tryz.results6, go_sem, q0, q1, q2, r3]; try rfl) rfl ⟨rfl, ?_⟩
    exact (below_cells B3 (Nat.le_refl _)).alloc (below_cells B3 (Nat.le_refl _)).size _
  · refine bodyPost_ret (v := .tuple #[.agg #[.int .u8 1, .int .i64 0, .string ⟨#[]⟩], .int .i64 0]) (by simp [results, Tryz.results6, go_sem, q0, q1, q2, r3]; try rfl) rfl ⟨rfl, ?_⟩
    exact (below_cells B3 (Nat.le_refl _)).alloc (below_cells B3 (Nat.le_refl _)).size _

set_option maxHeartbeats 1600000 in
theorem do_logic (w : World) (op : Int) (v : Value) (l : List Val) (h : ValsIn w v l) (hr : refE op l = 0) (ho : op = 15 ∨ op = 16) :
    Calls Tryz.prog 6 #[.int .u8 op, v] w fun e w' => e = .returned (tupR (doR op l)) ∧ Below w.heap.size w w' := by
  have e0 : doR op l = (decL (decide (op = 16)) l, 0) := by
    unfold doR makesR
    rw [if_pos hr]
    rcases ho with rfl | rfl <;> rfl
  rw [e0]
  have RF : Hid (∀ wx, Below w.heap.size w wx → Calls Tryz.prog 21 #[.int .u8 op, v] wx fun e w' => e = .returned (.int .i64 0) ∧ Below wx.heap.size wx w') := fun wx hb => by rw [← hr]; exact refused_any wx op v l (h.later hb)
  have B0 : Below w.heap.size w (w.alloc (.cells #[.int .u8 0, .int .i64 0, .string ⟨#[]⟩] 29)) := (Below.refl _ _).alloc (Nat.le_refl _) _
  have DE : Hid (∀ (d : Bool) (wx : World), Below w.heap.size w wx → Calls Tryz.prog 24 #[v, .agg #[.int .u8 1, .int .i64 (if d then 1 else 0), .string ⟨#[]⟩]] wx fun e w' => e = .returned (.agg #[.int .u8 (decL d l).k, .int .i64 (decL d l).n, .string (decL d l).t]) ∧ Below wx.heap.size wx w') := fun d wx hb => decided_any wx v l d (h.later hb)
  clear h hr e0
  rcases ho with rfl | rfl
  · have DF := hide (DE.out false)
    clear DE
    obtain ⟨⟨rk, rn, rt⟩, hR⟩ : ∃ R, R = decL false l := ⟨_, rfl⟩
    rw [← hR] at DF
    rw [show decide ((15 : Int) = 16) = false from rfl, ← hR]
    clear hR
    go_enter Tryz.func6, Tryz.ntmps6
    go_wp2_with (first
      | (go_at_call 21; refine (RF.out _ B0).mono ?_; rintro e w2 ⟨rfl, hb2⟩; have B2 := first_res hb2)
      | (go_at_call 22; refine (truth_any _ _).mono ?_; rintro e w' ⟨rfl, hw'⟩; have hb3 := below_one hw'; have B3 := B2.trans (hb3.mono B2.size); have hb23 := hb2.trans (hb3.mono hb2.size); clear hw')
      | (go_at_call 24; refine (DF.out _ B3).mono ?_; rintro e w4 ⟨rfl, hb4⟩; have B4 := B3.trans (hb4.mono B3.size); have hb24 := hb23.trans (hb4.mono hb23.size); obtain ⟨q0, q1, q2, r0, r1, r2, r3⟩ := three_slot (B := w.heap.size) rfl hb24))
    refine bodyPost_ret (v := .tuple #[.agg #[.int .u8 rk, .int .i64 rn, .string rt], .int .i64 0]) (by simp [results, Tryz.results6, go_sem, q0, q1, q2]; try rfl) rfl ⟨rfl, ?_⟩
    exact below_cells B4 (Nat.le_refl _)
  · have DF := hide (DE.out true)
    clear DE
    obtain ⟨⟨rk, rn, rt⟩, hR⟩ : ∃ R, R = decL true l := ⟨_, rfl⟩
    rw [← hR] at DF
    rw [show decide ((16 : Int) = 16) = true from rfl, ← hR]
    clear hR
    go_enter Tryz.func6, Tryz.ntmps6
    go_wp2_with (first
      | (go_at_call 21; refine (RF.out _ B0).mono ?_; rintro e w2 ⟨rfl, hb2⟩; have B2 := first_res hb2)
      | (go_at_call 22; refine (truth_any _ _).mono ?_; rintro e w' ⟨rfl, hw'⟩; have hb3 := below_one hw'; have B3 := B2.trans (hb3.mono B2.size); have hb23 := hb2.trans (hb3.mono hb2.size); clear hw')
      | (go_at_call 24; refine (DF.out _ B3).mono ?_; rintro e w4 ⟨rfl, hb4⟩; have B4 := B3.trans (hb4.mono B3.size); have hb24 := hb23.trans (hb4.mono hb23.size); obtain ⟨q0, q1, q2, r0, r1, r2, r3⟩ := three_slot (B := w.heap.size) rfl hb24))
    refine bodyPost_ret (v := .tuple #[.agg #[.int .u8 rk, .int .i64 rn, .string rt], .int .i64 0]) (by simp [results, Tryz.results6, go_sem, q0, q1, q2]; try rfl) rfl ⟨rfl, ?_⟩
    exact below_cells B4 (Nat.le_refl _)
end Go.Proofs.YtjddhakaebkkeaaGreatDoor
