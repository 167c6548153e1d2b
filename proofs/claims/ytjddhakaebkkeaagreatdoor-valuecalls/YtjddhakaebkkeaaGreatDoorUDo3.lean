/-
  Do, of any operation and any values: the other ways, and all of them together.
-/
import Derived.Test.YtjddhakaebkkeaaGreatDoorUDo2
namespace Go.Proofs.YtjddhakaebkkeaaGreatDoor
open Go.RowKit
attribute [local go_sem ↓] Go.wp_at_zero Go.wp_at_succ

set_option maxHeartbeats 1600000 in
theorem do_null (w : World) (op : Int) (v : Value) (l : List Val) (h : ValsIn w v l) (hr : refE op l = 0) (ho : (op == 19) = false ∧ (op == 20) = false ∧ (op == 15) = false ∧ (op == 16) = false) (hn : l.any isN = true) :
    Calls Tryz.prog 6 #[.int .u8 op, v] w fun e w' => e = .returned (tupR (doR op l)) ∧ Below w.heap.size w w' := by
  obtain ⟨o1, o2, o3, o4⟩ := ho
  have e0 : doR op l = (nullV, 0) := by
    simp only [beq_eq_false_iff_ne] at o1 o2 o3 o4
    unfold doR makesR
    rw [if_pos hr, if_neg o1, if_neg o2, if_neg o3, if_neg o4, hn]; rfl
  rw [e0]
  have RF : Hid (∀ wx, Below w.heap.size w wx → Calls Tryz.prog 21 #[.int .u8 op, v] wx fun e w' => e = .returned (.int .i64 0) ∧ Below wx.heap.size wx w') := fun wx hb => by rw [← hr]; exact refused_any wx op v l (h.later hb)
  have CN : Hid (∀ wx, Below w.heap.size w wx → Calls Tryz.prog 25 #[v, .func (.func 23) #[] #[]] wx fun e w' => e = .returned (.bool true) ∧ Below wx.heap.size wx w') := fun wx hb => by rw [← hn]; exact hasN_any wx v l (h.later hb)
  have B0 : Below w.heap.size w (w.alloc (.cells #[.int .u8 0, .int .i64 0, .string ⟨#[]⟩] 29)) := (Below.refl _ _).alloc (Nat.le_refl _) _
  clear h hr e0 hn
  go_enter Tryz.func6, Tryz.ntmps6
  go_wp2_with (first
    | (go_at_call 21; refine (RF.out _ B0).mono ?_; rintro e w2 ⟨rfl, hb2⟩; have B2 := first_res hb2)
    | (go_at_call 25; refine (CN.out _ B2).mono ?_; rintro e w3 ⟨rfl, hb3⟩; have B3 := B2.trans (hb3.mono B2.size); have hb23 := hb2.trans (hb3.mono hb2.size); obtain ⟨q0, q1, q2, r0, r1, r2, r3⟩ := three_slot (B := w.heap.size) rfl hb23))
  refine bodyPost_ret (v := .tuple #[.agg #[.int .u8 0, .int .i64 0, .string ⟨#[]⟩], .int .i64 0]) (by simp [results, Tryz.results6, go_sem, q0, q1, q2]; try rfl) rfl ⟨rfl, ?_⟩
  first | exact B3 | exact below_cells B3 (Nat.le_refl _)

set_option maxHeartbeats 1600000 in
theorem do_not (w : World) (v : Value) (x : Val) (h : ValsIn w v [x]) (hr : refE 17 [x] = 0) (hn : [x].any isN = false) :
    Calls Tryz.prog 6 #[.int .u8 17, v] w fun e w' => e = .returned (tupR (doR 17 [x])) ∧ Below w.heap.size w w' := by
  obtain ⟨T, hT⟩ : ∃ T, T = isT x := ⟨_, rfl⟩
  have e0 : doR 17 [x] = (tv (!T), 0) := by
    unfold doR makesR
    rw [if_pos hr, hn, hT]; rfl
  rw [e0]
  have RF : Hid (∀ wx, Below w.heap.size w wx → Calls Tryz.prog 21 #[.int .u8 17, v] wx fun e w' => e = .returned (.int .i64 0) ∧ Below wx.heap.size wx w') := fun wx hb => by rw [← hr]; exact refused_any wx 17 v [x] (h.later hb)
  have CN : Hid (∀ wx, Below w.heap.size w wx → Calls Tryz.prog 25 #[v, .func (.func 23) #[] #[]] wx fun e w' => e = .returned (.bool false) ∧ Below wx.heap.size wx w') := fun wx hb => by rw [← hn]; exact hasN_any wx v [x] (h.later hb)
  have CT : Hid (∀ wx, Calls Tryz.prog 15 #[.agg #[.int .u8 x.k, .int .i64 x.n, .string x.t]] wx fun e w' => e = .returned (.bool T) ∧ Below wx.heap.size wx w') := fun wx => by rw [hT]; exact true_any wx x
  have B0 : Below w.heap.size w (w.alloc (.cells #[.int .u8 0, .int .i64 0, .string ⟨#[]⟩] 29)) := (Below.refl _ _).alloc (Nat.le_refl _) _
  obtain ⟨b, off, cap, rfl, c0, c1, c2⟩ := one_at h
  have lb := World.block_lt_of_cell? w _ c0
  clear h hr e0 hn hT
  cases T
  all_goals
    go_enter Tryz.func6, Tryz.ntmps6
    go_wp2_with (first
      | (go_at_call 21; refine (RF.out _ B0).mono ?_; rintro e w2 ⟨rfl, hb2⟩; have B2 := first_res hb2)
      | (go_at_call 25; refine (CN.out _ B2).mono ?_; rintro e w3 ⟨rfl, hb3⟩; have B3 := B2.trans (hb3.mono B2.size); have hb23 := hb2.trans (hb3.mono hb2.size); have d0 := (B3.cell lb).trans c0; have d1 := (B3.cell (p := ⟨b, off + 1, none⟩) lb).trans c1; have d2 := (B3.cell (p := ⟨b, off + 2, none⟩) lb).trans c2)
      | (go_at_call 15; refine (CT.out _).mono ?_; rintro e w4 ⟨rfl, hb4⟩; have B4 := B3.trans (hb4.mono B3.size); have hb24 := hb23.trans (hb4.mono hb23.size); obtain ⟨q0, q1, q2, r0, r1, r2, r3⟩ := three_slot (B := w.heap.size) rfl hb24)
      | (go_at_call 22; refine (truth_any _ _).mono ?_; rintro e w' ⟨rfl, rfl⟩))
  · refine bodyPost_ret (v := .tuple #[.agg #[.int .u8 1, .int .i64 1, .string ⟨#[]⟩], .int .i64 0]) (by simp [results, Tryz.results6, go_sem, q0, q1, q2, r3]; try rfl) rfl ⟨rfl, ?_⟩
    exact (below_cells B4 (Nat.le_refl _)).alloc (below_cells B4 (Nat.le_refl _)).size _
  · refine bodyPost_ret (v := .tuple #[.agg #[.int .u8 1, .int .i64 0, .string ⟨#[]⟩], .int .i64 0]) (by simp [results, Tryz.results6, go_sem, q0, q1, q2, r3]; try rfl) rfl ⟨rfl, ?_⟩
    exact (below_cells B4 (Nat.le_refl _)).alloc (below_cells B4 (Nat.le_refl _)).size _

set_option maxHeartbeats 1600000 in
theorem do_neg (w : World) (v : Value) (x : Val) (h : ValsIn w v [x]) (hr : refE 18 [x] = 0) (hn : [x].any isN = false) :
    Calls Tryz.prog 6 #[.int .u8 18, v] w fun e w' => e = .returned (tupR (doR 18 [x])) ∧ Below w.heap.size w w' := by
  have hx : I64 x.n := (h.wf x (by simp)).i
  obtain ⟨R, hR⟩ : ∃ R, R = fitR (0 - x.n) := ⟨_, rfl⟩
  have e0 : doR 18 [x] = R := by
    unfold doR makesR
    rw [if_pos hr, hn, hR]; rfl
  rw [e0]
  have RF : Hid (∀ wx, Below w.heap.size w wx → Calls Tryz.prog 21 #[.int .u8 18, v] wx fun e w' => e = .returned (.int .i64 0) ∧ Below wx.heap.size wx w') := fun wx hb => by rw [← hr]; exact refused_any wx 18 v [x] (h.later hb)
  have CN : Hid (∀ wx, Below w.heap.size w wx → Calls Tryz.prog 25 #[v, .func (.func 23) #[] #[]] wx fun e w' => e = .returned (.bool false) ∧ Below wx.heap.size wx w') := fun wx hb => by rw [← hn]; exact hasN_any wx v [x] (h.later hb)
  have CD : Hid (∀ wx, Calls Tryz.prog 26 #[.int .i64 0, .int .i64 x.n] wx fun e w' => e = .returned (tupR R) ∧ Below wx.heap.size wx w') := fun wx => by rw [hR]; exact difference_any wx 0 x.n ⟨by decide, by decide⟩ hx
  have B0 : Below w.heap.size w (w.alloc (.cells #[.int .u8 0, .int .i64 0, .string ⟨#[]⟩] 29)) := (Below.refl _ _).alloc (Nat.le_refl _) _
  obtain ⟨b, off, cap, rfl, c0, c1, c2⟩ := one_at h
  have lb := World.block_lt_of_cell? w _ c0
  clear h hr e0 hn hR hx
  obtain ⟨⟨rk, rn, rt⟩, re⟩ := R
  go_enter Tryz.func6, Tryz.ntmps6
  go_wp2_with (first
    | (go_at_call 21; refine (RF.out _ B0).mono ?_; rintro e w2 ⟨rfl, hb2⟩; have B2 := first_res hb2)
    | (go_at_call 25; refine (CN.out _ B2).mono ?_; rintro e w3 ⟨rfl, hb3⟩; have B3 := B2.trans (hb3.mono B2.size); have hb23 := hb2.trans (hb3.mono hb2.size); have d0 := (B3.cell lb).trans c0; have d1 := (B3.cell (p := ⟨b, off + 1, none⟩) lb).trans c1; have d2 := (B3.cell (p := ⟨b, off + 2, none⟩) lb).trans c2)
    | (go_at_call 26; refine (CD.out _).mono ?_; rintro e w4 ⟨rfl, hb4⟩; have B4 := B3.trans (hb4.mono B3.size); have hb24 := hb23.trans (hb4.mono hb23.size); obtain ⟨q0, q1, q2, r0, r1, r2, r3⟩ := three_slot (B := w.heap.size) rfl hb24))
  refine bodyPost_ret (v := .tuple #[.agg #[.int .u8 rk, .int .i64 rn, .string rt], .int .i64 re]) (by simp [results, Tryz.results6, go_sem, q0, q1, q2]; try rfl) rfl ⟨rfl, ?_⟩
  exact below_cells B4 (Nat.le_refl _)

theorem two_any (w : World) (op : Int) (a b : Val) (ha : a.wf) (hb : b.wf) (hj : op = 8 → a.t.size ≤ 1000 ∧ b.t.size ≤ 1000) :
    Calls Tryz.prog 27 #[.int .u8 op, .agg #[.int .u8 a.k, .int .i64 a.n, .string a.t], .agg #[.int .u8 b.k, .int .i64 b.n, .string b.t]] w fun e w' => e = .returned (tupR (twoR op a b)) ∧ Below w.heap.size w w' := by
  by_cases h3 : op = 3
  · subst h3; exact two_sum w a b ha hb
  by_cases h4 : op = 4
  · subst h4; exact two_difference w a b ha hb
  by_cases h5 : op = 5
  · subst h5; exact two_product w a b
  by_cases h6 : op = 6
  · subst h6; exact two_quotient w a b ha
  by_cases h7 : op = 7
  · subst h7; exact two_rest w a b ha
  by_cases h8 : op = 8
  · subst h8; exact two_joined w a b (hj rfl).1 (hj rfl).2
  exact two_compared w op a b ha hb ⟨by simpa using h3, by simpa using h4, by simpa using h5, by simpa using h6, by simpa using h7, by simpa using h8⟩

theorem cells_far {W : World} {B b o : Nat} {p q r : Value} (h : b < B) : (((W.setCell ⟨B, 0, none⟩ p).setCell ⟨B, 1, none⟩ q).setCell ⟨B, 2, none⟩ r).cell? ⟨b, o, none⟩ = W.cell? ⟨b, o, none⟩ :=
  ((((Below.refl B W).setCell (p := ⟨B, 0, none⟩) (Nat.le_refl _) p).setCell (p := ⟨B, 1, none⟩) (Nat.le_refl _) q).setCell (p := ⟨B, 2, none⟩) (Nat.le_refl _) r).cell (p := ⟨b, o, none⟩) h

set_option maxHeartbeats 3200000 in
theorem do_two (w : World) (op : Int) (v : Value) (x y : Val) (h : ValsIn w v [x, y]) (hr : refE op [x, y] = 0) (ho : (op == 19) = false ∧ (op == 20) = false ∧ (op == 15) = false ∧ (op == 16) = false ∧ (op == 17) = false ∧ (op == 18) = false) (hn : [x, y].any isN = false) (hj : op = 8 → x.t.size ≤ 1000 ∧ y.t.size ≤ 1000) :
    Calls Tryz.prog 6 #[.int .u8 op, v] w fun e w' => e = .returned (tupR (doR op [x, y])) ∧ Below w.heap.size w w' := by
  have hx := h.wf x (by simp)
  have hy := h.wf y (by simp)
  obtain ⟨o1, o2, o3, o4, o5, o6⟩ := ho
  obtain ⟨R, hR⟩ : ∃ R, R = twoR op x y := ⟨_, rfl⟩
  have e0 : doR op [x, y] = R := by
    simp only [beq_eq_false_iff_ne] at o1 o2 o3 o4 o5 o6
    unfold doR makesR
    rw [if_pos hr, if_neg o1, if_neg o2, if_neg o3, if_neg o4, hn, if_neg (by simp), if_neg o5, if_neg o6, hR]; rfl
  rw [e0]
  have RF : Hid (∀ wx, Below w.heap.size w wx → Calls Tryz.prog 21 #[.int .u8 op, v] wx fun e w' => e = .returned (.int .i64 0) ∧ Below wx.heap.size wx w') := fun wx hb => by rw [← hr]; exact refused_any wx op v [x, y] (h.later hb)
  have CN : Hid (∀ wx, Below w.heap.size w wx → Calls Tryz.prog 25 #[v, .func (.func 23) #[] #[]] wx fun e w' => e = .returned (.bool false) ∧ Below wx.heap.size wx w') := fun wx hb => by rw [← hn]; exact hasN_any wx v [x, y] (h.later hb)
  have CT : Hid (∀ wx, Calls Tryz.prog 27 #[.int .u8 op, .agg #[.int .u8 x.k, .int .i64 x.n, .string x.t], .agg #[.int .u8 y.k, .int .i64 y.n, .string y.t]] wx fun e w' => e = .returned (tupR R) ∧ Below wx.heap.size wx w') := fun wx => by rw [hR]; exact two_any wx op x y hx hy hj
  have B0 : Below w.heap.size w (w.alloc (.cells #[.int .u8 0, .int .i64 0, .string ⟨#[]⟩] 29)) := (Below.refl _ _).alloc (Nat.le_refl _) _
  obtain ⟨b, off, cap, rfl, ⟨c0, c1, c2⟩, c3, c4, c5⟩ := two_at h
  have lb := World.block_lt_of_cell? w _ c0
  clear h hr e0 hn hR hx hy hj
  obtain ⟨⟨rk, rn, rt⟩, re⟩ := R
  obtain ⟨xk, xn, xt⟩ := x
  obtain ⟨yk, yn, yt⟩ := y
  go_enter Tryz.func6, Tryz.ntmps6
  go_wp2_with (first
    | (go_at_call 21; refine (RF.out _ B0).mono ?_; rintro e w2 ⟨rfl, hb2⟩; have B2 := first_res hb2)
    | (go_at_call 25; refine (CN.out _ B2).mono ?_; rintro e w3 ⟨rfl, hb3⟩; have B3 := B2.trans (hb3.mono B2.size); have hb23 := hb2.trans (hb3.mono hb2.size); have d0 := (B3.cell lb).trans c0; have d1 := (B3.cell (p := ⟨b, off + 1, none⟩) lb).trans c1; have d2 := (B3.cell (p := ⟨b, off + 2, none⟩) lb).trans c2; have d3 := (B3.cell (p := ⟨b, off + 3, none⟩) lb).trans c3; have d4 := (B3.cell (p := ⟨b, off + 3 + 1, none⟩) lb).trans c4; have d5 := (B3.cell (p := ⟨b, off + 3 + 2, none⟩) lb).trans c5))
  have lb3 : b < w3.heap.size := Nat.lt_of_lt_of_le lb B3.size
  clear c0 c1 c2 c3 c4 c5
  go_region_held3 (fun w' => (w'.cell? ⟨b, off, none⟩ = some (.int .u8 xk) ∧ w'.cell? ⟨b, off + 1, none⟩ = some (.int .i64 xn) ∧ w'.cell? ⟨b, off + 2, none⟩ = some (.string xt)) ∧ w'.cell? ⟨b, off + 3, none⟩ = some (.int .u8 yk) ∧ w'.cell? ⟨b, off + 3 + 1, none⟩ = some (.int .i64 yn) ∧ w'.cell? ⟨b, off + 3 + 2, none⟩ = some (.string yt))
    (first | exact ⟨⟨d0, d1, d2⟩, d3, d4, d5⟩ | exact S2 | exact ⟨⟨(cells_far lb).trans S2.1.1, (cells_far lb).trans S2.1.2.1, (cells_far lb).trans S2.1.2.2⟩, (cells_far lb).trans S2.2.1, (cells_far lb).trans S2.2.2.1, (cells_far lb).trans S2.2.2.2⟩)
    (first | (go_at_call 27; refine (CT.out _).mono ?_; rintro e w4 ⟨rfl, hb4⟩; have S2 := (⟨⟨(hb4.cell (p := ⟨b, off, none⟩) lb3).trans d0, (hb4.cell (p := ⟨b, off + 1, none⟩) lb3).trans d1, (hb4.cell (p := ⟨b, off + 2, none⟩) lb3).trans d2⟩, (hb4.cell (p := ⟨b, off + 3, none⟩) lb3).trans d3, (hb4.cell (p := ⟨b, off + 3 + 1, none⟩) lb3).trans d4, (hb4.cell (p := ⟨b, off + 3 + 2, none⟩) lb3).trans d5⟩ : (w4.cell? ⟨b, off, none⟩ = some (.int .u8 xk) ∧ w4.cell? ⟨b, off + 1, none⟩ = some (.int .i64 xn) ∧ w4.cell? ⟨b, off + 2, none⟩ = some (.string xt)) ∧ w4.cell? ⟨b, off + 3, none⟩ = some (.int .u8 yk) ∧ w4.cell? ⟨b, off + 3 + 1, none⟩ = some (.int .i64 yn) ∧ w4.cell? ⟨b, off + 3 + 2, none⟩ = some (.string yt)); have B4 := B3.drew.trans (hb4.mono B3.size); have hb24 := hb23.drew.trans (hb4.mono hb23.size); obtain ⟨q0, q1, q2, r0, r1, r2, r3⟩ := three_slot (B := w.heap.size) rfl hb24))
  go_wp2
  refine bodyPost_ret (v := .tuple #[.agg #[.int .u8 rk, .int .i64 rn, .string rt], .int .i64 re]) (by simp [results, Tryz.results6, go_sem, q0, q1, q2]; try rfl) rfl ⟨rfl, ?_⟩
  exact below_cells B4 (Nat.le_refl _)

theorem ref_just {op : Int} {l : List Val} (h : refE op l = 0) : justB op l.length = true ∧ l.all Val.may = true ∧ givesE op (l.map Val.k) = 0 := by
  unfold refE at h
  by_cases c : (justB op l.length && l.all Val.may) = true
  · rw [if_pos c] at h
    rw [Bool.and_eq_true] at c
    exact ⟨c.1, c.2, h⟩
  · rw [if_neg c] at h; cases h

theorem may_size {v : Val} (h : v.may = true) : v.t.size ≤ 1000 := by
  rcases may_cases v h with ⟨_, _, c⟩ | ⟨_, _, c⟩ | ⟨_, c⟩ | ⟨_, _, c⟩
  all_goals first
    | omega
    | (have : v.t.size = 0 := by
        rw [ByteArray.toList_eq] at c
        show v.t.data.size = 0
        rw [← Array.length_toList, c]; rfl
       omega)

/-- Do, of any operation and any values. -/
theorem do_any (w : World) (op : Int) (v : Value) (l : List Val) (h : ValsIn w v l) :
    Calls Tryz.prog 6 #[.int .u8 op, v] w fun e w' => e = .returned (tupR (doR op l)) ∧ Below w.heap.size w w' := by
  by_cases hr : refE op l = 0
  · obtain ⟨j, m, _⟩ := ref_just hr
    have m' : ∀ x ∈ l, x.may = true := List.all_eq_true.mp m
    by_cases h15 : op = 15
    · exact do_logic w op v l h hr (.inl h15)
    by_cases h16 : op = 16
    · exact do_logic w op v l h hr (.inr h16)
    by_cases h19 : op = 19 ∨ op = 20
    · have t1 : takes op = 1 := by rcases h19 with rfl | rfl <;> rfl
      have l1 : l.length = 1 := by unfold justB at j; rw [t1] at j; simp at j; omega
      obtain ⟨x, rfl⟩ := List.length_eq_one_iff.mp l1
      exact do_null1 w op v x h hr h19
    have o1 : (op == 19) = false := by simp; omega
    have o2 : (op == 20) = false := by simp; omega
    have o3 : (op == 15) = false := by simp; omega
    have o4 : (op == 16) = false := by simp; omega
    cases hn : l.any isN
    · by_cases h17 : op = 17
      · subst h17
        have l1 : l.length = 1 := by unfold justB at j; rw [show takes 17 = 1 from rfl] at j; simp at j; omega
        obtain ⟨x, rfl⟩ := List.length_eq_one_iff.mp l1
        exact do_not w v x h hr hn
      by_cases h18 : op = 18
      · subst h18
        have l1 : l.length = 1 := by unfold justB at j; rw [show takes 18 = 1 from rfl] at j; simp at j; omega
        obtain ⟨x, rfl⟩ := List.length_eq_one_iff.mp l1
        exact do_neg w v x h hr hn
      have l2 : l.length = 2 := by
        unfold justB takes at j
        simp only [Bool.and_eq_true, decide_eq_true_eq] at j
        split at j
        · omega
        · split at j <;> omega
      obtain ⟨x, y, rfl⟩ : ∃ x y, l = [x, y] := by
        match l, l2 with
        | [x, y], _ => exact ⟨x, y, rfl⟩
      exact do_two w op v x y h hr ⟨o1, o2, o3, o4, by simpa using h17, by simpa using h18⟩ hn (fun _ => ⟨may_size (m' x (by simp)), may_size (m' y (by simp))⟩)
    · exact do_null w op v l h hr ⟨o1, o2, o3, o4⟩ hn
  · exact do_bad w op v l h hr
end Go.Proofs.YtjddhakaebkkeaaGreatDoor
