/-
  Of two values of a kind just one of less, equal and greater is true: the plain facts, and the law's walk.
-/
import Derived.Test.YtoaliblndieaiaaULogic
import Derived.Test.YtoaliblndieaiaaUKinds
import Derived.Test.YtoaliblndieaiaaUDrawn
import Derived.Deep.Cut
import Derived.Deep.CutRange
namespace Go.Proofs.Ytoaliblndieaiaa
open Go.RowKit
attribute [local go_sem ↓] Go.wp_at_zero Go.wp_at_succ

theorem kind_of_may {v : Val} (h : v.may = true) : badK v.k = false := by
  unfold badK
  rcases may_cases v h with ⟨a, _⟩ | ⟨a, _⟩ | ⟨a, _⟩ | ⟨a, _⟩ <;> rw [a] <;> rfl

theorem op_cmp {op : Int} (h : 9 ≤ op ∧ op ≤ 14) : op = 9 ∨ op = 10 ∨ op = 11 ∨ op = 12 ∨ op = 13 ∨ op = 14 := by omega
theorem gives_cmp {op : Int} (h : 9 ≤ op ∧ op ≤ 14) {i j : Int} (hi : badK i = false) (hj : badK j = false) : givesE op [i, j] = if ¬ i = 0 ∧ ¬ j = 0 ∧ ¬ i = j then 220 else 0 := by
  have e1 : asksK op [i, j] = if i = 0 then j else i := by
    rw [← firstK_two]
    rcases op_cmp h with rfl | rfl | rfl | rfl | rfl | rfl <;> rfl
  have e2 : justB op 2 = true := by rcases op_cmp h with rfl | rfl | rfl | rfl | rfl | rfl <;> rfl
  unfold givesE
  rw [e1]
  have e3 : ([i, j].any badK) = false := by simp [hi, hj]
  rw [e3, show [i, j].length = 2 from rfl, e2]
  simp only [Bool.not_false, Bool.and_self, if_true, List.any_cons, List.any_nil, Bool.or_false, oddK]
  by_cases a : i = 0
  · subst a; simp
  · by_cases b : j = 0
    · subst b; simp [a]
    · by_cases c : i = j
      · subst c; simp [a]
      · have c' : ¬ j = i := fun e => c e.symm
        simp [a, b, c, c']
theorem ref_cmp {op : Int} (h : 9 ≤ op ∧ op ≤ 14) {a b : Val} (ha : a.may = true) (hb : b.may = true) : refE op [a, b] = if ¬ a.k = 0 ∧ ¬ b.k = 0 ∧ ¬ a.k = b.k then 220 else 0 := by
  rw [ref_all (by simp [ha, hb]), show [a, b].map Val.k = [a.k, b.k] from rfl]
  exact gives_cmp h (kind_of_may ha) (kind_of_may hb)
theorem makes_cmp {op : Int} (h : 9 ≤ op ∧ op ≤ 14) (a b : Val) : makesR op [a, b] = if [a, b].any isN then (nullV, 0) else (tv (holdsB op (cmpV a b)), 0) := by
  rcases op_cmp h with rfl | rfl | rfl | rfl | rfl | rfl <;> rfl
theorem cmp_null {op : Int} (h : 9 ≤ op ∧ op ≤ 14) {a b : Val} (ha : a.may = true) (hb : b.may = true) (hn : a.k = 0 ∨ b.k = 0) : doR op [a, b] = (nullV, 0) := by
  have e : refE op [a, b] = 0 := by rw [ref_cmp h ha hb, if_neg]; rintro ⟨x, y, _⟩; rcases hn with z | z <;> contradiction
  unfold doR
  rw [if_pos e, makes_cmp h, if_pos]
  rcases hn with z | z <;> simp [isN, z]
theorem cmp_kinds {op : Int} (h : 9 ≤ op ∧ op ≤ 14) {a b : Val} (ha : a.may = true) (hb : b.may = true) (h1 : ¬ a.k = 0) (h2 : ¬ b.k = 0) (h3 : ¬ a.k = b.k) : doR op [a, b] = (nullV, 220) := by
  have e : refE op [a, b] = 220 := by rw [ref_cmp h ha hb, if_pos ⟨h1, h2, h3⟩]
  unfold doR
  rw [e]; rfl
theorem cmp_same {op : Int} (h : 9 ≤ op ∧ op ≤ 14) {a b : Val} (ha : a.may = true) (hb : b.may = true) (h1 : ¬ a.k = 0) (h3 : a.k = b.k) : doR op [a, b] = (tv (holdsB op (cmpV a b)), 0) := by
  have e : refE op [a, b] = 0 := by rw [ref_cmp h ha hb, if_neg]; rintro ⟨_, _, z⟩; exact z h3
  unfold doR
  rw [if_pos e, makes_cmp h, if_neg]
  have h2 : ¬ b.k = 0 := by rw [← h3]; exact h1
  simp [isN, h1, h2]
theorem is_of {op : Int} {a b x : Val} (h : doR op [a, b] = (x, 0)) : isB op a b x = true := by unfold isB; rw [h]; simp [sameV_refl]
theorem fails_of {op : Int} {a b : Val} {e : Int} (h : doR op [a, b] = (nullV, e)) : failsB op a b e = true := by unfold failsB; rw [h]; simp [sameV_refl]
theorem fails_is {op : Int} {a b : Val} {x : Int} {B : Bool} (h : failsB op a b x = B) (ha : a.wf) (hb : b.wf) (wx : World) :
    Calls Try.prog 12 #[.int .u8 op, .agg #[.int .u8 a.k, .int .i64 a.n, .string a.t], .agg #[.int .u8 b.k, .int .i64 b.n, .string b.t], .int .i64 x] wx fun e w' => e = .returned (.bool B) ∧ Below wx.heap.size wx w' := by rw [← h]; exact fails_any wx op a b x ha hb
theorem chk_yes {v : Val} (h : v.may = true) (hw : v.wf) (wx : World) : Calls Try.prog 11 #[.agg #[.int .u8 v.k, .int .i64 v.n, .string v.t]] wx fun e w' => e = .returned (.int .i64 0) ∧ w' = wx.alloc (.cells #[.int .u8 v.k, .int .i64 v.n, .string v.t] 25) := by
  have := check_any wx v.k v.n v.t hw.t1
  rwa [show chk v.k v.n v.t = 0 from by unfold chk; rw [show mayV v.k v.n v.t = true from h]; rfl] at this
theorem chk_no {v : Val} (h : v.may = false) (hw : v.wf) (wx : World) : Calls Try.prog 11 #[.agg #[.int .u8 v.k, .int .i64 v.n, .string v.t]] wx fun e w' => e = .returned (.int .i64 2) ∧ w' = wx.alloc (.cells #[.int .u8 v.k, .int .i64 v.n, .string v.t] 25) := by
  have := check_any wx v.k v.n v.t hw.t1
  rwa [show chk v.k v.n v.t = 2 from by unfold chk; rw [show mayV v.k v.n v.t = false from h]; rfl] at this

set_option maxHeartbeats 3200000 in
theorem ord_bad1 (w : World) (a b : Val) (wa : a.wf) (_wb : b.wf) (h : a.may = false) :
    Calls Try.prog 4 #[.agg #[.int .u8 a.k, .int .i64 a.n, .string a.t], .agg #[.int .u8 b.k, .int .i64 b.n, .string b.t]] w fun e w' => e = .returned (.bool true) ∧ Below w.heap.size w w' := by
  have B0 : Below w.heap.size w w := Below.refl _ _
  have LV := hide (fun wx => lives_any wx)
  have C1 := hide (chk_no h wa)
  clear h
  go_enter Try.func4, Try.ntmps4
  go_wp2_with (fail)
  refine (LV.out _).mono ?_
  rintro e w1 ⟨rfl, hb1⟩
  have La1 : Cel w1 (w.heap.size) a := (((Cel.new (B := w.heap.size) (v := a) (by simp)).alloc _)).later hb1
  have Lb1 : Cel w1 (w.heap.size + 1) b := ((Cel.new (B := w.heap.size + 1) (v := b) (by simp))).later hb1
  have B1 : Below w.heap.size w w1 := bthen (bmore (bmore B0 _) _) hb1
  clear hb1
  obtain ⟨cka1, cna1, cta1, cla1⟩ := id La1
  obtain ⟨ckb1, cnb1, ctb1, clb1⟩ := id Lb1
  go_wp2_with (fail)
  refine (C1.out _).mono ?_
  rintro e wx ⟨rfl, rfl⟩
  go_wp2
  go_ret
  exact ⟨rfl, bmore B1 _⟩

set_option maxHeartbeats 3200000 in
theorem ord_bad2 (w : World) (a b : Val) (wa : a.wf) (wb : b.wf) (h : a.may = true) (h2 : b.may = false) :
    Calls Try.prog 4 #[.agg #[.int .u8 a.k, .int .i64 a.n, .string a.t], .agg #[.int .u8 b.k, .int .i64 b.n, .string b.t]] w fun e w' => e = .returned (.bool true) ∧ Below w.heap.size w w' := by
  have B0 : Below w.heap.size w w := Below.refl _ _
  have LV := hide (fun wx => lives_any wx)
  have C1 := hide (chk_yes h wa)
  have C2 := hide (chk_no h2 wb)
  clear h h2
  go_enter Try.func4, Try.ntmps4
  go_wp2_with (fail)
  refine (LV.out _).mono ?_
  rintro e w1 ⟨rfl, hb1⟩
  have La1 : Cel w1 (w.heap.size) a := (((Cel.new (B := w.heap.size) (v := a) (by simp)).alloc _)).later hb1
  have Lb1 : Cel w1 (w.heap.size + 1) b := ((Cel.new (B := w.heap.size + 1) (v := b) (by simp))).later hb1
  have B1 : Below w.heap.size w w1 := bthen (bmore (bmore B0 _) _) hb1
  clear hb1
  obtain ⟨cka1, cna1, cta1, cla1⟩ := id La1
  obtain ⟨ckb1, cnb1, ctb1, clb1⟩ := id Lb1
  go_wp2_with (fail)
  refine (C1.out _).mono ?_
  rintro e wx ⟨rfl, rfl⟩
  go_wp2_with (fail)
  refine (C2.out _).mono ?_
  rintro e wx ⟨rfl, rfl⟩
  go_wp2
  go_ret
  exact ⟨rfl, bmore (bmore B1 _) _⟩

set_option maxHeartbeats 3200000 in
theorem ord_null (w : World) (a b : Val) (wa : a.wf) (wb : b.wf) (h : a.may = true) (h2 : b.may = true) (hn : (a.k == 0) = true ∨ (a.k == 0) = false ∧ (b.k == 0) = true) :
    Calls Try.prog 4 #[.agg #[.int .u8 a.k, .int .i64 a.n, .string a.t], .agg #[.int .u8 b.k, .int .i64 b.n, .string b.t]] w fun e w' => e = .returned (.bool true) ∧ Below w.heap.size w w' := by
  have B0 : Below w.heap.size w w := Below.refl _ _
  have LV := hide (fun wx => lives_any wx)
  have C1 := hide (chk_yes h wa)
  have C2 := hide (chk_yes h2 wb)
  have hk : a.k = 0 ∨ b.k = 0 := by
    rcases hn with z | ⟨_, z⟩
    · exact .inl (by simpa using z)
    · exact .inr (by simpa using z)
  have J1 := hide (is_is (is_of (cmp_null (op := 11) ⟨by decide, by decide⟩ h h2 hk)) wa wb)
  have J2 := hide (is_is (is_of (cmp_null (op := 9) ⟨by decide, by decide⟩ h h2 hk)) wa wb)
  have J3 := hide (is_is (is_of (cmp_null (op := 14) ⟨by decide, by decide⟩ h h2 hk)) wa wb)
  clear h h2 hk
  rcases hn with hn | ⟨hn, hn2⟩
  · go_enter Try.func4, Try.ntmps4
    go_wp2_with (fail)
    refine (LV.out _).mono ?_
    rintro e w1 ⟨rfl, hb1⟩
    have La1 : Cel w1 (w.heap.size) a := (((Cel.new (B := w.heap.size) (v := a) (by simp)).alloc _)).later hb1
    have Lb1 : Cel w1 (w.heap.size + 1) b := ((Cel.new (B := w.heap.size + 1) (v := b) (by simp))).later hb1
    have B1 : Below w.heap.size w w1 := bthen (bmore (bmore B0 _) _) hb1
    clear hb1
    obtain ⟨cka1, cna1, cta1, cla1⟩ := id La1
    obtain ⟨ckb1, cnb1, ctb1, clb1⟩ := id Lb1
    go_wp2_with (fail)
    refine (C1.out _).mono ?_
    rintro e wx ⟨rfl, rfl⟩
    go_wp2_with (fail)
    refine (C2.out _).mono ?_
    rintro e wx ⟨rfl, rfl⟩
    go_wp2_with (fail)
    refine (J1.out _).mono ?_
    rintro e w2 ⟨rfl, hb2⟩
    have La2 : Cel w2 ((w.heap.size)) a := (((La1.alloc _).alloc _)).later hb2
    have Lb2 : Cel w2 ((w.heap.size + 1)) b := (((Lb1.alloc _).alloc _)).later hb2
    have B2 : Below w.heap.size w w2 := bthen (bmore (bmore B1 _) _) hb2
    clear hb2 cka1 cna1 cta1 cla1 ckb1 cnb1 ctb1 clb1 La1 Lb1 B1
    obtain ⟨cka2, cna2, cta2, cla2⟩ := id La2
    obtain ⟨ckb2, cnb2, ctb2, clb2⟩ := id Lb2
    go_wp2_with (fail)
    refine (J2.out _).mono ?_
    rintro e w3 ⟨rfl, hb3⟩
    have La3 : Cel w3 (((w.heap.size))) a := (La2).later hb3
    have Lb3 : Cel w3 (((w.heap.size + 1))) b := (Lb2).later hb3
    have B3 : Below w.heap.size w w3 := bthen B2 hb3
    clear hb3 cka2 cna2 cta2 cla2 ckb2 cnb2 ctb2 clb2 La2 Lb2 B2
    obtain ⟨cka3, cna3, cta3, cla3⟩ := id La3
    obtain ⟨ckb3, cnb3, ctb3, clb3⟩ := id Lb3
    go_wp2_with (fail)
    refine (J3.out _).mono ?_
    rintro e w4 ⟨rfl, hb4⟩
    have La4 : Cel w4 ((((w.heap.size)))) a := (La3).later hb4
    have Lb4 : Cel w4 ((((w.heap.size + 1)))) b := (Lb3).later hb4
    have B4 : Below w.heap.size w w4 := bthen B3 hb4
    clear hb4 cka3 cna3 cta3 cla3 ckb3 cnb3 ctb3 clb3 La3 Lb3 B3
    obtain ⟨cka4, cna4, cta4, cla4⟩ := id La4
    obtain ⟨ckb4, cnb4, ctb4, clb4⟩ := id Lb4
    go_wp2
    go_ret
    exact ⟨rfl, B4⟩
  · go_enter Try.func4, Try.ntmps4
    go_wp2_with (fail)
    refine (LV.out _).mono ?_
    rintro e w1 ⟨rfl, hb1⟩
    have La1 : Cel w1 (w.heap.size) a := (((Cel.new (B := w.heap.size) (v := a) (by simp)).alloc _)).later hb1
    have Lb1 : Cel w1 (w.heap.size + 1) b := ((Cel.new (B := w.heap.size + 1) (v := b) (by simp))).later hb1
    have B1 : Below w.heap.size w w1 := bthen (bmore (bmore B0 _) _) hb1
    clear hb1
    obtain ⟨cka1, cna1, cta1, cla1⟩ := id La1
    obtain ⟨ckb1, cnb1, ctb1, clb1⟩ := id Lb1
    go_wp2_with (fail)
    refine (C1.out _).mono ?_
    rintro e wx ⟨rfl, rfl⟩
    go_wp2_with (fail)
    refine (C2.out _).mono ?_
    rintro e wx ⟨rfl, rfl⟩
    go_wp2_with (fail)
    refine (J1.out _).mono ?_
    rintro e w2 ⟨rfl, hb2⟩
    have La2 : Cel w2 ((w.heap.size)) a := (((La1.alloc _).alloc _)).later hb2
    have Lb2 : Cel w2 ((w.heap.size + 1)) b := (((Lb1.alloc _).alloc _)).later hb2
    have B2 : Below w.heap.size w w2 := bthen (bmore (bmore B1 _) _) hb2
    clear hb2 cka1 cna1 cta1 cla1 ckb1 cnb1 ctb1 clb1 La1 Lb1 B1
    obtain ⟨cka2, cna2, cta2, cla2⟩ := id La2
    obtain ⟨ckb2, cnb2, ctb2, clb2⟩ := id Lb2
    go_wp2_with (fail)
    refine (J2.out _).mono ?_
    rintro e w3 ⟨rfl, hb3⟩
    have La3 : Cel w3 (((w.heap.size))) a := (La2).later hb3
    have Lb3 : Cel w3 (((w.heap.size + 1))) b := (Lb2).later hb3
    have B3 : Below w.heap.size w w3 := bthen B2 hb3
    clear hb3 cka2 cna2 cta2 cla2 ckb2 cnb2 ctb2 clb2 La2 Lb2 B2
    obtain ⟨cka3, cna3, cta3, cla3⟩ := id La3
    obtain ⟨ckb3, cnb3, ctb3, clb3⟩ := id Lb3
    go_wp2_with (fail)
    refine (J3.out _).mono ?_
    rintro e w4 ⟨rfl, hb4⟩
    have La4 : Cel w4 ((((w.heap.size)))) a := (La3).later hb4
    have Lb4 : Cel w4 ((((w.heap.size + 1)))) b := (Lb3).later hb4
    have B4 : Below w.heap.size w w4 := bthen B3 hb4
    clear hb4 cka3 cna3 cta3 cla3 ckb3 cnb3 ctb3 clb3 La3 Lb3 B3
    obtain ⟨cka4, cna4, cta4, cla4⟩ := id La4
    obtain ⟨ckb4, cnb4, ctb4, clb4⟩ := id Lb4
    go_wp2
    go_ret
    exact ⟨rfl, B4⟩

set_option maxHeartbeats 3200000 in
theorem ord_kinds (w : World) (a b : Val) (wa : a.wf) (wb : b.wf) (h : a.may = true) (h2 : b.may = true) (n1 : (a.k == 0) = false) (n2 : (b.k == 0) = false) (n3 : (a.k != b.k) = true) :
    Calls Try.prog 4 #[.agg #[.int .u8 a.k, .int .i64 a.n, .string a.t], .agg #[.int .u8 b.k, .int .i64 b.n, .string b.t]] w fun e w' => e = .returned (.bool true) ∧ Below w.heap.size w w' := by
  have B0 : Below w.heap.size w w := Below.refl _ _
  have LV := hide (fun wx => lives_any wx)
  have C1 := hide (chk_yes h wa)
  have C2 := hide (chk_yes h2 wb)
  have m1 : ¬ a.k = 0 := by simpa using n1
  have m2 : ¬ b.k = 0 := by simpa using n2
  have m3 : ¬ a.k = b.k := by simpa using n3
  have J1 := hide (fails_is (fails_of (cmp_kinds (op := 11) ⟨by decide, by decide⟩ h h2 m1 m2 m3)) wa wb)
  have J2 := hide (fails_is (fails_of (cmp_kinds (op := 9) ⟨by decide, by decide⟩ h h2 m1 m2 m3)) wa wb)
  clear h h2 m1 m2 m3
  go_enter Try.func4, Try.ntmps4
  go_wp2_with (fail)
  refine (LV.out _).mono ?_
  rintro e w1 ⟨rfl, hb1⟩
  have La1 : Cel w1 (w.heap.size) a := (((Cel.new (B := w.heap.size) (v := a) (by simp)).alloc _)).later hb1
  have Lb1 : Cel w1 (w.heap.size + 1) b := ((Cel.new (B := w.heap.size + 1) (v := b) (by simp))).later hb1
  have B1 : Below w.heap.size w w1 := bthen (bmore (bmore B0 _) _) hb1
  clear hb1
  obtain ⟨cka1, cna1, cta1, cla1⟩ := id La1
  obtain ⟨ckb1, cnb1, ctb1, clb1⟩ := id Lb1
  go_wp2_with (fail)
  refine (C1.out _).mono ?_
  rintro e wx ⟨rfl, rfl⟩
  go_wp2_with (fail)
  refine (C2.out _).mono ?_
  rintro e wx ⟨rfl, rfl⟩
  go_wp2_with (fail)
  refine (J1.out _).mono ?_
  rintro e w2 ⟨rfl, hb2⟩
  have La2 : Cel w2 ((w.heap.size)) a := (((La1.alloc _).alloc _)).later hb2
  have Lb2 : Cel w2 ((w.heap.size + 1)) b := (((Lb1.alloc _).alloc _)).later hb2
  have B2 : Below w.heap.size w w2 := bthen (bmore (bmore B1 _) _) hb2
  clear hb2 cka1 cna1 cta1 cla1 ckb1 cnb1 ctb1 clb1 La1 Lb1 B1
  obtain ⟨cka2, cna2, cta2, cla2⟩ := id La2
  obtain ⟨ckb2, cnb2, ctb2, clb2⟩ := id Lb2
  go_wp2_with (fail)
  refine (J2.out _).mono ?_
  rintro e w3 ⟨rfl, hb3⟩
  have La3 : Cel w3 (((w.heap.size))) a := (La2).later hb3
  have Lb3 : Cel w3 (((w.heap.size + 1))) b := (Lb2).later hb3
  have B3 : Below w.heap.size w w3 := bthen B2 hb3
  clear hb3 cka2 cna2 cta2 cla2 ckb2 cnb2 ctb2 clb2 La2 Lb2 B2
  obtain ⟨cka3, cna3, cta3, cla3⟩ := id La3
  obtain ⟨ckb3, cnb3, ctb3, clb3⟩ := id Lb3
  go_wp2
  go_ret
  exact ⟨rfl, B3⟩

/-- A value in one of four new blocks. -/
theorem Cel.p0 {w : World} {v : Val} {x y z : Value} {o1 o2 o3 : Obj} (hx : x = .int .u8 v.k) (hy : y = .int .i64 v.n) (hz : z = .string v.t) : Cel ((((w.alloc (.cells #[x, y, z] 25)).alloc o1).alloc o2).alloc o3).drew w.heap.size v :=
  ((((Cel.at rfl hx hy hz).alloc _).alloc _).alloc _).drew
theorem Cel.p1 {w : World} {v : Val} {x y z : Value} {o1 o2 o3 : Obj} (hx : x = .int .u8 v.k) (hy : y = .int .i64 v.n) (hz : z = .string v.t) : Cel ((((w.alloc o1).alloc (.cells #[x, y, z] 25)).alloc o2).alloc o3).drew (w.heap.size + 1) v :=
  (((Cel.at (by simp) hx hy hz).alloc _).alloc _).drew
theorem Cel.p2 {w : World} {v : Val} {x y z : Value} {o1 o2 o3 : Obj} (hx : x = .int .u8 v.k) (hy : y = .int .i64 v.n) (hz : z = .string v.t) : Cel ((((w.alloc o1).alloc o2).alloc (.cells #[x, y, z] 25)).alloc o3).drew (w.heap.size + 1 + 1) v :=
  ((Cel.at (by simp) hx hy hz).alloc _).drew
theorem Cel.p3 {w : World} {v : Val} {x y z : Value} {o1 o2 o3 : Obj} (hx : x = .int .u8 v.k) (hy : y = .int .i64 v.n) (hz : z = .string v.t) : Cel ((((w.alloc o1).alloc o2).alloc o3).alloc (.cells #[x, y, z] 25)).drew (w.heap.size + 1 + 1 + 1) v :=
  (Cel.at (by simp) hx hy hz).drew
set_option maxRecDepth 100000 in
theorem neq_val (a b : Int) (c : ByteArray) (a' b' : Int) (c' : ByteArray) (W : World) : (binOp .neq 25 (.agg #[.int .u8 a, .int .i64 b, .string c]) (.agg #[.int .u8 a', .int .i64 b', .string c'])).run Try.prog W = .ok (.bool (!sameV ⟨a, b, c⟩ ⟨a', b', c'⟩)) W := by
  have hu : Try.prog.underlying 25 = some (.struct (Try.prog.fieldsOf 25)) := by kernel_rfl
  have hp : Try.prog.stoodInHeld 25 = false := by kernel_rfl
  rw [run_neq_struct, run_equalIn_agg _ _ _ _ _ hu hp]
  clear hu hp
  unfold sameV
  cases h1 : (a == a') <;> cases h2 : (b == b') <;> cases h3 : (c.toList == c'.toList)
  all_goals
    go_simp
theorem cmpV_self (v : Val) : cmpV v v = 0 := by
  unfold cmpV
  rw [(cmpI_eq v.k v.k).mpr rfl, (cmpI_eq v.n v.n).mpr rfl, cmpS_same rfl]; rfl

/-- Four values, each in its block. -/
def Four (w : World) (A B C D : Nat) (a b c d : Val) : Prop := ((w.cell? ⟨A, 0, none⟩ = some (.int .u8 a.k) ∧ w.cell? ⟨A, 1, none⟩ = some (.int .i64 a.n) ∧ w.cell? ⟨A, 2, none⟩ = some (.string a.t)) ∧ w.cell? ⟨B, 0, none⟩ = some (.int .u8 b.k) ∧ w.cell? ⟨B, 1, none⟩ = some (.int .i64 b.n) ∧ w.cell? ⟨B, 2, none⟩ = some (.string b.t)) ∧ (w.cell? ⟨C, 0, none⟩ = some (.int .u8 c.k) ∧ w.cell? ⟨C, 1, none⟩ = some (.int .i64 c.n) ∧ w.cell? ⟨C, 2, none⟩ = some (.string c.t)) ∧ w.cell? ⟨D, 0, none⟩ = some (.int .u8 d.k) ∧ w.cell? ⟨D, 1, none⟩ = some (.int .i64 d.n) ∧ w.cell? ⟨D, 2, none⟩ = some (.string d.t)
theorem Four.of {w : World} {A B C D : Nat} {a b c d : Val} (h1 : Cel w A a) (h2 : Cel w B b) (h3 : Cel w C c) (h4 : Cel w D d) : Four w A B C D a b c d :=
  ⟨⟨⟨h1.k, h1.n, h1.t⟩, h2.k, h2.n, h2.t⟩, ⟨h3.k, h3.n, h3.t⟩, h4.k, h4.n, h4.t⟩
/-- The same as parts. -/
structure Fours (w : World) (A B C D : Nat) (a b c d : Val) : Prop where
  h1 : Cel w A a
  h2 : Cel w B b
  h3 : Cel w C c
  h4 : Cel w D d
theorem Fours.later {w w' : World} {A B C D : Nat} {a b c d : Val} (h : Fours w A B C D a b c d) (hb : Below w.heap.size w w') : Fours w' A B C D a b c d := ⟨h.h1.later hb, h.h2.later hb, h.h3.later hb, h.h4.later hb⟩
theorem Fours.four {w : World} {A B C D : Nat} {a b c d : Val} (h : Fours w A B C D a b c d) : Four w A B C D a b c d := Four.of h.h1 h.h2 h.h3 h.h4

end Go.Proofs.Ytoaliblndieaiaa
