/-
  The law's walk over two values of one kind: the first is ahead.
-/
import Derived.Test.YtoaliblndieaiaaUOrder
namespace Go.Proofs.Ytoaliblndieaiaa
open Go.RowKit
attribute [local go_sem ↓] Go.wp_at_zero Go.wp_at_succ

set_option maxHeartbeats 8000000 in
theorem ord_less (w : World) (a b : Val) (wa : a.wf) (wb : b.wf) (hc : cmpV a b = (-1)) (h : a.may = true) (h2 : b.may = true) (n1 : (a.k == 0) = false) (n2 : (b.k == 0) = false) (n3 : (a.k != b.k) = false) (hs : sameV a b = false) :
    Calls Try.prog 4 #[.agg #[.int .u8 a.k, .int .i64 a.n, .string a.t], .agg #[.int .u8 b.k, .int .i64 b.n, .string b.t]] w fun e w' => e = .returned (.bool true) ∧ Below w.heap.size w w' := by
  have B0 : Below w.heap.size w w := Below.refl _ _
  have LV := hide (fun wx => lives_any wx)
  have C1 := hide (chk_yes h wa)
  have C2 := hide (chk_yes h2 wb)
  have m1 : ¬ a.k = 0 := by simpa using n1
  have m3 : a.k = b.k := by simpa using n3
  have J := hide (fun (op : Int) (ho : 9 ≤ op ∧ op ≤ 14) => is_is (is_of (cmp_same (op := op) ho h h2 m1 m3)) wa wb)
  rw [hc] at J
  have CM := hide (fun (wx : World) (v u : Value) (h1 : ValsIn wx v [a]) (h2 : ValsIn wx u [b]) => compare_any wx v u _ _ h1 h2)
  rw [cmpL_one, hc] at CM
  have EQ := eql_val a.k a.n a.t b.k b.n b.t
  rw [show sameV ⟨a.k, a.n, a.t⟩ ⟨b.k, b.n, b.t⟩ = false from hs] at EQ
  have NE := neq_val a.k a.n a.t b.k b.n b.t
  rw [show sameV ⟨a.k, a.n, a.t⟩ ⟨b.k, b.n, b.t⟩ = false from hs] at NE
  clear h h2 m1 m3 hc hs
  go_enter Try.func4, Try.ntmps4
  go_wp2_with (fail)
  refine (LV.out _).mono ?_
  rintro e w1 ⟨rfl, hb1⟩
  have La1 : Cel w1 (w.heap.size) a := (((Cel.new (B := w.heap.size) (v := a) (by simp)).alloc _)).later hb1
  have Lb1 : Cel w1 (w.heap.size + 1) b := ((Cel.new (B := w.heap.size + 1) (v := b) (by simp))).later hb1
  have B1 : Below w.heap.size w w1 := bthen (bmore (bmore B0 _) _) hb1
  clear hb1
  obtain ⟨cka1, cna1, cta1, cla1⟩ := id La1
  obtain ⟨ckb1, cnb1, ctb1, clb1⟩ := id Lb1
  go_wp2_with (fail)
  refine (C1.out _).mono ?_
  rintro e wx ⟨rfl, rfl⟩
  go_wp2_with (fail)
  refine (C2.out _).mono ?_
  rintro e wx ⟨rfl, rfl⟩
  go_wp2_with (fail)
  refine (CM.out _ _ _ ((one_in _ a wa (by simp)).later ((Below.refl _ _).alloc (Nat.le_refl _) _)) (one_in _ b wb (by simp))).mono ?_
  rintro e w2 ⟨rfl, hb2⟩
  have La2 : Cel w2 ((w.heap.size)) a := (((((La1.alloc _).alloc _).alloc _).alloc _)).later hb2
  have Lb2 : Cel w2 ((w.heap.size + 1)) b := (((((Lb1.alloc _).alloc _).alloc _).alloc _)).later hb2
  have B2 : Below w.heap.size w w2 := bthen (bmore (bmore (bmore (bmore B1 _) _) _) _) hb2
  clear hb2 cka1 cna1 cta1 cla1 ckb1 cnb1 ctb1 clb1 La1 Lb1 B1
  obtain ⟨cka2, cna2, cta2, cla2⟩ := id La2
  obtain ⟨ckb2, cnb2, ctb2, clb2⟩ := id Lb2
  have TK := hide (fun (wx : World) (bb : Bool) => ltruth_any wx bb)
  have J11 : Hid (∀ wx : World, Calls Try.prog 10 #[.int .u8 11, .agg #[.int .u8 a.k, .int .i64 a.n, .string a.t], .agg #[.int .u8 b.k, .int .i64 b.n, .string b.t], .agg #[.int .u8 1, .int .i64 1, .string ⟨#[]⟩]] wx fun e w' => e = .returned (.bool true) ∧ Below wx.heap.size wx w') := fun wx => by
    have := J.out 11 ⟨by decide, by decide⟩ wx
    rw [show holdsB 11 (-1) = true from by decide] at this; exact this
  have J9 : Hid (∀ wx : World, Calls Try.prog 10 #[.int .u8 9, .agg #[.int .u8 a.k, .int .i64 a.n, .string a.t], .agg #[.int .u8 b.k, .int .i64 b.n, .string b.t], .agg #[.int .u8 1, .int .i64 0, .string ⟨#[]⟩]] wx fun e w' => e = .returned (.bool true) ∧ Below wx.heap.size wx w') := fun wx => by
    have := J.out 9 ⟨by decide, by decide⟩ wx
    rw [show holdsB 9 (-1) = false from by decide] at this; exact this
  have J13 : Hid (∀ wx : World, Calls Try.prog 10 #[.int .u8 13, .agg #[.int .u8 a.k, .int .i64 a.n, .string a.t], .agg #[.int .u8 b.k, .int .i64 b.n, .string b.t], .agg #[.int .u8 1, .int .i64 0, .string ⟨#[]⟩]] wx fun e w' => e = .returned (.bool true) ∧ Below wx.heap.size wx w') := fun wx => by
    have := J.out 13 ⟨by decide, by decide⟩ wx
    rw [show holdsB 13 (-1) = false from by decide] at this; exact this
  have J10 : Hid (∀ wx : World, Calls Try.prog 10 #[.int .u8 10, .agg #[.int .u8 a.k, .int .i64 a.n, .string a.t], .agg #[.int .u8 b.k, .int .i64 b.n, .string b.t], .agg #[.int .u8 1, .int .i64 1, .string ⟨#[]⟩]] wx fun e w' => e = .returned (.bool true) ∧ Below wx.heap.size wx w') := fun wx => by
    have := J.out 10 ⟨by decide, by decide⟩ wx
    rw [show holdsB 10 (-1) = true from by decide] at this; exact this
  have J12 : Hid (∀ wx : World, Calls Try.prog 10 #[.int .u8 12, .agg #[.int .u8 a.k, .int .i64 a.n, .string a.t], .agg #[.int .u8 b.k, .int .i64 b.n, .string b.t], .agg #[.int .u8 1, .int .i64 1, .string ⟨#[]⟩]] wx fun e w' => e = .returned (.bool true) ∧ Below wx.heap.size wx w') := fun wx => by
    have := J.out 12 ⟨by decide, by decide⟩ wx
    rw [show holdsB 12 (-1) = true from by decide] at this; exact this
  have J14 : Hid (∀ wx : World, Calls Try.prog 10 #[.int .u8 14, .agg #[.int .u8 a.k, .int .i64 a.n, .string a.t], .agg #[.int .u8 b.k, .int .i64 b.n, .string b.t], .agg #[.int .u8 1, .int .i64 0, .string ⟨#[]⟩]] wx fun e w' => e = .returned (.bool true) ∧ Below wx.heap.size wx w') := fun wx => by
    have := J.out 14 ⟨by decide, by decide⟩ wx
    rw [show holdsB 14 (-1) = false from by decide] at this; exact this
  clear J
  go_wp2_with (fail)
  go_cut [6, 7] from 60 to 66 (fun p q wx => ∃ P Q, p = .pointer (some ⟨P, 0, none⟩) ∧ q = .pointer (some ⟨Q, 0, none⟩) ∧ Fours wx w.heap.size (w.heap.size + 1) P Q a b (tv true) (tv false) ∧ Below w.heap.size w wx)
  case first =>
    have x1 : w.heap.size < w2.heap.size + 1 := by omega
    have x2 : w.heap.size < w2.heap.size + 1 + 1 := by omega
    have x3 : w.heap.size < w2.heap.size + 1 + 1 + 1 := by omega
    go_region_held3 (fun w' => (w'.cell? ⟨w.heap.size, 0, none⟩ = some (.int .u8 a.k) ∧ w'.cell? ⟨w.heap.size, 1, none⟩ = some (.int .i64 a.n) ∧ w'.cell? ⟨w.heap.size, 2, none⟩ = some (.string a.t)) ∧ w'.cell? ⟨w.heap.size + 1, 0, none⟩ = some (.int .u8 b.k) ∧ w'.cell? ⟨w.heap.size + 1, 1, none⟩ = some (.int .i64 b.n) ∧ w'.cell? ⟨w.heap.size + 1, 2, none⟩ = some (.string b.t))
      (first | exact ⟨⟨cka2, cna2, cta2⟩, ckb2, cnb2, ctb2⟩ | (simp [go_sem, cka2, cna2, cta2, ckb2, cnb2, ctb2, cla2, clb2, x1, x2, x3]; done))
      (first | (go_at_call 14; refine (TK.out _ _).mono ?_; rintro e wx ⟨rfl, rfl⟩))
    all_goals
      go_wp2_with (fail)
      go_meet
      case rel =>
        refine ⟨_, _, rfl, rfl, ⟨((((La2.alloc _).alloc _).alloc _).alloc _).drew, ((((Lb2.alloc _).alloc _).alloc _).alloc _).drew, ?_, ?_⟩, (bmore (bmore (bmore (bmore B2 _) _) _) _).drew⟩
        · first | exact Cel.p0 (v := tv true) rfl rfl rfl | exact Cel.p1 (v := tv true) rfl rfl rfl | exact Cel.p2 (v := tv true) rfl rfl rfl | exact Cel.p3 (v := tv true) rfl rfl rfl
        · first | exact Cel.p0 (v := tv false) rfl rfl rfl | exact Cel.p1 (v := tv false) rfl rfl rfl | exact Cel.p2 (v := tv false) rfl rfl rfl | exact Cel.p3 (v := tv false) rfl rfl rfl
  case rest =>
    obtain ⟨P, Q, rfl, rfl, F4, BC⟩ := hcut
    clear La2 Lb2 B2 cka2 cna2 cta2 cla2 ckb2 cnb2 ctb2 clb2
    go_wp2_with (fail)
    replace F4 := F4.later (Below.refl _ _).drew
    replace BC := BC.drew
    refine wp_region_held_drew (S := (fun w' => ((w'.cell? ⟨w.heap.size, 0, none⟩ = some (.int .u8 a.k) ∧ w'.cell? ⟨w.heap.size, 1, none⟩ = some (.int .i64 a.n) ∧ w'.cell? ⟨w.heap.size, 2, none⟩ = some (.string a.t)) ∧ w'.cell? ⟨w.heap.size + 1, 0, none⟩ = some (.int .u8 b.k) ∧ w'.cell? ⟨w.heap.size + 1, 1, none⟩ = some (.int .i64 b.n) ∧ w'.cell? ⟨w.heap.size + 1, 2, none⟩ = some (.string b.t)) ∧ (w'.cell? ⟨P, 0, none⟩ = some (.int .u8 1) ∧ w'.cell? ⟨P, 1, none⟩ = some (.int .i64 1) ∧ w'.cell? ⟨P, 2, none⟩ = some (.string ⟨#[]⟩)) ∧ w'.cell? ⟨Q, 0, none⟩ = some (.int .u8 1) ∧ w'.cell? ⟨Q, 1, none⟩ = some (.int .i64 0) ∧ w'.cell? ⟨Q, 2, none⟩ = some (.string ⟨#[]⟩))) (by kernel_rfl) F4.four (fun hHeld => ?_)
    refine takeH (oi := ?oiu1) 0 67 (.agg #[.int .u8 a.k, .int .i64 a.n, .string a.t]) ?hiu1 ?hdu1 ?hwu1 ?hyu1 (by kernel_rfl) (by kernel_rfl) (by kernel_rfl) ?hQu1 (by assumption) ?_
    case hiu1 => simp only [List.getElem?_toArray, List.getElem?_cons_zero]; rfl
    case hdu1 => rfl
    case hwu1 => rfl
    case hyu1 => (intro w hSw; (try dsimp only at hSw); go_simp)
    case hQu1 => exact fun _ _ _ h => h
    simp only [Act.put, List.setIfInBounds_toArray, List.set_cons_zero, List.set_cons_succ]
    refine takeH (oi := ?oiu2) 1 68 (.agg #[.int .u8 b.k, .int .i64 b.n, .string b.t]) ?hiu2 ?hdu2 ?hwu2 ?hyu2 (by kernel_rfl) (by kernel_rfl) (by kernel_rfl) ?hQu2 (by assumption) ?_
    case hiu2 => simp only [List.getElem?_toArray, List.getElem?_cons_zero, List.getElem?_cons_succ]; rfl
    case hdu2 => rfl
    case hwu2 => rfl
    case hyu2 => (intro w hSw; (try dsimp only at hSw); go_simp)
    case hQu2 => exact fun _ _ _ h => h
    simp only [Act.put, List.setIfInBounds_toArray, List.set_cons_zero, List.set_cons_succ]
    refine takeH (oi := ?oiu3) 2 69 (.agg #[.int .u8 1, .int .i64 1, .string ⟨#[]⟩]) ?hiu3 ?hdu3 ?hwu3 ?hyu3 (by kernel_rfl) (by kernel_rfl) (by kernel_rfl) ?hQu3 (by assumption) ?_
    case hiu3 => simp only [List.getElem?_toArray, List.getElem?_cons_zero, List.getElem?_cons_succ]; rfl
    case hdu3 => rfl
    case hwu3 => rfl
    case hyu3 => (intro w hSw; (try dsimp only at hSw); go_simp)
    case hQu3 => exact fun _ _ _ h => h
    simp only [Act.put, List.setIfInBounds_toArray, List.set_cons_zero, List.set_cons_succ]
    refine wpAnyH_ready (rs := [3]) (by kernel_rfl) (by simp) ?_
    refine AllReadyH.cons rfl (fun KK hK => ?_) AllReadyH.nil
    go_simp
    refine (J11.out _).mono ?_
    rintro e wz1 ⟨rfl, hz⟩
    replace F4 := F4.later hz
    replace BC := bthen BC hz
    clear hz
    go_wp2_with (fail)
    refine hK.out _ _ F4.four (fun hHeld => ?_)
    clear hK KK
    refine takeH (oi := ?oiu4) 4 71 (.bool true) ?hiu4 ?hdu4 ?hwu4 ?hyu4 (by kernel_rfl) (by kernel_rfl) (by kernel_rfl) ?hQu4 (by assumption) ?_
    case hiu4 => simp only [List.getElem?_toArray, List.getElem?_cons_zero, List.getElem?_cons_succ]; rfl
    case hdu4 => rfl
    case hwu4 => rfl
    case hyu4 => (intro w hSw; (try dsimp only at hSw); go_simp)
    case hQu4 => exact fun _ _ _ h => h
    simp only [Act.put, List.setIfInBounds_toArray, List.set_cons_zero, List.set_cons_succ]
    refine takeH (oi := ?oiu5) 5 72 (.agg #[.int .u8 a.k, .int .i64 a.n, .string a.t]) ?hiu5 ?hdu5 ?hwu5 ?hyu5 (by kernel_rfl) (by kernel_rfl) (by kernel_rfl) ?hQu5 (by assumption) ?_
    case hiu5 => simp only [List.getElem?_toArray, List.getElem?_cons_zero, List.getElem?_cons_succ]; rfl
    case hdu5 => rfl
    case hwu5 => rfl
    case hyu5 => (intro w hSw; (try dsimp only at hSw); go_simp)
    case hQu5 => exact fun _ _ _ h => h
    simp only [Act.put, List.setIfInBounds_toArray, List.set_cons_zero, List.set_cons_succ]
    refine takeH (oi := ?oiu6) 6 73 (.agg #[.int .u8 b.k, .int .i64 b.n, .string b.t]) ?hiu6 ?hdu6 ?hwu6 ?hyu6 (by kernel_rfl) (by kernel_rfl) (by kernel_rfl) ?hQu6 (by assumption) ?_
    case hiu6 => simp only [List.getElem?_toArray, List.getElem?_cons_zero, List.getElem?_cons_succ]; rfl
    case hdu6 => rfl
    case hwu6 => rfl
    case hyu6 => (intro w hSw; (try dsimp only at hSw); go_simp)
    case hQu6 => exact fun _ _ _ h => h
    simp only [Act.put, List.setIfInBounds_toArray, List.set_cons_zero, List.set_cons_succ]
    refine takeH (oi := ?oiu7) 7 74 (.agg #[.int .u8 1, .int .i64 0, .string ⟨#[]⟩]) ?hiu7 ?hdu7 ?hwu7 ?hyu7 (by kernel_rfl) (by kernel_rfl) (by kernel_rfl) ?hQu7 (by assumption) ?_
    case hiu7 => simp only [List.getElem?_toArray, List.getElem?_cons_zero, List.getElem?_cons_succ]; rfl
    case hdu7 => rfl
    case hwu7 => rfl
    case hyu7 => (intro w hSw; (try dsimp only at hSw); go_simp)
    case hQu7 => exact fun _ _ _ h => h
    simp only [Act.put, List.setIfInBounds_toArray, List.set_cons_zero, List.set_cons_succ]
    refine wpAnyH_ready (rs := [8]) (by kernel_rfl) (by simp) ?_
    refine AllReadyH.cons rfl (fun KK hK => ?_) AllReadyH.nil
    go_simp
    refine (J9.out _).mono ?_
    rintro e wz2 ⟨rfl, hz⟩
    replace F4 := F4.later hz
    replace BC := bthen BC hz
    clear hz
    go_wp2_with (fail)
    refine hK.out _ _ F4.four (fun hHeld => ?_)
    clear hK KK
    refine takeH (oi := ?oiu8) 9 76 (.bool true) ?hiu8 ?hdu8 ?hwu8 ?hyu8 (by kernel_rfl) (by kernel_rfl) (by kernel_rfl) ?hQu8 (by assumption) ?_
    case hiu8 => simp only [List.getElem?_toArray, List.getElem?_cons_zero, List.getElem?_cons_succ]; rfl
    case hdu8 => rfl
    case hwu8 => rfl
    case hyu8 => (intro w hSw; (try dsimp only at hSw); go_simp)
    case hQu8 => exact fun _ _ _ h => h
    simp only [Act.put, List.setIfInBounds_toArray, List.set_cons_zero, List.set_cons_succ]
    refine takeH (oi := ?oiu9) 10 77 (.bool true) ?hiu9 ?hdu9 ?hwu9 ?hyu9 (by kernel_rfl) (by kernel_rfl) (by kernel_rfl) ?hQu9 (by assumption) ?_
    case hiu9 => simp only [List.getElem?_toArray, List.getElem?_cons_zero, List.getElem?_cons_succ]; rfl
    case hdu9 => rfl
    case hwu9 => rfl
    case hyu9 => (intro w hSw; (try dsimp only at hSw); go_simp)
    case hQu9 => exact fun _ _ _ h => h
    simp only [Act.put, List.setIfInBounds_toArray, List.set_cons_zero, List.set_cons_succ]
    refine takeH (oi := ?oiu10) 11 78 (.agg #[.int .u8 a.k, .int .i64 a.n, .string a.t]) ?hiu10 ?hdu10 ?hwu10 ?hyu10 (by kernel_rfl) (by kernel_rfl) (by kernel_rfl) ?hQu10 (by assumption) ?_
    case hiu10 => simp only [List.getElem?_toArray, List.getElem?_cons_zero, List.getElem?_cons_succ]; rfl
    case hdu10 => rfl
    case hwu10 => rfl
    case hyu10 => (intro w hSw; (try dsimp only at hSw); go_simp)
    case hQu10 => exact fun _ _ _ h => h
    simp only [Act.put, List.setIfInBounds_toArray, List.set_cons_zero, List.set_cons_succ]
    refine takeH (oi := ?oiu11) 12 79 (.agg #[.int .u8 b.k, .int .i64 b.n, .string b.t]) ?hiu11 ?hdu11 ?hwu11 ?hyu11 (by kernel_rfl) (by kernel_rfl) (by kernel_rfl) ?hQu11 (by assumption) ?_
    case hiu11 => simp only [List.getElem?_toArray, List.getElem?_cons_zero, List.getElem?_cons_succ]; rfl
    case hdu11 => rfl
    case hwu11 => rfl
    case hyu11 => (intro w hSw; (try dsimp only at hSw); go_simp)
    case hQu11 => exact fun _ _ _ h => h
    simp only [Act.put, List.setIfInBounds_toArray, List.set_cons_zero, List.set_cons_succ]
    refine takeH (oi := ?oiu12) 13 80 (.int .i64 (-1)) ?hiu12 ?hdu12 ?hwu12 ?hyu12 (by kernel_rfl) (by kernel_rfl) (by kernel_rfl) ?hQu12 (by assumption) ?_
    case hiu12 => simp only [List.getElem?_toArray, List.getElem?_cons_zero, List.getElem?_cons_succ]; rfl
    case hdu12 => rfl
    case hwu12 => rfl
    case hyu12 => (intro w hSw; (try dsimp only at hSw); go_simp)
    case hQu12 => exact fun _ _ _ h => h
    simp only [Act.put, List.setIfInBounds_toArray, List.set_cons_zero, List.set_cons_succ]
    refine takeH (oi := ?oiu13) 14 81 (.bool false) ?hiu13 ?hdu13 ?hwu13 ?hyu13 (by kernel_rfl) (by kernel_rfl) (by kernel_rfl) ?hQu13 (by assumption) ?_
    case hiu13 => simp only [List.getElem?_toArray, List.getElem?_cons_zero, List.getElem?_cons_succ]; rfl
    case hdu13 => rfl
    case hwu13 => rfl
    case hyu13 => (intro w hSw; (try dsimp only at hSw); go_simp)
    case hQu13 => exact fun _ _ _ h => h
    simp only [Act.put, List.setIfInBounds_toArray, List.set_cons_zero, List.set_cons_succ]
    refine wpAnyH_ready (rs := [15]) (by kernel_rfl) (by simp) ?_
    refine AllReadyH.cons rfl (fun KK hK => ?_) AllReadyH.nil
    go_simp
    refine (TK.out _ _).mono ?_
    rintro e wz3 ⟨rfl, hz⟩
    replace F4 := F4.later (below_one hz)
    replace BC := bthen BC (below_one hz)
    clear hz
    go_wp2_with (fail)
    refine hK.out _ _ F4.four (fun hHeld => ?_)
    clear hK KK
    refine wpAnyH_ready (rs := [16]) (by kernel_rfl) (by simp) ?_
    refine AllReadyH.cons rfl (fun KK hK => ?_) AllReadyH.nil
    go_simp
    refine (J13.out _).mono ?_
    rintro e wz4 ⟨rfl, hz⟩
    replace F4 := F4.later hz
    replace BC := bthen BC hz
    clear hz
    go_wp2_with (fail)
    refine hK.out _ _ F4.four (fun hHeld => ?_)
    clear hK KK
    refine takeH (oi := ?oiu14) 17 84 (.bool true) ?hiu14 ?hdu14 ?hwu14 ?hyu14 (by kernel_rfl) (by kernel_rfl) (by kernel_rfl) ?hQu14 (by assumption) ?_
    case hiu14 => simp only [List.getElem?_toArray, List.getElem?_cons_zero, List.getElem?_cons_succ]; rfl
    case hdu14 => rfl
    case hwu14 => rfl
    case hyu14 => (intro w hSw; (try dsimp only at hSw); go_simp)
    case hQu14 => exact fun _ _ _ h => h
    simp only [Act.put, List.setIfInBounds_toArray, List.set_cons_zero, List.set_cons_succ]
    refine takeH (oi := ?oiu15) 18 85 (.bool true) ?hiu15 ?hdu15 ?hwu15 ?hyu15 (by kernel_rfl) (by kernel_rfl) (by kernel_rfl) ?hQu15 (by assumption) ?_
    case hiu15 => simp only [List.getElem?_toArray, List.getElem?_cons_zero, List.getElem?_cons_succ]; rfl
    case hdu15 => rfl
    case hwu15 => rfl
    case hyu15 => (intro w hSw; (try dsimp only at hSw); go_simp)
    case hQu15 => exact fun _ _ _ h => h
    simp only [Act.put, List.setIfInBounds_toArray, List.set_cons_zero, List.set_cons_succ]
    refine takeH (oi := ?oiu16) 19 86 (.agg #[.int .u8 a.k, .int .i64 a.n, .string a.t]) ?hiu16 ?hdu16 ?hwu16 ?hyu16 (by kernel_rfl) (by kernel_rfl) (by kernel_rfl) ?hQu16 (by assumption) ?_
    case hiu16 => simp only [List.getElem?_toArray, List.getElem?_cons_zero, List.getElem?_cons_succ]; rfl
    case hdu16 => rfl
    case hwu16 => rfl
    case hyu16 => (intro w hSw; (try dsimp only at hSw); go_simp)
    case hQu16 => exact fun _ _ _ h => h
    simp only [Act.put, List.setIfInBounds_toArray, List.set_cons_zero, List.set_cons_succ]
    refine takeH (oi := ?oiu17) 20 87 (.agg #[.int .u8 b.k, .int .i64 b.n, .string b.t]) ?hiu17 ?hdu17 ?hwu17 ?hyu17 (by kernel_rfl) (by kernel_rfl) (by kernel_rfl) ?hQu17 (by assumption) ?_
    case hiu17 => simp only [List.getElem?_toArray, List.getElem?_cons_zero, List.getElem?_cons_succ]; rfl
    case hdu17 => rfl
    case hwu17 => rfl
    case hyu17 => (intro w hSw; (try dsimp only at hSw); go_simp)
    case hQu17 => exact fun _ _ _ h => h
    simp only [Act.put, List.setIfInBounds_toArray, List.set_cons_zero, List.set_cons_succ]
    refine takeH (oi := ?oiu18) 21 88 (.agg #[.int .u8 a.k, .int .i64 a.n, .string a.t]) ?hiu18 ?hdu18 ?hwu18 ?hyu18 (by kernel_rfl) (by kernel_rfl) (by kernel_rfl) ?hQu18 (by assumption) ?_
    case hiu18 => simp only [List.getElem?_toArray, List.getElem?_cons_zero, List.getElem?_cons_succ]; rfl
    case hdu18 => rfl
    case hwu18 => rfl
    case hyu18 => (intro w hSw; (try dsimp only at hSw); go_simp)
    case hQu18 => exact fun _ _ _ h => h
    simp only [Act.put, List.setIfInBounds_toArray, List.set_cons_zero, List.set_cons_succ]
    refine takeH (oi := ?oiu19) 22 89 (.agg #[.int .u8 b.k, .int .i64 b.n, .string b.t]) ?hiu19 ?hdu19 ?hwu19 ?hyu19 (by kernel_rfl) (by kernel_rfl) (by kernel_rfl) ?hQu19 (by assumption) ?_
    case hiu19 => simp only [List.getElem?_toArray, List.getElem?_cons_zero, List.getElem?_cons_succ]; rfl
    case hdu19 => rfl
    case hwu19 => rfl
    case hyu19 => (intro w hSw; (try dsimp only at hSw); go_simp)
    case hQu19 => exact fun _ _ _ h => h
    simp only [Act.put, List.setIfInBounds_toArray, List.set_cons_zero, List.set_cons_succ]
    refine takeH (oi := ?oiu20) 23 90 (.bool true) ?hiu20 ?hdu20 ?hwu20 ?hyu20 (by kernel_rfl) (by kernel_rfl) (by kernel_rfl) ?hQu20 (by assumption) ?_
    case hiu20 => simp only [List.getElem?_toArray, List.getElem?_cons_zero, List.getElem?_cons_succ]; rfl
    case hdu20 => rfl
    case hwu20 => rfl
    case hyu20 => (intro w hSw; (try dsimp only at hSw); go_simp)
    case hQu20 => exact fun _ _ _ h => h
    simp only [Act.put, List.setIfInBounds_toArray, List.set_cons_zero, List.set_cons_succ]
    refine wpAnyH_ready (rs := [24]) (by kernel_rfl) (by simp) ?_
    refine AllReadyH.cons rfl (fun KK hK => ?_) AllReadyH.nil
    go_simp
    refine (TK.out _ _).mono ?_
    rintro e wz5 ⟨rfl, hz⟩
    replace F4 := F4.later (below_one hz)
    replace BC := bthen BC (below_one hz)
    clear hz
    go_wp2_with (fail)
    refine hK.out _ _ F4.four (fun hHeld => ?_)
    clear hK KK
    refine wpAnyH_ready (rs := [25]) (by kernel_rfl) (by simp) ?_
    refine AllReadyH.cons rfl (fun KK hK => ?_) AllReadyH.nil
    go_simp
    refine (J10.out _).mono ?_
    rintro e wz6 ⟨rfl, hz⟩
    replace F4 := F4.later hz
    replace BC := bthen BC hz
    clear hz
    go_wp2_with (fail)
    refine hK.out _ _ F4.four (fun hHeld => ?_)
    clear hK KK
    refine takeH (oi := ?oiu21) 26 93 (.bool true) ?hiu21 ?hdu21 ?hwu21 ?hyu21 (by kernel_rfl) (by kernel_rfl) (by kernel_rfl) ?hQu21 (by assumption) ?_
    case hiu21 => simp only [List.getElem?_toArray, List.getElem?_cons_zero, List.getElem?_cons_succ]; rfl
    case hdu21 => rfl
    case hwu21 => rfl
    case hyu21 => (intro w hSw; (try dsimp only at hSw); go_simp)
    case hQu21 => exact fun _ _ _ h => h
    simp only [Act.put, List.setIfInBounds_toArray, List.set_cons_zero, List.set_cons_succ]
    refine takeH (oi := ?oiu22) 27 94 (.bool true) ?hiu22 ?hdu22 ?hwu22 ?hyu22 (by kernel_rfl) (by kernel_rfl) (by kernel_rfl) ?hQu22 (by assumption) ?_
    case hiu22 => simp only [List.getElem?_toArray, List.getElem?_cons_zero, List.getElem?_cons_succ]; rfl
    case hdu22 => rfl
    case hwu22 => rfl
    case hyu22 => (intro w hSw; (try dsimp only at hSw); go_simp)
    case hQu22 => exact fun _ _ _ h => h
    simp only [Act.put, List.setIfInBounds_toArray, List.set_cons_zero, List.set_cons_succ]
    refine takeH (oi := ?oiu23) 28 95 (.agg #[.int .u8 a.k, .int .i64 a.n, .string a.t]) ?hiu23 ?hdu23 ?hwu23 ?hyu23 (by kernel_rfl) (by kernel_rfl) (by kernel_rfl) ?hQu23 (by assumption) ?_
    case hiu23 => simp only [List.getElem?_toArray, List.getElem?_cons_zero, List.getElem?_cons_succ]; rfl
    case hdu23 => rfl
    case hwu23 => rfl
    case hyu23 => (intro w hSw; (try dsimp only at hSw); go_simp)
    case hQu23 => exact fun _ _ _ h => h
    simp only [Act.put, List.setIfInBounds_toArray, List.set_cons_zero, List.set_cons_succ]
    refine takeH (oi := ?oiu24) 29 96 (.agg #[.int .u8 b.k, .int .i64 b.n, .string b.t]) ?hiu24 ?hdu24 ?hwu24 ?hyu24 (by kernel_rfl) (by kernel_rfl) (by kernel_rfl) ?hQu24 (by assumption) ?_
    case hiu24 => simp only [List.getElem?_toArray, List.getElem?_cons_zero, List.getElem?_cons_succ]; rfl
    case hdu24 => rfl
    case hwu24 => rfl
    case hyu24 => (intro w hSw; (try dsimp only at hSw); go_simp)
    case hQu24 => exact fun _ _ _ h => h
    simp only [Act.put, List.setIfInBounds_toArray, List.set_cons_zero, List.set_cons_succ]
    refine takeH (oi := ?oiu25) 30 97 (.int .i64 (-1)) ?hiu25 ?hdu25 ?hwu25 ?hyu25 (by kernel_rfl) (by kernel_rfl) (by kernel_rfl) ?hQu25 (by assumption) ?_
    case hiu25 => simp only [List.getElem?_toArray, List.getElem?_cons_zero, List.getElem?_cons_succ]; rfl
    case hdu25 => rfl
    case hwu25 => rfl
    case hyu25 => (intro w hSw; (try dsimp only at hSw); go_simp)
    case hQu25 => exact fun _ _ _ h => h
    simp only [Act.put, List.setIfInBounds_toArray, List.set_cons_zero, List.set_cons_succ]
    refine takeH (oi := ?oiu26) 31 98 (.bool true) ?hiu26 ?hdu26 ?hwu26 ?hyu26 (by kernel_rfl) (by kernel_rfl) (by kernel_rfl) ?hQu26 (by assumption) ?_
    case hiu26 => simp only [List.getElem?_toArray, List.getElem?_cons_zero, List.getElem?_cons_succ]; rfl
    case hdu26 => rfl
    case hwu26 => rfl
    case hyu26 => (intro w hSw; (try dsimp only at hSw); go_simp)
    case hQu26 => exact fun _ _ _ h => h
    simp only [Act.put, List.setIfInBounds_toArray, List.set_cons_zero, List.set_cons_succ]
    refine wpAnyH_ready (rs := [32]) (by kernel_rfl) (by simp) ?_
    refine AllReadyH.cons rfl (fun KK hK => ?_) AllReadyH.nil
    go_simp
    refine (TK.out _ _).mono ?_
    rintro e wz7 ⟨rfl, hz⟩
    replace F4 := F4.later (below_one hz)
    replace BC := bthen BC (below_one hz)
    clear hz
    go_wp2_with (fail)
    refine hK.out _ _ F4.four (fun hHeld => ?_)
    clear hK KK
    refine wpAnyH_ready (rs := [33]) (by kernel_rfl) (by simp) ?_
    refine AllReadyH.cons rfl (fun KK hK => ?_) AllReadyH.nil
    go_simp
    refine (J12.out _).mono ?_
    rintro e wz8 ⟨rfl, hz⟩
    replace F4 := F4.later hz
    replace BC := bthen BC hz
    clear hz
    go_wp2_with (fail)
    refine hK.out _ _ F4.four (fun hHeld => ?_)
    clear hK KK
    refine takeH (oi := ?oiu27) 34 101 (.bool true) ?hiu27 ?hdu27 ?hwu27 ?hyu27 (by kernel_rfl) (by kernel_rfl) (by kernel_rfl) ?hQu27 (by assumption) ?_
    case hiu27 => simp only [List.getElem?_toArray, List.getElem?_cons_zero, List.getElem?_cons_succ]; rfl
    case hdu27 => rfl
    case hwu27 => rfl
    case hyu27 => (intro w hSw; (try dsimp only at hSw); go_simp)
    case hQu27 => exact fun _ _ _ h => h
    simp only [Act.put, List.setIfInBounds_toArray, List.set_cons_zero, List.set_cons_succ]
    refine takeH (oi := ?oiu28) 35 102 (.bool true) ?hiu28 ?hdu28 ?hwu28 ?hyu28 (by kernel_rfl) (by kernel_rfl) (by kernel_rfl) ?hQu28 (by assumption) ?_
    case hiu28 => simp only [List.getElem?_toArray, List.getElem?_cons_zero, List.getElem?_cons_succ]; rfl
    case hdu28 => rfl
    case hwu28 => rfl
    case hyu28 => (intro w hSw; (try dsimp only at hSw); go_simp)
    case hQu28 => exact fun _ _ _ h => h
    simp only [Act.put, List.setIfInBounds_toArray, List.set_cons_zero, List.set_cons_succ]
    refine takeH (oi := ?oiu29) 36 103 (.agg #[.int .u8 a.k, .int .i64 a.n, .string a.t]) ?hiu29 ?hdu29 ?hwu29 ?hyu29 (by kernel_rfl) (by kernel_rfl) (by kernel_rfl) ?hQu29 (by assumption) ?_
    case hiu29 => simp only [List.getElem?_toArray, List.getElem?_cons_zero, List.getElem?_cons_succ]; rfl
    case hdu29 => rfl
    case hwu29 => rfl
    case hyu29 => (intro w hSw; (try dsimp only at hSw); go_simp)
    case hQu29 => exact fun _ _ _ h => h
    simp only [Act.put, List.setIfInBounds_toArray, List.set_cons_zero, List.set_cons_succ]
    refine takeH (oi := ?oiu30) 37 104 (.agg #[.int .u8 b.k, .int .i64 b.n, .string b.t]) ?hiu30 ?hdu30 ?hwu30 ?hyu30 (by kernel_rfl) (by kernel_rfl) (by kernel_rfl) ?hQu30 (by assumption) ?_
    case hiu30 => simp only [List.getElem?_toArray, List.getElem?_cons_zero, List.getElem?_cons_succ]; rfl
    case hdu30 => rfl
    case hwu30 => rfl
    case hyu30 => (intro w hSw; (try dsimp only at hSw); go_simp)
    case hQu30 => exact fun _ _ _ h => h
    simp only [Act.put, List.setIfInBounds_toArray, List.set_cons_zero, List.set_cons_succ]
    refine takeH (oi := ?oiu31) 38 105 (.int .i64 (-1)) ?hiu31 ?hdu31 ?hwu31 ?hyu31 (by kernel_rfl) (by kernel_rfl) (by kernel_rfl) ?hQu31 (by assumption) ?_
    case hiu31 => simp only [List.getElem?_toArray, List.getElem?_cons_zero, List.getElem?_cons_succ]; rfl
    case hdu31 => rfl
    case hwu31 => rfl
    case hyu31 => (intro w hSw; (try dsimp only at hSw); go_simp)
    case hQu31 => exact fun _ _ _ h => h
    simp only [Act.put, List.setIfInBounds_toArray, List.set_cons_zero, List.set_cons_succ]
    refine takeH (oi := ?oiu32) 39 106 (.bool false) ?hiu32 ?hdu32 ?hwu32 ?hyu32 (by kernel_rfl) (by kernel_rfl) (by kernel_rfl) ?hQu32 (by assumption) ?_
    case hiu32 => simp only [List.getElem?_toArray, List.getElem?_cons_zero, List.getElem?_cons_succ]; rfl
    case hdu32 => rfl
    case hwu32 => rfl
    case hyu32 => (intro w hSw; (try dsimp only at hSw); go_simp)
    case hQu32 => exact fun _ _ _ h => h
    simp only [Act.put, List.setIfInBounds_toArray, List.set_cons_zero, List.set_cons_succ]
    refine wpAnyH_ready (rs := [40]) (by kernel_rfl) (by simp) ?_
    refine AllReadyH.cons rfl (fun KK hK => ?_) AllReadyH.nil
    go_simp
    refine (TK.out _ _).mono ?_
    rintro e wz9 ⟨rfl, hz⟩
    replace F4 := F4.later (below_one hz)
    replace BC := bthen BC (below_one hz)
    clear hz
    go_wp2_with (fail)
    refine hK.out _ _ F4.four (fun hHeld => ?_)
    clear hK KK
    refine wpAnyH_ready (rs := [41]) (by kernel_rfl) (by simp) ?_
    refine AllReadyH.cons rfl (fun KK hK => ?_) AllReadyH.nil
    go_simp
    refine (J14.out _).mono ?_
    rintro e wz10 ⟨rfl, hz⟩
    replace F4 := F4.later hz
    replace BC := bthen BC hz
    clear hz
    go_wp2_with (fail)
    refine hK.out _ _ F4.four (fun hHeld => ?_)
    clear hK KK
    refine takeH (oi := ?oiu33) 42 109 (.bool true) ?hiu33 ?hdu33 ?hwu33 ?hyu33 (by kernel_rfl) (by kernel_rfl) (by kernel_rfl) ?hQu33 (by assumption) ?_
    case hiu33 => simp only [List.getElem?_toArray, List.getElem?_cons_zero, List.getElem?_cons_succ]; rfl
    case hdu33 => rfl
    case hwu33 => rfl
    case hyu33 => (intro w hSw; (try dsimp only at hSw); go_simp)
    case hQu33 => exact fun _ _ _ h => h
    simp only [Act.put, List.setIfInBounds_toArray, List.set_cons_zero, List.set_cons_succ]
    refine takeH (oi := ?oiu34) 43 4 (.bool true) ?hiu34 ?hdu34 ?hwu34 ?hyu34 (by kernel_rfl) (by kernel_rfl) (by kernel_rfl) ?hQu34 (by assumption) ?_
    case hiu34 => simp only [List.getElem?_toArray, List.getElem?_cons_zero, List.getElem?_cons_succ]; rfl
    case hdu34 => rfl
    case hwu34 => rfl
    case hyu34 => (intro w hSw; (try dsimp only at hSw); go_simp)
    case hQu34 => exact fun _ _ _ h => h
    simp only [Act.put, List.setIfInBounds_toArray, List.set_cons_zero, List.set_cons_succ]
    refine wpAnyH_done (by kernel_rfl) ?_ _
    go_wp2_with (fail)
    go_wp2
    go_ret
    exact ⟨rfl, BC⟩
end Go.Proofs.Ytoaliblndieaiaa
