/-
  Sums, products and quotients are those of whole numbers, or are refused: the plain facts, and the law's walk.
-/
import Derived.Test.YtoaliblndieaiaaUOrder
namespace Go.Proofs.Ytoaliblndieaiaa
open Go.RowKit
attribute [local go_sem ↓] Go.wp_at_zero Go.wp_at_succ

theorem do_num {op : Int} (h : 3 ≤ op ∧ op ≤ 7) (a b : Int) : doR op [numV a, numV b] = twoR op (numV a) (numV b) := by
  have e : op = 3 ∨ op = 4 ∨ op = 5 ∨ op = 6 ∨ op = 7 := by omega
  have r : refE op [numV a, numV b] = 0 := by
    rw [ref_all (by simp [may_num])]
    rcases e with rfl | rfl | rfl | rfl | rfl <;> rfl
  unfold doR makesR
  rw [if_pos r]
  rcases e with rfl | rfl | rfl | rfl | rfl <;> rfl
theorem is_num {op : Int} (h : 3 ≤ op ∧ op ≤ 7) {a b c : Int} (e : twoR op (numV a) (numV b) = (numV c, 0)) : isB op (numV a) (numV b) (numV c) = true := is_of ((do_num h a b).trans e)
theorem div_back {a b : Int} (hb : ¬ b = 0) : (a * b).tdiv b = a := Int.mul_tdiv_cancel a hb
theorem div_mod (a b : Int) : a.tdiv b * b + a.tmod b = a := by rw [Int.mul_comm]; exact Int.mul_tdiv_add_tmod a b
/-- What is left has the first one's sign. -/
theorem mod_sign (a b : Int) : a.tmod b = 0 ∨ (decide (a.tmod b < 0) = decide (a < 0)) := by
  by_cases h : a.tmod b = 0
  · exact .inl h
  · refine .inr ?_
    rcases Int.lt_or_le a 0 with k | k
    · have h2 : 0 ≤ (-a).tmod b := Int.tmod_nonneg b (by omega)
      rw [Int.neg_tmod] at h2
      have h3 : a.tmod b < 0 := by omega
      simp [h3, k]
    · have h2 := Int.tmod_nonneg b k
      have h3 : ¬ a.tmod b < 0 := by omega
      have h4 : ¬ a < 0 := by omega
      simp [h3, h4]
theorem tdiv_mul_64 {a b : Int} (ha : I64 a) : I64 (a.tdiv b * b) := by
  have h1 := div_mod a b
  have l := ha.lo
  have u := ha.hi
  have h4 : (a.tmod b).natAbs ≤ a.natAbs := by rw [Int.natAbs_tmod]; exact Nat.mod_le _ _
  rcases Int.lt_or_le a 0 with k | k
  · have h3 : 0 ≤ (-a).tmod b := Int.tmod_nonneg b (by omega)
    rw [Int.neg_tmod] at h3
    exact ⟨by omega, by omega⟩
  · have h3 := Int.tmod_nonneg b k
    exact ⟨by omega, by omega⟩
theorem num_is {n : Int} {X : Val} (h : numV n = X) (wx : World) : Calls Try.prog 8 #[.int .i64 n] wx fun e w' => e = .returned (.agg #[.int .u8 X.k, .int .i64 X.n, .string X.t]) ∧ w' = wx.alloc (.cells #[.int .u8 X.k, .int .i64 X.n, .string X.t] 25) := by
  subst h; exact lnumber_any wx n

set_option maxRecDepth 100000 in
set_option maxHeartbeats 16000000 in
theorem numbers_letters (w : World) (a b e f g h : Int) (X Y S P Q R : Val) (sm : Bool) (eX : numV a = X) (eY : numV b = Y) (wX : X.wf) (wY : Y.wf)
    (D1 : doR 3 [X, Y] = (S, e)) (D2 : doR 5 [X, Y] = (P, f)) (D3 : doR 6 [X, Y] = (Q, g)) (D4 : doR 7 [X, Y] = (R, h))
    (W1 : e = 0 ∧ S.wf ∧ isB 4 S Y X = true ∨ e = 221)
    (W2 : f = 0 ∧ (b != 0) = true ∧ P.wf ∧ isB 6 P Y X = true ∨ f = 0 ∧ (b != 0) = false ∨ f = 221)
    (W3 : sm = (decide (-2147483648 < a) && (decide (a < 2147483648) && (decide (-2147483648 < b) && decide (b < 2147483648)))))
    (W4 : sm = false ∨ sm = true ∧ e = 0 ∧ f = 0 ∧ (∃ M, IntKind.i64.wrap (a * b) = M ∧ numV M = P) ∧ (∃ A, IntKind.i64.wrap (a + b) = A ∧ numV A = S))
    (W5 : b = 0 ∧ g = 222 ∧ h = 222 ∨ (b == 0) = false ∧ h = 0 ∧ ((R.n != 0) = false ∨ (R.n != 0) = true ∧ decide (R.n < 0) = decide (a < 0)) ∧ (g = 221 ∧ a = -9223372036854775808 ∧ b = -1 ∨ g = 0 ∧ Q.wf ∧ R.wf ∧ ∃ TT : Val, TT.wf ∧ doR 5 [Q, Y] = (TT, 0) ∧ isB 3 TT R X = true)) :
    Calls Try.prog 3 #[.int .i64 a, .int .i64 b] w fun e w' => e = .returned (.bool true) ∧ Below w.heap.size w w' := by
  have B0 : Below w.heap.size w w := Below.refl _ _
  have CX := hide (num_is eX)
  have CY := hide (num_is eY)
  have CN := hide (fun (n : Int) (Z : Val) (h : numV n = Z) => num_is h)
  have P1 := hide (do_is D1)
  have P2 := hide (do_is D2)
  have P3 := hide (do_is D3)
  have P4 := hide (do_is D4)
  have LV := hide (fun wx => lives_any wx)
  have H1 := hide W1
  have H2 := hide W2
  have H3 := hide W3
  have H4 := hide W4
  have H5 := hide W5
  clear eX eY D1 D2 D3 D4 W1 W2 W3 W4 W5
  go_enter Try.func3, Try.ntmps3
  go_wp2_with (fail)
  refine (LV.out _).mono ?_
  rintro e w1 ⟨rfl, hb1⟩
  have B1 : Below w.heap.size w w1 := bthen B0 hb1
  clear hb1
  go_wp2_with (fail)
  refine (CX.out _).mono ?_
  rintro e1 wx ⟨rfl, rfl⟩
  go_wp2_with (fail)
  refine (CY.out _).mono ?_
  rintro e1 wx ⟨rfl, rfl⟩
  go_wp2_with (fail)
  refine (P1.out _ _ (two_in _ X Y wX wY (by simp))).mono ?_
  rintro e w2 ⟨rfl, hb2⟩
  have Lx2 : Cel w2 (w1.heap.size + 1 + 1) X := ((((Cel.new (B := w1.heap.size + 1 + 1) (v := X) (by simp)).alloc _).alloc _)).later hb2
  have Ly2 : Cel w2 (w1.heap.size + 1 + 1 + 1) Y := (((Cel.new (B := w1.heap.size + 1 + 1 + 1) (v := Y) (by simp)).alloc _)).later hb2
  have B2 : Below w.heap.size w w2 := bthen (bmore (bmore (bmore (bmore (bmore B1 _) _) _) _) _) hb2
  clear hb2 B1
  obtain ⟨ckx2, cnx2, ctx2, clx2⟩ := id Lx2
  obtain ⟨cky2, cny2, cty2, cly2⟩ := id Ly2
  go_upto_region 5 with fail
  go_cut [47] from 31 to 47 (fun z wx => z = .bool false ∧ Cel wx ((w1.heap.size + 1 + 1)) X ∧ Cel wx ((w1.heap.size + 1 + 1 + 1)) Y ∧ Cel wx (w2.heap.size) S ∧ Below w.heap.size w wx)
  case first =>
    rcases H1.out with ⟨rfl, wS, iS⟩ | rfl
    · have J := hide (is_is iS wS wY)
      go_wp2_with (fail)
      refine (J.out _).mono ?_
      rintro e w3 ⟨rfl, hb3⟩
      have Ls3 : Cel w3 (w2.heap.size) S := ((Cel.new (B := w2.heap.size) (v := S) (by simp))).later hb3
      have Lx3 : Cel w3 ((w1.heap.size + 1 + 1)) X := ((Lx2.alloc _)).later hb3
      have Ly3 : Cel w3 ((w1.heap.size + 1 + 1 + 1)) Y := ((Ly2.alloc _)).later hb3
      have B3 : Below w.heap.size w w3 := bthen (bmore B2 _) hb3
      clear hb3 ckx2 cnx2 ctx2 clx2 cky2 cny2 cty2 cly2 Lx2 Ly2 B2
      obtain ⟨cks3, cns3, cts3, cls3⟩ := id Ls3
      obtain ⟨ckx3, cnx3, ctx3, clx3⟩ := id Lx3
      obtain ⟨cky3, cny3, cty3, cly3⟩ := id Ly3
      go_wp2_with (fail)
      go_meet
      case rel => exact ⟨rfl, Lx3, Ly3, Ls3, B3⟩
    · skip
      go_wp2_with (fail)
      go_meet
      case rel => exact ⟨rfl, (Lx2.alloc _), (Ly2.alloc _), (Cel.new (B := w2.heap.size) (v := S) (by simp)), (bmore B2 _)⟩
  case rest =>
    obtain ⟨rfl, Kx4, Ky4, Ks4, B4⟩ := hcut
    clear ckx2 cnx2 ctx2 clx2 cky2 cny2 cty2 cly2 Lx2 Ly2 B2
    obtain ⟨w4, hwn⟩ : ∃ wn, wn = wc := ⟨_, rfl⟩
    rw [← hwn] at Kx4 Ky4 Ks4 B4 ⊢
    clear hwn
    obtain ⟨ckx4, cnx4, ctx4, clx4⟩ := id Kx4
    obtain ⟨cky4, cny4, cty4, cly4⟩ := id Ky4
    obtain ⟨cks4, cns4, cts4, cls4⟩ := id Ks4
    go_wp2_with (fail)
    refine (P2.out _ _ (two_in _ X Y wX wY (by simp))).mono ?_
    rintro e w5 ⟨rfl, hb5⟩
    have Lx5 : Cel w5 (((w1.heap.size + 1 + 1))) X := ((Kx4.alloc _)).later hb5
    have Ly5 : Cel w5 (((w1.heap.size + 1 + 1 + 1))) Y := ((Ky4.alloc _)).later hb5
    have Ls5 : Cel w5 ((w2.heap.size)) S := ((Ks4.alloc _)).later hb5
    have B5 : Below w.heap.size w w5 := bthen (bmore B4 _) hb5
    clear hb5 ckx4 cnx4 ctx4 clx4 cky4 cny4 cty4 cly4 cks4 cns4 cts4 cls4 Kx4 Ky4 Ks4 B4
    obtain ⟨ckx5, cnx5, ctx5, clx5⟩ := id Lx5
    obtain ⟨cky5, cny5, cty5, cly5⟩ := id Ly5
    obtain ⟨cks5, cns5, cts5, cls5⟩ := id Ls5
    go_upto_region 8 with fail
    go_cut [75] from 55 to 75 (fun z wx => z = .bool false ∧ Cel wx ((((w1.heap.size + 1 + 1)))) X ∧ Cel wx ((((w1.heap.size + 1 + 1 + 1)))) Y ∧ Cel wx (((w2.heap.size))) S ∧ Cel wx (w5.heap.size) P ∧ Below w.heap.size w wx)
    case first =>
      rcases H2.out with ⟨rfl, hb, wP, iP⟩ | ⟨rfl, hb⟩ | rfl
      · have J := hide (is_is iP wP wY)
        go_wp2_with (fail)
        refine (J.out _).mono ?_
        rintro e w6 ⟨rfl, hb6⟩
        have Lp6 : Cel w6 (w5.heap.size) P := ((Cel.new (B := w5.heap.size) (v := P) (by simp))).later hb6
        have Lx6 : Cel w6 ((((w1.heap.size + 1 + 1)))) X := ((Lx5.alloc _)).later hb6
        have Ly6 : Cel w6 ((((w1.heap.size + 1 + 1 + 1)))) Y := ((Ly5.alloc _)).later hb6
        have Ls6 : Cel w6 (((w2.heap.size))) S := ((Ls5.alloc _)).later hb6
        have B6 : Below w.heap.size w w6 := bthen (bmore B5 _) hb6
        clear hb6 ckx5 cnx5 ctx5 clx5 cky5 cny5 cty5 cly5 cks5 cns5 cts5 cls5 Lx5 Ly5 Ls5 B5
        obtain ⟨ckp6, cnp6, ctp6, clp6⟩ := id Lp6
        obtain ⟨ckx6, cnx6, ctx6, clx6⟩ := id Lx6
        obtain ⟨cky6, cny6, cty6, cly6⟩ := id Ly6
        obtain ⟨cks6, cns6, cts6, cls6⟩ := id Ls6
        go_wp2_with (fail)
        go_meet
        case rel => exact ⟨rfl, Lx6, Ly6, Ls6, Lp6, B6⟩
      · skip
        go_wp2_with (fail)
        go_meet
        case rel => exact ⟨rfl, (Lx5.alloc _), (Ly5.alloc _), (Ls5.alloc _), (Cel.new (B := w5.heap.size) (v := P) (by simp)), (bmore B5 _)⟩
      · skip
        go_wp2_with (fail)
        go_meet
        case rel => exact ⟨rfl, (Lx5.alloc _), (Ly5.alloc _), (Ls5.alloc _), (Cel.new (B := w5.heap.size) (v := P) (by simp)), (bmore B5 _)⟩
    case rest =>
      obtain ⟨rfl, Kx7, Ky7, Ks7, Kp7, B7⟩ := hcut
      clear ckx5 cnx5 ctx5 clx5 cky5 cny5 cty5 cly5 cks5 cns5 cts5 cls5 Lx5 Ly5 Ls5 B5
      obtain ⟨w7, hwn⟩ : ∃ wn, wn = wc := ⟨_, rfl⟩
      rw [← hwn] at Kx7 Ky7 Ks7 Kp7 B7 ⊢
      clear hwn
      obtain ⟨ckx7, cnx7, ctx7, clx7⟩ := id Kx7
      obtain ⟨cky7, cny7, cty7, cly7⟩ := id Ky7
      obtain ⟨cks7, cns7, cts7, cls7⟩ := id Ks7
      obtain ⟨ckp7, cnp7, ctp7, clp7⟩ := id Kp7
      go_upto_region 10 with fail
      go_cut [11] from 76 to 89 (fun z wx => z = .bool sm ∧ Cel wx (((((w1.heap.size + 1 + 1))))) X ∧ Cel wx (((((w1.heap.size + 1 + 1 + 1))))) Y ∧ Cel wx ((((w2.heap.size)))) S ∧ Cel wx ((w5.heap.size)) P ∧ Below w.heap.size w wx)
      case first =>
        have e3 := H3.out
        by_cases q0 : -2147483648 < a
        · by_cases q1 : a < 2147483648
          · by_cases q2 : -2147483648 < b
            · by_cases q3 : b < 2147483648
              · have E : sm = true := by rw [e3]; simp [q0, q1, q2, q3]
                clear e3
                go_wp2_with (fail)
                go_meet
                case rel => exact ⟨by rw [E], Kx7, Ky7, Ks7, Kp7, B7⟩
              · have E : sm = false := by rw [e3]; simp [q3]
                clear e3
                go_wp2_with (fail)
                go_meet
                case rel => exact ⟨by rw [E], Kx7, Ky7, Ks7, Kp7, B7⟩
            · have E : sm = false := by rw [e3]; simp [q2]
              clear e3
              go_wp2_with (fail)
              go_meet
              case rel => exact ⟨by rw [E], Kx7, Ky7, Ks7, Kp7, B7⟩
          · have E : sm = false := by rw [e3]; simp [q1]
            clear e3
            go_wp2_with (fail)
            go_meet
            case rel => exact ⟨by rw [E], Kx7, Ky7, Ks7, Kp7, B7⟩
        · have E : sm = false := by rw [e3]; simp [q0]
          clear e3
          go_wp2_with (fail)
          go_meet
          case rel => exact ⟨by rw [E], Kx7, Ky7, Ks7, Kp7, B7⟩
      case rest =>
        obtain ⟨rfl, Kx8, Ky8, Ks8, Kp8, B8⟩ := hcut
        clear ckx7 cnx7 ctx7 clx7 cky7 cny7 cty7 cly7 cks7 cns7 cts7 cls7 ckp7 cnp7 ctp7 clp7 Kx7 Ky7 Ks7 Kp7 B7
        obtain ⟨w8, hwn⟩ : ∃ wn, wn = wc := ⟨_, rfl⟩
        rw [← hwn] at Kx8 Ky8 Ks8 Kp8 B8 ⊢
        clear hwn
        obtain ⟨ckx8, cnx8, ctx8, clx8⟩ := id Kx8
        obtain ⟨cky8, cny8, cty8, cly8⟩ := id Ky8
        obtain ⟨cks8, cns8, cts8, cls8⟩ := id Ks8
        obtain ⟨ckp8, cnp8, ctp8, clp8⟩ := id Kp8
        go_upto_region 11 with fail
        go_cut [114] from 90 to 114 (fun z wx => z = .bool false ∧ Cel wx ((((((w1.heap.size + 1 + 1)))))) X ∧ Cel wx ((((((w1.heap.size + 1 + 1 + 1)))))) Y ∧ Below w.heap.size w wx)
        case first =>
          rcases H4.out with rfl | ⟨rfl, rfl, rfl, ⟨M, wM, eM⟩, A, wA, eA⟩
          · go_wp2_with (fail)
            refine wp_region_held_drew (S := (fun _ => True)) (by kernel_rfl) trivial (fun hHeld => ?_)
            refine takeH (oi := ?oiv1) 0 90 (.bool false) ?hiv1 ?hdv1 ?hwv1 ?hyv1 (by kernel_rfl) (by kernel_rfl) (by kernel_rfl) ?hQv1 (by assumption) ?_
            case hiv1 => simp only [List.getElem?_toArray, List.getElem?_cons_zero]; rfl
            case hdv1 => rfl
            case hwv1 => rfl
            case hyv1 => (intro w hSw; (try dsimp only at hSw); go_simp)
            case hQv1 => exact fun _ _ _ h => h
            simp only [Act.put, List.setIfInBounds_toArray, List.set_cons_zero, List.set_cons_succ]
            refine takeH (oi := ?oiv2) 1 91 (.bool false) ?hiv2 ?hdv2 ?hwv2 ?hyv2 (by kernel_rfl) (by kernel_rfl) (by kernel_rfl) ?hQv2 (by assumption) ?_
            case hiv2 => simp only [List.getElem?_toArray, List.getElem?_cons_zero, List.getElem?_cons_succ]; rfl
            case hdv2 => rfl
            case hwv2 => rfl
            case hyv2 => (intro w hSw; (try dsimp only at hSw); go_simp)
            case hQv2 => exact fun _ _ _ h => h
            simp only [Act.put, List.setIfInBounds_toArray, List.set_cons_zero, List.set_cons_succ]
            refine skipH 2 92 ⟨_, rfl, rfl, by rfl⟩ (by kernel_rfl) (by kernel_rfl) (by kernel_rfl) (fun _ _ _ h => h) (by assumption) ?_
            simp only [Act.put, List.setIfInBounds_toArray, List.set_cons_zero, List.set_cons_succ]
            refine skipH 3 93 ⟨_, rfl, rfl, by rfl⟩ (by kernel_rfl) (by kernel_rfl) (by kernel_rfl) (fun _ _ _ h => h) (by assumption) ?_
            simp only [Act.put, List.setIfInBounds_toArray, List.set_cons_zero, List.set_cons_succ]
            refine skipH 4 94 ⟨_, rfl, rfl, by rfl⟩ (by kernel_rfl) (by kernel_rfl) (by kernel_rfl) (fun _ _ _ h => h) (by assumption) ?_
            simp only [Act.put, List.setIfInBounds_toArray, List.set_cons_zero, List.set_cons_succ]
            refine skipH 5 95 ⟨_, rfl, rfl, by rfl⟩ (by kernel_rfl) (by kernel_rfl) (by kernel_rfl) (fun _ _ _ h => h) (by assumption) ?_
            simp only [Act.put, List.setIfInBounds_toArray, List.set_cons_zero, List.set_cons_succ]
            refine skipH 6 96 ⟨_, rfl, rfl, by rfl⟩ (by kernel_rfl) (by kernel_rfl) (by kernel_rfl) (fun _ _ _ h => h) (by assumption) ?_
            simp only [Act.put, List.setIfInBounds_toArray, List.set_cons_zero, List.set_cons_succ]
            refine skipH 7 97 ⟨_, rfl, rfl, by rfl⟩ (by kernel_rfl) (by kernel_rfl) (by kernel_rfl) (fun _ _ _ h => h) (by assumption) ?_
            simp only [Act.put, List.setIfInBounds_toArray, List.set_cons_zero, List.set_cons_succ]
            refine skipH 8 98 ⟨_, rfl, rfl, by rfl⟩ (by kernel_rfl) (by kernel_rfl) (by kernel_rfl) (fun _ _ _ h => h) (by assumption) ?_
            simp only [Act.put, List.setIfInBounds_toArray, List.set_cons_zero, List.set_cons_succ]
            refine skipH 9 99 ⟨_, rfl, rfl, by rfl⟩ (by kernel_rfl) (by kernel_rfl) (by kernel_rfl) (fun _ _ _ h => h) (by assumption) ?_
            simp only [Act.put, List.setIfInBounds_toArray, List.set_cons_zero, List.set_cons_succ]
            refine skipH 10 100 ⟨_, rfl, rfl, by rfl⟩ (by kernel_rfl) (by kernel_rfl) (by kernel_rfl) (fun _ _ _ h => h) (by assumption) ?_
            simp only [Act.put, List.setIfInBounds_toArray, List.set_cons_zero, List.set_cons_succ]
            refine skipH 11 101 ⟨_, rfl, rfl, by rfl⟩ (by kernel_rfl) (by kernel_rfl) (by kernel_rfl) (fun _ _ _ h => h) (by assumption) ?_
            simp only [Act.put, List.setIfInBounds_toArray, List.set_cons_zero, List.set_cons_succ]
            refine skipH 12 102 ⟨_, rfl, rfl, by rfl⟩ (by kernel_rfl) (by kernel_rfl) (by kernel_rfl) (fun _ _ _ h => h) (by assumption) ?_
            simp only [Act.put, List.setIfInBounds_toArray, List.set_cons_zero, List.set_cons_succ]
            refine skipH 13 103 ⟨_, rfl, rfl, by rfl⟩ (by kernel_rfl) (by kernel_rfl) (by kernel_rfl) (fun _ _ _ h => h) (by assumption) ?_
            simp only [Act.put, List.setIfInBounds_toArray, List.set_cons_zero, List.set_cons_succ]
            refine skipH 14 104 ⟨_, rfl, rfl, by rfl⟩ (by kernel_rfl) (by kernel_rfl) (by kernel_rfl) (fun _ _ _ h => h) (by assumption) ?_
            simp only [Act.put, List.setIfInBounds_toArray, List.set_cons_zero, List.set_cons_succ]
            refine skipH 15 105 ⟨_, rfl, rfl, by rfl⟩ (by kernel_rfl) (by kernel_rfl) (by kernel_rfl) (fun _ _ _ h => h) (by assumption) ?_
            simp only [Act.put, List.setIfInBounds_toArray, List.set_cons_zero, List.set_cons_succ]
            refine skipH 16 106 ⟨_, rfl, rfl, by rfl⟩ (by kernel_rfl) (by kernel_rfl) (by kernel_rfl) (fun _ _ _ h => h) (by assumption) ?_
            simp only [Act.put, List.setIfInBounds_toArray, List.set_cons_zero, List.set_cons_succ]
            refine skipH 17 107 ⟨_, rfl, rfl, by rfl⟩ (by kernel_rfl) (by kernel_rfl) (by kernel_rfl) (fun _ _ _ h => h) (by assumption) ?_
            simp only [Act.put, List.setIfInBounds_toArray, List.set_cons_zero, List.set_cons_succ]
            refine skipH 18 108 ⟨_, rfl, rfl, by rfl⟩ (by kernel_rfl) (by kernel_rfl) (by kernel_rfl) (fun _ _ _ h => h) (by assumption) ?_
            simp only [Act.put, List.setIfInBounds_toArray, List.set_cons_zero, List.set_cons_succ]
            refine skipH 19 109 ⟨_, rfl, rfl, by rfl⟩ (by kernel_rfl) (by kernel_rfl) (by kernel_rfl) (fun _ _ _ h => h) (by assumption) ?_
            simp only [Act.put, List.setIfInBounds_toArray, List.set_cons_zero, List.set_cons_succ]
            refine skipH 20 110 ⟨_, rfl, rfl, by rfl⟩ (by kernel_rfl) (by kernel_rfl) (by kernel_rfl) (fun _ _ _ h => h) (by assumption) ?_
            simp only [Act.put, List.setIfInBounds_toArray, List.set_cons_zero, List.set_cons_succ]
            refine skipH 21 111 ⟨_, rfl, rfl, by rfl⟩ (by kernel_rfl) (by kernel_rfl) (by kernel_rfl) (fun _ _ _ h => h) (by assumption) ?_
            simp only [Act.put, List.setIfInBounds_toArray, List.set_cons_zero, List.set_cons_succ]
            refine skipH 22 112 ⟨_, rfl, rfl, by rfl⟩ (by kernel_rfl) (by kernel_rfl) (by kernel_rfl) (fun _ _ _ h => h) (by assumption) ?_
            simp only [Act.put, List.setIfInBounds_toArray, List.set_cons_zero, List.set_cons_succ]
            refine skipH 23 113 ⟨_, rfl, rfl, by rfl⟩ (by kernel_rfl) (by kernel_rfl) (by kernel_rfl) (fun _ _ _ h => h) (by assumption) ?_
            simp only [Act.put, List.setIfInBounds_toArray, List.set_cons_zero, List.set_cons_succ]
            refine takeH (oi := ?oiv3) 24 114 (.bool false) ?hiv3 ?hdv3 ?hwv3 ?hyv3 (by kernel_rfl) (by kernel_rfl) (by kernel_rfl) ?hQv3 (by assumption) ?_
            case hiv3 => simp only [List.getElem?_toArray, List.getElem?_cons_zero, List.getElem?_cons_succ]; rfl
            case hdv3 => rfl
            case hwv3 => rfl
            case hyv3 => (intro w hSw; (try dsimp only at hSw); go_simp)
            case hQv3 => exact fun _ _ _ h => h
            simp only [Act.put, List.setIfInBounds_toArray, List.set_cons_zero, List.set_cons_succ]
            refine wpAnyH_done (by kernel_rfl) ?_ _
            go_wp2_with (fail)
            go_meet
            case rel => exact ⟨rfl, Kx8.drew, Ky8.drew, B8.drew⟩
          · have NP := neq_val P.k P.n P.t P.k P.n P.t
            rw [show sameV ⟨P.k, P.n, P.t⟩ ⟨P.k, P.n, P.t⟩ = true from sameV_refl _] at NP
            have NS := neq_val S.k S.n S.t S.k S.n S.t
            rw [show sameV ⟨S.k, S.n, S.t⟩ ⟨S.k, S.n, S.t⟩ = true from sameV_refl _] at NS
            have F2 : Hid (∀ wx, Below w8.heap.size w8 wx → (wx.cell? ⟨w5.heap.size, 0, none⟩ = some (.int .u8 P.k) ∧ wx.cell? ⟨w5.heap.size, 1, none⟩ = some (.int .i64 P.n) ∧ wx.cell? ⟨w5.heap.size, 2, none⟩ = some (.string P.t)) ∧ wx.cell? ⟨w2.heap.size, 0, none⟩ = some (.int .u8 S.k) ∧ wx.cell? ⟨w2.heap.size, 1, none⟩ = some (.int .i64 S.n) ∧ wx.cell? ⟨w2.heap.size, 2, none⟩ = some (.string S.t)) := fun wx hx => ⟨⟨(Kp8.later hx).k, (Kp8.later hx).n, (Kp8.later hx).t⟩, (Ks8.later hx).k, (Ks8.later hx).n, (Ks8.later hx).t⟩
            have U0 : Below w8.heap.size w8 w8.drew := (Below.refl _ _).drew
            go_wp2_with (fail)
            refine wp_region_held_drew (S := (fun w' => (w'.cell? ⟨w5.heap.size, 0, none⟩ = some (.int .u8 P.k) ∧ w'.cell? ⟨w5.heap.size, 1, none⟩ = some (.int .i64 P.n) ∧ w'.cell? ⟨w5.heap.size, 2, none⟩ = some (.string P.t)) ∧ w'.cell? ⟨w2.heap.size, 0, none⟩ = some (.int .u8 S.k) ∧ w'.cell? ⟨w2.heap.size, 1, none⟩ = some (.int .i64 S.n) ∧ w'.cell? ⟨w2.heap.size, 2, none⟩ = some (.string S.t))) (by kernel_rfl) (F2.out _ U0) (fun hHeld => ?_)
            refine takeH (oi := ?oit1) 0 90 (.bool true) ?hit1 ?hdt1 ?hwt1 ?hyt1 (by kernel_rfl) (by kernel_rfl) (by kernel_rfl) ?hQt1 (by assumption) ?_
            case hit1 => simp only [List.getElem?_toArray, List.getElem?_cons_zero]; rfl
            case hdt1 => rfl
            case hwt1 => rfl
            case hyt1 => (intro w hSw; (try dsimp only at hSw); go_simp)
            case hQt1 => exact fun _ _ _ h => h
            simp only [Act.put, List.setIfInBounds_toArray, List.set_cons_zero, List.set_cons_succ]
            refine takeH (oi := ?oit2) 1 91 (.bool true) ?hit2 ?hdt2 ?hwt2 ?hyt2 (by kernel_rfl) (by kernel_rfl) (by kernel_rfl) ?hQt2 (by assumption) ?_
            case hit2 => simp only [List.getElem?_toArray, List.getElem?_cons_zero, List.getElem?_cons_succ]; rfl
            case hdt2 => rfl
            case hwt2 => rfl
            case hyt2 => (intro w hSw; (try dsimp only at hSw); go_simp)
            case hQt2 => exact fun _ _ _ h => h
            simp only [Act.put, List.setIfInBounds_toArray, List.set_cons_zero, List.set_cons_succ]
            refine takeH (oi := ?oit3) 2 92 (.int .i64 0) ?hit3 ?hdt3 ?hwt3 ?hyt3 (by kernel_rfl) (by kernel_rfl) (by kernel_rfl) ?hQt3 (by assumption) ?_
            case hit3 => simp only [List.getElem?_toArray, List.getElem?_cons_zero, List.getElem?_cons_succ]; rfl
            case hdt3 => rfl
            case hwt3 => rfl
            case hyt3 => (intro w hSw; (try dsimp only at hSw); go_simp)
            case hQt3 => exact fun _ _ _ h => h
            simp only [Act.put, List.setIfInBounds_toArray, List.set_cons_zero, List.set_cons_succ]
            refine takeH (oi := ?oit4) 3 93 (.bool false) ?hit4 ?hdt4 ?hwt4 ?hyt4 (by kernel_rfl) (by kernel_rfl) (by kernel_rfl) ?hQt4 (by assumption) ?_
            case hit4 => simp only [List.getElem?_toArray, List.getElem?_cons_zero, List.getElem?_cons_succ]; rfl
            case hdt4 => rfl
            case hwt4 => rfl
            case hyt4 => (intro w hSw; (try dsimp only at hSw); go_simp)
            case hQt4 => exact fun _ _ _ h => h
            simp only [Act.put, List.setIfInBounds_toArray, List.set_cons_zero, List.set_cons_succ]
            refine takeH (oi := ?oit5) 4 94 (.bool false) ?hit5 ?hdt5 ?hwt5 ?hyt5 (by kernel_rfl) (by kernel_rfl) (by kernel_rfl) ?hQt5 (by assumption) ?_
            case hit5 => simp only [List.getElem?_toArray, List.getElem?_cons_zero, List.getElem?_cons_succ]; rfl
            case hdt5 => rfl
            case hwt5 => rfl
            case hyt5 => (intro w hSw; (try dsimp only at hSw); go_simp)
            case hQt5 => exact fun _ _ _ h => h
            simp only [Act.put, List.setIfInBounds_toArray, List.set_cons_zero, List.set_cons_succ]
            refine takeH (oi := ?oit6) 5 95 (.int .i64 0) ?hit6 ?hdt6 ?hwt6 ?hyt6 (by kernel_rfl) (by kernel_rfl) (by kernel_rfl) ?hQt6 (by assumption) ?_
            case hit6 => simp only [List.getElem?_toArray, List.getElem?_cons_zero, List.getElem?_cons_succ]; rfl
            case hdt6 => rfl
            case hwt6 => rfl
            case hyt6 => (intro w hSw; (try dsimp only at hSw); go_simp)
            case hQt6 => exact fun _ _ _ h => h
            simp only [Act.put, List.setIfInBounds_toArray, List.set_cons_zero, List.set_cons_succ]
            refine takeH (oi := ?oit7) 6 96 (.bool false) ?hit7 ?hdt7 ?hwt7 ?hyt7 (by kernel_rfl) (by kernel_rfl) (by kernel_rfl) ?hQt7 (by assumption) ?_
            case hit7 => simp only [List.getElem?_toArray, List.getElem?_cons_zero, List.getElem?_cons_succ]; rfl
            case hdt7 => rfl
            case hwt7 => rfl
            case hyt7 => (intro w hSw; (try dsimp only at hSw); go_simp)
            case hQt7 => exact fun _ _ _ h => h
            simp only [Act.put, List.setIfInBounds_toArray, List.set_cons_zero, List.set_cons_succ]
            refine takeH (oi := ?oit8) 7 97 (.bool false) ?hit8 ?hdt8 ?hwt8 ?hyt8 (by kernel_rfl) (by kernel_rfl) (by kernel_rfl) ?hQt8 (by assumption) ?_
            case hit8 => simp only [List.getElem?_toArray, List.getElem?_cons_zero, List.getElem?_cons_succ]; rfl
            case hdt8 => rfl
            case hwt8 => rfl
            case hyt8 => (intro w hSw; (try dsimp only at hSw); go_simp)
            case hQt8 => exact fun _ _ _ h => h
            simp only [Act.put, List.setIfInBounds_toArray, List.set_cons_zero, List.set_cons_succ]
            refine takeH (oi := ?oit9) 8 98 (.bool false) ?hit9 ?hdt9 ?hwt9 ?hyt9 (by kernel_rfl) (by kernel_rfl) (by kernel_rfl) ?hQt9 (by assumption) ?_
            case hit9 => simp only [List.getElem?_toArray, List.getElem?_cons_zero, List.getElem?_cons_succ]; rfl
            case hdt9 => rfl
            case hwt9 => rfl
            case hyt9 => (intro w hSw; (try dsimp only at hSw); go_simp)
            case hQt9 => exact fun _ _ _ h => h
            simp only [Act.put, List.setIfInBounds_toArray, List.set_cons_zero, List.set_cons_succ]
            refine takeH (oi := ?oit10) 9 99 (.agg #[.int .u8 P.k, .int .i64 P.n, .string P.t]) ?hit10 ?hdt10 ?hwt10 ?hyt10 (by kernel_rfl) (by kernel_rfl) (by kernel_rfl) ?hQt10 (by assumption) ?_
            case hit10 => simp only [List.getElem?_toArray, List.getElem?_cons_zero, List.getElem?_cons_succ]; rfl
            case hdt10 => rfl
            case hwt10 => rfl
            case hyt10 => (intro w hSw; (try dsimp only at hSw); go_simp)
            case hQt10 => exact fun _ _ _ h => h
            simp only [Act.put, List.setIfInBounds_toArray, List.set_cons_zero, List.set_cons_succ]
            refine takeH (oi := ?oit11) 10 100 (.int .i64 a) ?hit11 ?hdt11 ?hwt11 ?hyt11 (by kernel_rfl) (by kernel_rfl) (by kernel_rfl) ?hQt11 (by assumption) ?_
            case hit11 => simp only [List.getElem?_toArray, List.getElem?_cons_zero, List.getElem?_cons_succ]; rfl
            case hdt11 => rfl
            case hwt11 => rfl
            case hyt11 => (intro w hSw; (try dsimp only at hSw); go_simp)
            case hQt11 => exact fun _ _ _ h => h
            simp only [Act.put, List.setIfInBounds_toArray, List.set_cons_zero, List.set_cons_succ]
            refine takeH (oi := ?oit12) 11 101 (.int .i64 b) ?hit12 ?hdt12 ?hwt12 ?hyt12 (by kernel_rfl) (by kernel_rfl) (by kernel_rfl) ?hQt12 (by assumption) ?_
            case hit12 => simp only [List.getElem?_toArray, List.getElem?_cons_zero, List.getElem?_cons_succ]; rfl
            case hdt12 => rfl
            case hwt12 => rfl
            case hyt12 => (intro w hSw; (try dsimp only at hSw); go_simp)
            case hQt12 => exact fun _ _ _ h => h
            simp only [Act.put, List.setIfInBounds_toArray, List.set_cons_zero, List.set_cons_succ]
            refine takeH (oi := ?oit13) 12 102 (.int .i64 M) ?hit13 ?hdt13 ?hwt13 ?hyt13 (by kernel_rfl) (by kernel_rfl) (by kernel_rfl) ?hQt13 (by assumption) ?_
            case hit13 => simp only [List.getElem?_toArray, List.getElem?_cons_zero, List.getElem?_cons_succ]; rfl
            case hdt13 => rfl
            case hwt13 => rfl
            case hyt13 => (intro w hSw; (try dsimp only at hSw); go_simp)
            case hQt13 => exact fun _ _ _ h => h
            simp only [Act.put, List.setIfInBounds_toArray, List.set_cons_zero, List.set_cons_succ]
            refine wpAnyH_ready (rs := [13]) (by kernel_rfl) (by simp) ?_
            refine AllReadyH.cons rfl (fun KK hK => ?_) AllReadyH.nil
            go_simp
            refine (CN.out M P eM _).mono ?_
            rintro e1 wy1 ⟨rfl, hz⟩
            have U1 := bthen U0 (below_one hz)
            clear hz
            go_wp2_with (fail)
            refine hK.out _ _ (F2.out _ U1) (fun hHeld => ?_)
            clear hK KK
            refine takeH (oi := ?oit14) 14 104 (.bool false) ?hit14 ?hdt14 ?hwt14 ?hyt14 (by kernel_rfl) (by kernel_rfl) (by kernel_rfl) ?hQt14 (by assumption) ?_
            case hit14 => simp only [List.getElem?_toArray, List.getElem?_cons_zero, List.getElem?_cons_succ]; rfl
            case hdt14 => rfl
            case hwt14 => rfl
            case hyt14 => (intro w hSw; (try dsimp only at hSw); go_simp)
            case hQt14 => exact fun _ _ _ h => h
            simp only [Act.put, List.setIfInBounds_toArray, List.set_cons_zero, List.set_cons_succ]
            refine takeH (oi := ?oit15) 15 105 (.bool false) ?hit15 ?hdt15 ?hwt15 ?hyt15 (by kernel_rfl) (by kernel_rfl) (by kernel_rfl) ?hQt15 (by assumption) ?_
            case hit15 => simp only [List.getElem?_toArray, List.getElem?_cons_zero, List.getElem?_cons_succ]; rfl
            case hdt15 => rfl
            case hwt15 => rfl
            case hyt15 => (intro w hSw; (try dsimp only at hSw); go_simp)
            case hQt15 => exact fun _ _ _ h => h
            simp only [Act.put, List.setIfInBounds_toArray, List.set_cons_zero, List.set_cons_succ]
            refine takeH (oi := ?oit16) 16 106 (.bool false) ?hit16 ?hdt16 ?hwt16 ?hyt16 (by kernel_rfl) (by kernel_rfl) (by kernel_rfl) ?hQt16 (by assumption) ?_
            case hit16 => simp only [List.getElem?_toArray, List.getElem?_cons_zero, List.getElem?_cons_succ]; rfl
            case hdt16 => rfl
            case hwt16 => rfl
            case hyt16 => (intro w hSw; (try dsimp only at hSw); go_simp)
            case hQt16 => exact fun _ _ _ h => h
            simp only [Act.put, List.setIfInBounds_toArray, List.set_cons_zero, List.set_cons_succ]
            refine takeH (oi := ?oit17) 17 107 (.agg #[.int .u8 S.k, .int .i64 S.n, .string S.t]) ?hit17 ?hdt17 ?hwt17 ?hyt17 (by kernel_rfl) (by kernel_rfl) (by kernel_rfl) ?hQt17 (by assumption) ?_
            case hit17 => simp only [List.getElem?_toArray, List.getElem?_cons_zero, List.getElem?_cons_succ]; rfl
            case hdt17 => rfl
            case hwt17 => rfl
            case hyt17 => (intro w hSw; (try dsimp only at hSw); go_simp)
            case hQt17 => exact fun _ _ _ h => h
            simp only [Act.put, List.setIfInBounds_toArray, List.set_cons_zero, List.set_cons_succ]
            refine takeH (oi := ?oit18) 18 108 (.int .i64 a) ?hit18 ?hdt18 ?hwt18 ?hyt18 (by kernel_rfl) (by kernel_rfl) (by kernel_rfl) ?hQt18 (by assumption) ?_
            case hit18 => simp only [List.getElem?_toArray, List.getElem?_cons_zero, List.getElem?_cons_succ]; rfl
            case hdt18 => rfl
            case hwt18 => rfl
            case hyt18 => (intro w hSw; (try dsimp only at hSw); go_simp)
            case hQt18 => exact fun _ _ _ h => h
            simp only [Act.put, List.setIfInBounds_toArray, List.set_cons_zero, List.set_cons_succ]
            refine takeH (oi := ?oit19) 19 109 (.int .i64 b) ?hit19 ?hdt19 ?hwt19 ?hyt19 (by kernel_rfl) (by kernel_rfl) (by kernel_rfl) ?hQt19 (by assumption) ?_
            case hit19 => simp only [List.getElem?_toArray, List.getElem?_cons_zero, List.getElem?_cons_succ]; rfl
            case hdt19 => rfl
            case hwt19 => rfl
            case hyt19 => (intro w hSw; (try dsimp only at hSw); go_simp)
            case hQt19 => exact fun _ _ _ h => h
            simp only [Act.put, List.setIfInBounds_toArray, List.set_cons_zero, List.set_cons_succ]
            refine takeH (oi := ?oit20) 20 110 (.int .i64 A) ?hit20 ?hdt20 ?hwt20 ?hyt20 (by kernel_rfl) (by kernel_rfl) (by kernel_rfl) ?hQt20 (by assumption) ?_
            case hit20 => simp only [List.getElem?_toArray, List.getElem?_cons_zero, List.getElem?_cons_succ]; rfl
            case hdt20 => rfl
            case hwt20 => rfl
            case hyt20 => (intro w hSw; (try dsimp only at hSw); go_simp)
            case hQt20 => exact fun _ _ _ h => h
            simp only [Act.put, List.setIfInBounds_toArray, List.set_cons_zero, List.set_cons_succ]
            refine wpAnyH_ready (rs := [21]) (by kernel_rfl) (by simp) ?_
            refine AllReadyH.cons rfl (fun KK hK => ?_) AllReadyH.nil
            go_simp
            refine (CN.out A S eA _).mono ?_
            rintro e1 wy2 ⟨rfl, hz⟩
            have U2 := bthen U1 (below_one hz)
            clear hz
            go_wp2_with (fail)
            refine hK.out _ _ (F2.out _ U2) (fun hHeld => ?_)
            clear hK KK
            refine takeH (oi := ?oit21) 22 112 (.bool false) ?hit21 ?hdt21 ?hwt21 ?hyt21 (by kernel_rfl) (by kernel_rfl) (by kernel_rfl) ?hQt21 (by assumption) ?_
            case hit21 => simp only [List.getElem?_toArray, List.getElem?_cons_zero, List.getElem?_cons_succ]; rfl
            case hdt21 => rfl
            case hwt21 => rfl
            case hyt21 => (intro w hSw; (try dsimp only at hSw); go_simp)
            case hQt21 => exact fun _ _ _ h => h
            simp only [Act.put, List.setIfInBounds_toArray, List.set_cons_zero, List.set_cons_succ]
            refine takeH (oi := ?oit22) 23 113 (.bool false) ?hit22 ?hdt22 ?hwt22 ?hyt22 (by kernel_rfl) (by kernel_rfl) (by kernel_rfl) ?hQt22 (by assumption) ?_
            case hit22 => simp only [List.getElem?_toArray, List.getElem?_cons_zero, List.getElem?_cons_succ]; rfl
            case hdt22 => rfl
            case hwt22 => rfl
            case hyt22 => (intro w hSw; (try dsimp only at hSw); go_simp)
            case hQt22 => exact fun _ _ _ h => h
            simp only [Act.put, List.setIfInBounds_toArray, List.set_cons_zero, List.set_cons_succ]
            refine takeH (oi := ?oit23) 24 114 (.bool false) ?hit23 ?hdt23 ?hwt23 ?hyt23 (by kernel_rfl) (by kernel_rfl) (by kernel_rfl) ?hQt23 (by assumption) ?_
            case hit23 => simp only [List.getElem?_toArray, List.getElem?_cons_zero, List.getElem?_cons_succ]; rfl
            case hdt23 => rfl
            case hwt23 => rfl
            case hyt23 => (intro w hSw; (try dsimp only at hSw); go_simp)
            case hQt23 => exact fun _ _ _ h => h
            simp only [Act.put, List.setIfInBounds_toArray, List.set_cons_zero, List.set_cons_succ]
            refine wpAnyH_done (by kernel_rfl) ?_ _
            go_wp2_with (fail)
            go_meet
            case rel => exact ⟨rfl, Kx8.later U2, Ky8.later U2, bthen B8 U2⟩
        case rest =>
          obtain ⟨rfl, Kx9, Ky9, B9⟩ := hcut
          clear ckx8 cnx8 ctx8 clx8 cky8 cny8 cty8 cly8 cks8 cns8 cts8 cls8 ckp8 cnp8 ctp8 clp8 Kx8 Ky8 Ks8 Kp8 B8
          obtain ⟨w9, hwn⟩ : ∃ wn, wn = wc := ⟨_, rfl⟩
          rw [← hwn] at Kx9 Ky9 B9 ⊢
          clear hwn
          obtain ⟨ckx9, cnx9, ctx9, clx9⟩ := id Kx9
          obtain ⟨cky9, cny9, cty9, cly9⟩ := id Ky9
          go_wp2_with (fail)
          refine (P3.out _ _ (two_in _ X Y wX wY (by simp))).mono ?_
          rintro e w10 ⟨rfl, hb10⟩
          have Lx10 : Cel w10 (((((((w1.heap.size + 1 + 1))))))) X := ((Kx9.alloc _)).later hb10
          have Ly10 : Cel w10 (((((((w1.heap.size + 1 + 1 + 1))))))) Y := ((Ky9.alloc _)).later hb10
          have B10 : Below w.heap.size w w10 := bthen (bmore B9 _) hb10
          clear hb10 ckx9 cnx9 ctx9 clx9 cky9 cny9 cty9 cly9 Kx9 Ky9 B9
          obtain ⟨ckx10, cnx10, ctx10, clx10⟩ := id Lx10
          obtain ⟨cky10, cny10, cty10, cly10⟩ := id Ly10
          go_wp2_with (fail)
          refine (P4.out _ _ (two_in _ X Y wX wY (by simp))).mono ?_
          rintro e w11 ⟨rfl, hb11⟩
          have Lq11 : Cel w11 (w10.heap.size) Q := (((Cel.new (B := w10.heap.size) (v := Q) (by simp)).alloc _)).later hb11
          have Lx11 : Cel w11 ((((((((w1.heap.size + 1 + 1)))))))) X := (((Lx10.alloc _).alloc _)).later hb11
          have Ly11 : Cel w11 ((((((((w1.heap.size + 1 + 1 + 1)))))))) Y := (((Ly10.alloc _).alloc _)).later hb11
          have B11 : Below w.heap.size w w11 := bthen (bmore (bmore B10 _) _) hb11
          clear hb11 ckx10 cnx10 ctx10 clx10 cky10 cny10 cty10 cly10 Lx10 Ly10 B10
          obtain ⟨ckq11, cnq11, ctq11, clq11⟩ := id Lq11
          obtain ⟨ckx11, cnx11, ctx11, clx11⟩ := id Lx11
          obtain ⟨cky11, cny11, cty11, cly11⟩ := id Ly11
          rcases H5.out with ⟨rfl, rfl, rfl⟩ | ⟨hb0, rfl, hr, hg⟩
          · go_wp2_with (fail)
            go_ret
            exact ⟨rfl, (bmore B11 _)⟩
          · rcases hr with rn0 | ⟨rn0, rs⟩
            · rcases hg with ⟨rfl, rfl, rfl⟩ | ⟨rfl, wQ, wR, TT, wT, dT, iT⟩
              · go_wp2_with (fail)
                go_ret
                exact ⟨rfl, (bmore B11 _)⟩
              · have P5 := hide (do_is dT)
                have J := hide (is_is iT wT wR)
                go_wp2_with (fail)
                refine (P5.out _ _ (two_in _ Q Y wQ wY (by simp))).mono ?_
                rintro e w12 ⟨rfl, hb12⟩
                have Lr12 : Cel w12 (w11.heap.size) R := (((Cel.new (B := w11.heap.size) (v := R) (by simp)).alloc _)).later hb12
                have Lq12 : Cel w12 ((w10.heap.size)) Q := (((Lq11.alloc _).alloc _)).later hb12
                have Lx12 : Cel w12 (((((((((w1.heap.size + 1 + 1))))))))) X := (((Lx11.alloc _).alloc _)).later hb12
                have Ly12 : Cel w12 (((((((((w1.heap.size + 1 + 1 + 1))))))))) Y := (((Ly11.alloc _).alloc _)).later hb12
                have B12 : Below w.heap.size w w12 := bthen (bmore (bmore B11 _) _) hb12
                clear hb12 ckq11 cnq11 ctq11 clq11 ckx11 cnx11 ctx11 clx11 cky11 cny11 cty11 cly11 Lq11 Lx11 Ly11 B11
                obtain ⟨ckr12, cnr12, ctr12, clr12⟩ := id Lr12
                obtain ⟨ckq12, cnq12, ctq12, clq12⟩ := id Lq12
                obtain ⟨ckx12, cnx12, ctx12, clx12⟩ := id Lx12
                obtain ⟨cky12, cny12, cty12, cly12⟩ := id Ly12
                go_wp2_with (fail)
                refine (J.out _).mono ?_
                rintro e w13 ⟨rfl, hb13⟩
                have Lt13 : Cel w13 (w12.heap.size) TT := ((Cel.new (B := w12.heap.size) (v := TT) (by simp))).later hb13
                have Lr13 : Cel w13 ((w11.heap.size)) R := ((Lr12.alloc _)).later hb13
                have Lq13 : Cel w13 (((w10.heap.size))) Q := ((Lq12.alloc _)).later hb13
                have Lx13 : Cel w13 ((((((((((w1.heap.size + 1 + 1)))))))))) X := ((Lx12.alloc _)).later hb13
                have Ly13 : Cel w13 ((((((((((w1.heap.size + 1 + 1 + 1)))))))))) Y := ((Ly12.alloc _)).later hb13
                have B13 : Below w.heap.size w w13 := bthen (bmore B12 _) hb13
                clear hb13 ckr12 cnr12 ctr12 clr12 ckq12 cnq12 ctq12 clq12 ckx12 cnx12 ctx12 clx12 cky12 cny12 cty12 cly12 Lr12 Lq12 Lx12 Ly12 B12
                obtain ⟨ckt13, cnt13, ctt13, clt13⟩ := id Lt13
                obtain ⟨ckr13, cnr13, ctr13, clr13⟩ := id Lr13
                obtain ⟨ckq13, cnq13, ctq13, clq13⟩ := id Lq13
                obtain ⟨ckx13, cnx13, ctx13, clx13⟩ := id Lx13
                obtain ⟨cky13, cny13, cty13, cly13⟩ := id Ly13
                go_wp2_with (fail)
                go_ret
                exact ⟨rfl, B13⟩
            · rcases hg with ⟨rfl, rfl, rfl⟩ | ⟨rfl, wQ, wR, TT, wT, dT, iT⟩
              · go_wp2_with (fail)
                go_ret
                exact ⟨rfl, (bmore B11 _)⟩
              · have P5 := hide (do_is dT)
                have J := hide (is_is iT wT wR)
                go_wp2_with (fail)
                refine (P5.out _ _ (two_in _ Q Y wQ wY (by simp))).mono ?_
                rintro e w12 ⟨rfl, hb12⟩
                have Lr12 : Cel w12 (w11.heap.size) R := (((Cel.new (B := w11.heap.size) (v := R) (by simp)).alloc _)).later hb12
                have Lq12 : Cel w12 ((w10.heap.size)) Q := (((Lq11.alloc _).alloc _)).later hb12
                have Lx12 : Cel w12 (((((((((w1.heap.size + 1 + 1))))))))) X := (((Lx11.alloc _).alloc _)).later hb12
                have Ly12 : Cel w12 (((((((((w1.heap.size + 1 + 1 + 1))))))))) Y := (((Ly11.alloc _).alloc _)).later hb12
                have B12 : Below w.heap.size w w12 := bthen (bmore (bmore B11 _) _) hb12
                clear hb12 ckq11 cnq11 ctq11 clq11 ckx11 cnx11 ctx11 clx11 cky11 cny11 cty11 cly11 Lq11 Lx11 Ly11 B11
                obtain ⟨ckr12, cnr12, ctr12, clr12⟩ := id Lr12
                obtain ⟨ckq12, cnq12, ctq12, clq12⟩ := id Lq12
                obtain ⟨ckx12, cnx12, ctx12, clx12⟩ := id Lx12
                obtain ⟨cky12, cny12, cty12, cly12⟩ := id Ly12
                go_wp2_with (fail)
                refine (J.out _).mono ?_
                rintro e w13 ⟨rfl, hb13⟩
                have Lt13 : Cel w13 (w12.heap.size) TT := ((Cel.new (B := w12.heap.size) (v := TT) (by simp))).later hb13
                have Lr13 : Cel w13 ((w11.heap.size)) R := ((Lr12.alloc _)).later hb13
                have Lq13 : Cel w13 (((w10.heap.size))) Q := ((Lq12.alloc _)).later hb13
                have Lx13 : Cel w13 ((((((((((w1.heap.size + 1 + 1)))))))))) X := ((Lx12.alloc _)).later hb13
                have Ly13 : Cel w13 ((((((((((w1.heap.size + 1 + 1 + 1)))))))))) Y := ((Ly12.alloc _)).later hb13
                have B13 : Below w.heap.size w w13 := bthen (bmore B12 _) hb13
                clear hb13 ckr12 cnr12 ctr12 clr12 ckq12 cnq12 ctq12 clq12 ckx12 cnx12 ctx12 clx12 cky12 cny12 cty12 cly12 Lr12 Lq12 Lx12 Ly12 B12
                obtain ⟨ckt13, cnt13, ctt13, clt13⟩ := id Lt13
                obtain ⟨ckr13, cnr13, ctr13, clr13⟩ := id Lr13
                obtain ⟨ckq13, cnq13, ctq13, clq13⟩ := id Lq13
                obtain ⟨ckx13, cnx13, ctx13, clx13⟩ := id Lx13
                obtain ⟨cky13, cny13, cty13, cly13⟩ := id Ly13
                go_wp2_with (fail)
                go_ret
                exact ⟨rfl, B13⟩

theorem numbers_walk (w : World) (a b : Int) (ha : I64 a) (hb : I64 b) : Calls Try.prog 3 #[.int .i64 a, .int .i64 b] w fun e w' => e = .returned (.bool true) ∧ Below w.heap.size w w' := by
  have d3 : doR 3 [numV a, numV b] = fitR (a + b) := do_num ⟨by decide, by decide⟩ a b
  have d5 : doR 5 [numV a, numV b] = fitR (a * b) := do_num ⟨by decide, by decide⟩ a b
  have d6 : doR 6 [numV a, numV b] = divR a b := do_num ⟨by decide, by decide⟩ a b
  have d7 : doR 7 [numV a, numV b] = modR a b := do_num ⟨by decide, by decide⟩ a b
  refine numbers_letters w a b (fitR (a + b)).2 (fitR (a * b)).2 (divR a b).2 (modR a b).2 (numV a) (numV b) (fitR (a + b)).1 (fitR (a * b)).1 (divR a b).1 (modR a b).1 _ rfl rfl (numV_wf ha) (numV_wf hb) d3 d5 d6 d7 ?_ ?_ rfl ?_ ?_
  · by_cases h : I64 (a + b)
    · rw [fit1 h]
      refine .inl ⟨rfl, numV_wf h, is_num ⟨by decide, by decide⟩ ?_⟩
      show fitR ((a + b) - b) = _
      rw [show a + b - b = a from by omega, fit1 ha]
    · rw [fit0 h]; exact .inr rfl
  · by_cases h : I64 (a * b)
    · rw [fit1 h]
      by_cases hz : b = 0
      · exact .inr (.inl ⟨rfl, by simpa using hz⟩)
      · refine .inl ⟨rfl, by simpa using hz, numV_wf h, is_num ⟨by decide, by decide⟩ ?_⟩
        show divR (a * b) b = _
        unfold divR
        rw [if_neg hz, div_back hz, fit1 ha]
    · rw [fit0 h]; exact .inr (.inr rfl)
  · cases q : (decide (-2147483648 < a) && (decide (a < 2147483648) && (decide (-2147483648 < b) && decide (b < 2147483648))))
    · exact .inl rfl
    · simp only [Bool.and_eq_true, decide_eq_true_eq] at q
      obtain ⟨q1, q2, q3, q4⟩ := q
      have hs : I64 (a + b) := ⟨by omega, by omega⟩
      have hm : I64 (a * b) := by
        have h1 : (a * b).natAbs = a.natAbs * b.natAbs := Int.natAbs_mul a b
        have h2 : a.natAbs * b.natAbs ≤ 2147483648 * 2147483648 := Nat.mul_le_mul (by omega) (by omega)
        rw [← h1] at h2
        exact ⟨by omega, by omega⟩
      rw [fit1 hs, fit1 hm]
      refine .inr ⟨rfl, rfl, rfl, ⟨_, ?_, rfl⟩, _, ?_, rfl⟩
      · rw [IntKind.wrap_i64]; have := hm.lo; have := hm.hi; omega
      · rw [IntKind.wrap_i64]; have := hs.lo; have := hs.hi; omega
  · by_cases hz : b = 0
    · subst hz
      exact .inl ⟨rfl, rfl, rfl⟩
    · have em : modR a b = (numV (a.tmod b), 0) := by unfold modR; rw [if_neg hz]
      rw [em]
      refine .inr ⟨by simpa using hz, rfl, ?_, ?_⟩
      · rcases mod_sign a b with k | k
        · exact .inl (by simpa [numV] using k)
        · by_cases z : a.tmod b = 0
          · exact .inl (by simpa [numV] using z)
          · exact .inr ⟨by simpa [numV] using z, k⟩
      · by_cases h : a = -9223372036854775808 ∧ b = -1
        · obtain ⟨rfl, rfl⟩ := h
          exact .inl ⟨rfl, rfl, rfl⟩
        · have hd := tdiv_64 ha hz h
          have ed : divR a b = (numV (a.tdiv b), 0) := by unfold divR; rw [if_neg hz, fit1 hd]
          rw [ed]
          refine .inr ⟨rfl, numV_wf hd, numV_wf (tmod_64 ha), numV (a.tdiv b * b), numV_wf (tdiv_mul_64 ha), ?_, ?_⟩
          · rw [do_num ⟨by decide, by decide⟩]
            show fitR (a.tdiv b * b) = _
            rw [fit1 (tdiv_mul_64 ha)]
          · refine is_num ⟨by decide, by decide⟩ ?_
            show fitR (a.tdiv b * b + a.tmod b) = _
            rw [div_mod, fit1 ha]
end Go.Proofs.Ytoaliblndieaiaa
