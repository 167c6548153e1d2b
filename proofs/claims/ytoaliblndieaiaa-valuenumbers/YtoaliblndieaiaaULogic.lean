/-
  What is known does not hang on what is not: the plain facts over true, false and unknown, and the law's walk.
-/
import Derived.Test.YtoaliblndieaiaaUCel
namespace Go.Proofs.Ytoaliblndieaiaa
open Go.RowKit
attribute [local go_sem ↓] Go.wp_at_zero Go.wp_at_succ

def triB (v : Val) : Bool := sameV v nullV || (sameV v (tv true) || sameV v (tv false))
theorem tri_of {v : Val} (h : triB v = true) : Tri v := by
  unfold triB at h
  simp only [Bool.or_eq_true] at h
  rcases h with h | h | h
  · exact .inl (val_eq h)
  · exact .inr (.inl (val_eq h))
  · exact .inr (.inr (val_eq h))
def d1 (op : Int) (l : List Val) : Val := (doR op l).1
def ok1 (op : Int) (l : List Val) : Bool := ((doR op l).2 == 0) && triB (doR op l).1
/-- What stands for an unknown. -/
def knownV (b : Val) (t : Int) : Val := if b.k = 0 then triV t else b
def logicB (a b c : Val) : Bool :=
  ok1 15 [a, b] && (ok1 16 [a, b] && (ok1 17 [a] && (ok1 17 [b] && (ok1 17 [d1 15 [a, b]] && (ok1 15 [b, c] && (ok1 15 [d1 15 [a, b], c]
  && (isB 16 (d1 17 [a]) (d1 17 [b]) (d1 17 [d1 15 [a, b]]) && (isB 15 b a (d1 15 [a, b]) && (isB 16 b a (d1 16 [a, b]) && (isB 15 a (d1 15 [b, c]) (d1 15 [d1 15 [a, b], c])
  && ((((d1 15 [a, b]).k == 0) || (isB 15 a (knownV b 1) (d1 15 [a, b]) && isB 15 a (knownV b 2) (d1 15 [a, b])))
  && (((d1 16 [a, b]).k == 0) || (isB 16 a (knownV b 1) (d1 16 [a, b]) && isB 16 a (knownV b 2) (d1 16 [a, b]))))))))))))))
set_option maxRecDepth 100000 in
theorem logic_all (a b c : Val) (ha : Tri a) (hb : Tri b) (hc : Tri c) : logicB a b c = true := by
  rcases ha with rfl | rfl | rfl <;> rcases hb with rfl | rfl | rfl <;> rcases hc with rfl | rfl | rfl <;> decide +kernel
theorem ok1_eq {op : Int} {l : List Val} (h : ok1 op l = true) : doR op l = (d1 op l, 0) ∧ Tri (d1 op l) := by
  unfold ok1 at h
  rw [Bool.and_eq_true, beq_iff_eq] at h
  exact ⟨by unfold d1; rw [← h.1], tri_of h.2⟩
theorem knownV_tri {b : Val} (h : Tri b) (t : Int) : Tri (knownV b t) := by
  unfold knownV; split
  · exact triV_tri t
  · exact h

/-- Do and 'is', told by what they come to. -/
theorem do_is {op : Int} {l : List Val} {R : Val × Int} (h : doR op l = R) (wx : World) (v : Value) (hv : ValsIn wx v l) : Calls Try.prog 9 #[.int .u8 op, v] wx fun e w' => e = .returned (tupR R) ∧ Below wx.heap.size wx w' := by rw [← h]; exact do_any wx op v l hv
theorem is_is {op : Int} {a b x : Val} {B : Bool} (h : isB op a b x = B) (ha : a.wf) (hb : b.wf) (wx : World) :
    Calls Try.prog 10 #[.int .u8 op, .agg #[.int .u8 a.k, .int .i64 a.n, .string a.t], .agg #[.int .u8 b.k, .int .i64 b.n, .string b.t], .agg #[.int .u8 x.k, .int .i64 x.n, .string x.t]] wx fun e w' => e = .returned (.bool B) ∧ Below wx.heap.size wx w' := by rw [← h]; exact is_any wx op a b x ha hb

set_option maxHeartbeats 8000000 in
theorem logic_letters (w : World) (i j k : Int) (a b c AN OR X Y NO BC LE K1 K2 : Val) (ea : triV i = a) (eb : triV j = b) (ec : triV k = c)
    (wa : a.wf) (wb : b.wf) (wc : c.wf) (wAN : AN.wf) (wX : X.wf) (wY : Y.wf) (wBC : BC.wf) (wK1 : K1.wf) (wK2 : K2.wf)
    (D1 : doR 15 [a, b] = (AN, 0)) (D2 : doR 16 [a, b] = (OR, 0)) (D3 : doR 17 [a] = (X, 0)) (D4 : doR 17 [b] = (Y, 0)) (D5 : doR 17 [AN] = (NO, 0)) (D6 : doR 15 [b, c] = (BC, 0)) (D7 : doR 15 [AN, c] = (LE, 0))
    (I1 : isB 16 X Y NO = true) (I2 : isB 15 b a AN = true) (I3 : isB 16 b a OR = true) (I4 : isB 15 a BC LE = true)
    (hz : (b.k == 0) = true ∧ triV 1 = K1 ∧ triV 2 = K2 ∨ (b.k == 0) = false ∧ K1 = b ∧ K2 = b)
    (hA : (AN.k != 0) = false ∨ (AN.k != 0) = true ∧ isB 15 a K1 AN = true ∧ isB 15 a K2 AN = true)
    (hO : (OR.k != 0) = false ∨ (OR.k != 0) = true ∧ isB 16 a K1 OR = true ∧ isB 16 a K2 OR = true) :
    Calls Try.prog 5 #[.int .i64 i, .int .i64 j, .int .i64 k] w fun e w' => e = .returned (.bool true) ∧ Below w.heap.size w w' := by
  have B0 : Below w.heap.size w w := Below.refl _ _
  have TA := hide (fun wx => three_any wx i)
  have TB := hide (fun wx => three_any wx j)
  have TC := hide (fun wx => three_any wx k)
  rw [ea] at TA
  rw [eb] at TB
  rw [ec] at TC
  have P1 := hide (do_is D1)
  have P2 := hide (do_is D2)
  have P3 := hide (do_is D3)
  have P4 := hide (do_is D4)
  have P5 := hide (do_is D5)
  have P6 := hide (do_is D6)
  have P7 := hide (do_is D7)
  have J1 := hide (is_is I1 wX wY)
  have J2 := hide (is_is I2 wb wa)
  have J3 := hide (is_is I3 wb wa)
  have J4 := hide (is_is I4 wa wBC)
  have LV := hide (fun wx => lives_any wx)
  have HZ := hide hz
  have HA := hide hA
  have HO := hide hO
  clear ea eb ec D1 D2 D3 D4 D5 D6 D7 I1 I2 I3 I4 hz hA hO
  go_enter Try.func5, Try.ntmps5
  go_wp2_with (fail)
  refine (LV.out _).mono ?_
  rintro e w1 ⟨rfl, hb1⟩
  have B1 : Below w.heap.size w w1 := bthen B0 hb1
  clear hb1
  go_wp2_with (fail)
  refine (TA.out _).mono ?_
  rintro e w2 ⟨rfl, hb2⟩
  have B2 : Below w.heap.size w w2 := bthen B1 hb2
  clear hb2 B1
  go_wp2_with (fail)
  refine (TB.out _).mono ?_
  rintro e w3 ⟨rfl, hb3⟩
  have B3 : Below w.heap.size w w3 := bthen B2 hb3
  clear hb3 B2
  go_wp2_with (fail)
  refine (TC.out _).mono ?_
  rintro e w4 ⟨rfl, hb4⟩
  have B4 : Below w.heap.size w w4 := bthen B3 hb4
  clear hb4 B3
  go_wp2_with (fail)
  refine (P1.out _ _ (two_in _ a b wa wb (by simp))).mono ?_
  rintro e w5 ⟨rfl, hb5⟩
  have La5 : Cel w5 (w4.heap.size) a := (((((Cel.new (B := w4.heap.size) (v := a) (by simp)).alloc _).alloc _).alloc _)).later hb5
  have Lb5 : Cel w5 (w4.heap.size + 1) b := ((((Cel.new (B := w4.heap.size + 1) (v := b) (by simp)).alloc _).alloc _)).later hb5
  have Lc5 : Cel w5 (w4.heap.size + 1 + 1) c := (((Cel.new (B := w4.heap.size + 1 + 1) (v := c) (by simp)).alloc _)).later hb5
  have B5 : Below w.heap.size w w5 := bthen (bmore (bmore (bmore (bmore B4 _) _) _) _) hb5
  clear hb5 B4
  obtain ⟨cka5, cna5, cta5, cla5⟩ := id La5
  obtain ⟨ckb5, cnb5, ctb5, clb5⟩ := id Lb5
  obtain ⟨ckc5, cnc5, ctc5, clc5⟩ := id Lc5
  go_wp2_with (fail)
  refine (P2.out _ _ (two_in _ a b wa wb (by simp))).mono ?_
  rintro e w6 ⟨rfl, hb6⟩
  have LAN6 : Cel w6 (w5.heap.size) AN := (((Cel.new (B := w5.heap.size) (v := AN) (by simp)).alloc _)).later hb6
  have La6 : Cel w6 ((w4.heap.size)) a := (((La5.alloc _).alloc _)).later hb6
  have Lb6 : Cel w6 ((w4.heap.size + 1)) b := (((Lb5.alloc _).alloc _)).later hb6
  have Lc6 : Cel w6 ((w4.heap.size + 1 + 1)) c := (((Lc5.alloc _).alloc _)).later hb6
  have B6 : Below w.heap.size w w6 := bthen (bmore (bmore B5 _) _) hb6
  clear hb6 cka5 cna5 cta5 cla5 ckb5 cnb5 ctb5 clb5 ckc5 cnc5 ctc5 clc5 La5 Lb5 Lc5 B5
  obtain ⟨ckAN6, cnAN6, ctAN6, clAN6⟩ := id LAN6
  obtain ⟨cka6, cna6, cta6, cla6⟩ := id La6
  obtain ⟨ckb6, cnb6, ctb6, clb6⟩ := id Lb6
  obtain ⟨ckc6, cnc6, ctc6, clc6⟩ := id Lc6
  go_wp2_with (fail)
  refine (P3.out _ _ (one_in _ a wa (by simp))).mono ?_
  rintro e w7 ⟨rfl, hb7⟩
  have LOR7 : Cel w7 (w6.heap.size) OR := (((Cel.new (B := w6.heap.size) (v := OR) (by simp)).alloc _)).later hb7
  have LAN7 : Cel w7 ((w5.heap.size)) AN := (((LAN6.alloc _).alloc _)).later hb7
  have La7 : Cel w7 (((w4.heap.size))) a := (((La6.alloc _).alloc _)).later hb7
  have Lb7 : Cel w7 (((w4.heap.size + 1))) b := (((Lb6.alloc _).alloc _)).later hb7
  have Lc7 : Cel w7 (((w4.heap.size + 1 + 1))) c := (((Lc6.alloc _).alloc _)).later hb7
  have B7 : Below w.heap.size w w7 := bthen (bmore (bmore B6 _) _) hb7
  clear hb7 ckAN6 cnAN6 ctAN6 clAN6 cka6 cna6 cta6 cla6 ckb6 cnb6 ctb6 clb6 ckc6 cnc6 ctc6 clc6 LAN6 La6 Lb6 Lc6 B6
  obtain ⟨ckOR7, cnOR7, ctOR7, clOR7⟩ := id LOR7
  obtain ⟨ckAN7, cnAN7, ctAN7, clAN7⟩ := id LAN7
  obtain ⟨cka7, cna7, cta7, cla7⟩ := id La7
  obtain ⟨ckb7, cnb7, ctb7, clb7⟩ := id Lb7
  obtain ⟨ckc7, cnc7, ctc7, clc7⟩ := id Lc7
  go_wp2_with (fail)
  refine (P4.out _ _ (one_in _ b wb (by simp))).mono ?_
  rintro e w8 ⟨rfl, hb8⟩
  have LX8 : Cel w8 (w7.heap.size) X := (((Cel.new (B := w7.heap.size) (v := X) (by simp)).alloc _)).later hb8
  have LOR8 : Cel w8 ((w6.heap.size)) OR := (((LOR7.alloc _).alloc _)).later hb8
  have LAN8 : Cel w8 (((w5.heap.size))) AN := (((LAN7.alloc _).alloc _)).later hb8
  have La8 : Cel w8 ((((w4.heap.size)))) a := (((La7.alloc _).alloc _)).later hb8
  have Lb8 : Cel w8 ((((w4.heap.size + 1)))) b := (((Lb7.alloc _).alloc _)).later hb8
  have Lc8 : Cel w8 ((((w4.heap.size + 1 + 1)))) c := (((Lc7.alloc _).alloc _)).later hb8
  have B8 : Below w.heap.size w w8 := bthen (bmore (bmore B7 _) _) hb8
  clear hb8 ckOR7 cnOR7 ctOR7 clOR7 ckAN7 cnAN7 ctAN7 clAN7 cka7 cna7 cta7 cla7 ckb7 cnb7 ctb7 clb7 ckc7 cnc7 ctc7 clc7 LOR7 LAN7 La7 Lb7 Lc7 B7
  obtain ⟨ckX8, cnX8, ctX8, clX8⟩ := id LX8
  obtain ⟨ckOR8, cnOR8, ctOR8, clOR8⟩ := id LOR8
  obtain ⟨ckAN8, cnAN8, ctAN8, clAN8⟩ := id LAN8
  obtain ⟨cka8, cna8, cta8, cla8⟩ := id La8
  obtain ⟨ckb8, cnb8, ctb8, clb8⟩ := id Lb8
  obtain ⟨ckc8, cnc8, ctc8, clc8⟩ := id Lc8
  go_wp2_with (fail)
  refine (P5.out _ _ (one_in _ AN wAN (by simp))).mono ?_
  rintro e w9 ⟨rfl, hb9⟩
  have LY9 : Cel w9 (w8.heap.size) Y := (((Cel.new (B := w8.heap.size) (v := Y) (by simp)).alloc _)).later hb9
  have LX9 : Cel w9 ((w7.heap.size)) X := (((LX8.alloc _).alloc _)).later hb9
  have LOR9 : Cel w9 (((w6.heap.size))) OR := (((LOR8.alloc _).alloc _)).later hb9
  have LAN9 : Cel w9 ((((w5.heap.size)))) AN := (((LAN8.alloc _).alloc _)).later hb9
  have La9 : Cel w9 (((((w4.heap.size))))) a := (((La8.alloc _).alloc _)).later hb9
  have Lb9 : Cel w9 (((((w4.heap.size + 1))))) b := (((Lb8.alloc _).alloc _)).later hb9
  have Lc9 : Cel w9 (((((w4.heap.size + 1 + 1))))) c := (((Lc8.alloc _).alloc _)).later hb9
  have B9 : Below w.heap.size w w9 := bthen (bmore (bmore B8 _) _) hb9
  clear hb9 ckX8 cnX8 ctX8 clX8 ckOR8 cnOR8 ctOR8 clOR8 ckAN8 cnAN8 ctAN8 clAN8 cka8 cna8 cta8 cla8 ckb8 cnb8 ctb8 clb8 ckc8 cnc8 ctc8 clc8 LX8 LOR8 LAN8 La8 Lb8 Lc8 B8
  obtain ⟨ckY9, cnY9, ctY9, clY9⟩ := id LY9
  obtain ⟨ckX9, cnX9, ctX9, clX9⟩ := id LX9
  obtain ⟨ckOR9, cnOR9, ctOR9, clOR9⟩ := id LOR9
  obtain ⟨ckAN9, cnAN9, ctAN9, clAN9⟩ := id LAN9
  obtain ⟨cka9, cna9, cta9, cla9⟩ := id La9
  obtain ⟨ckb9, cnb9, ctb9, clb9⟩ := id Lb9
  obtain ⟨ckc9, cnc9, ctc9, clc9⟩ := id Lc9
  go_wp2_with (fail)
  refine (J1.out _).mono ?_
  rintro e w10 ⟨rfl, hb10⟩
  have LNO10 : Cel w10 (w9.heap.size) NO := ((Cel.new (B := w9.heap.size) (v := NO) (by simp))).later hb10
  have LY10 : Cel w10 ((w8.heap.size)) Y := ((LY9.alloc _)).later hb10
  have LX10 : Cel w10 (((w7.heap.size))) X := ((LX9.alloc _)).later hb10
  have LOR10 : Cel w10 ((((w6.heap.size)))) OR := ((LOR9.alloc _)).later hb10
  have LAN10 : Cel w10 (((((w5.heap.size))))) AN := ((LAN9.alloc _)).later hb10
  have La10 : Cel w10 ((((((w4.heap.size)))))) a := ((La9.alloc _)).later hb10
  have Lb10 : Cel w10 ((((((w4.heap.size + 1)))))) b := ((Lb9.alloc _)).later hb10
  have Lc10 : Cel w10 ((((((w4.heap.size + 1 + 1)))))) c := ((Lc9.alloc _)).later hb10
  have B10 : Below w.heap.size w w10 := bthen (bmore B9 _) hb10
  clear hb10 ckY9 cnY9 ctY9 clY9 ckX9 cnX9 ctX9 clX9 ckOR9 cnOR9 ctOR9 clOR9 ckAN9 cnAN9 ctAN9 clAN9 cka9 cna9 cta9 cla9 ckb9 cnb9 ctb9 clb9 ckc9 cnc9 ctc9 clc9 LY9 LX9 LOR9 LAN9 La9 Lb9 Lc9 B9
  obtain ⟨ckNO10, cnNO10, ctNO10, clNO10⟩ := id LNO10
  obtain ⟨ckY10, cnY10, ctY10, clY10⟩ := id LY10
  obtain ⟨ckX10, cnX10, ctX10, clX10⟩ := id LX10
  obtain ⟨ckOR10, cnOR10, ctOR10, clOR10⟩ := id LOR10
  obtain ⟨ckAN10, cnAN10, ctAN10, clAN10⟩ := id LAN10
  obtain ⟨cka10, cna10, cta10, cla10⟩ := id La10
  obtain ⟨ckb10, cnb10, ctb10, clb10⟩ := id Lb10
  obtain ⟨ckc10, cnc10, ctc10, clc10⟩ := id Lc10
  go_wp2_with (fail)
  refine (J2.out _).mono ?_
  rintro e w11 ⟨rfl, hb11⟩
  have LOR11 : Cel w11 (((((w6.heap.size))))) OR := (LOR10).later hb11
  have LAN11 : Cel w11 ((((((w5.heap.size)))))) AN := (LAN10).later hb11
  have La11 : Cel w11 (((((((w4.heap.size))))))) a := (La10).later hb11
  have Lb11 : Cel w11 (((((((w4.heap.size + 1))))))) b := (Lb10).later hb11
  have Lc11 : Cel w11 (((((((w4.heap.size + 1 + 1))))))) c := (Lc10).later hb11
  have B11 : Below w.heap.size w w11 := bthen B10 hb11
  clear hb11 ckNO10 cnNO10 ctNO10 clNO10 ckY10 cnY10 ctY10 clY10 ckX10 cnX10 ctX10 clX10 ckOR10 cnOR10 ctOR10 clOR10 ckAN10 cnAN10 ctAN10 clAN10 cka10 cna10 cta10 cla10 ckb10 cnb10 ctb10 clb10 ckc10 cnc10 ctc10 clc10 LNO10 LY10 LX10 LOR10 LAN10 La10 Lb10 Lc10 B10
  obtain ⟨ckOR11, cnOR11, ctOR11, clOR11⟩ := id LOR11
  obtain ⟨ckAN11, cnAN11, ctAN11, clAN11⟩ := id LAN11
  obtain ⟨cka11, cna11, cta11, cla11⟩ := id La11
  obtain ⟨ckb11, cnb11, ctb11, clb11⟩ := id Lb11
  obtain ⟨ckc11, cnc11, ctc11, clc11⟩ := id Lc11
  go_wp2_with (fail)
  refine (J3.out _).mono ?_
  rintro e w12 ⟨rfl, hb12⟩
  have LOR12 : Cel w12 ((((((w6.heap.size)))))) OR := (LOR11).later hb12
  have LAN12 : Cel w12 (((((((w5.heap.size))))))) AN := (LAN11).later hb12
  have La12 : Cel w12 ((((((((w4.heap.size)))))))) a := (La11).later hb12
  have Lb12 : Cel w12 ((((((((w4.heap.size + 1)))))))) b := (Lb11).later hb12
  have Lc12 : Cel w12 ((((((((w4.heap.size + 1 + 1)))))))) c := (Lc11).later hb12
  have B12 : Below w.heap.size w w12 := bthen B11 hb12
  clear hb12 ckOR11 cnOR11 ctOR11 clOR11 ckAN11 cnAN11 ctAN11 clAN11 cka11 cna11 cta11 cla11 ckb11 cnb11 ctb11 clb11 ckc11 cnc11 ctc11 clc11 LOR11 LAN11 La11 Lb11 Lc11 B11
  obtain ⟨ckOR12, cnOR12, ctOR12, clOR12⟩ := id LOR12
  obtain ⟨ckAN12, cnAN12, ctAN12, clAN12⟩ := id LAN12
  obtain ⟨cka12, cna12, cta12, cla12⟩ := id La12
  obtain ⟨ckb12, cnb12, ctb12, clb12⟩ := id Lb12
  obtain ⟨ckc12, cnc12, ctc12, clc12⟩ := id Lc12
  go_wp2_with (fail)
  refine (P6.out _ _ (two_in _ b c wb wc (by simp))).mono ?_
  rintro e w13 ⟨rfl, hb13⟩
  have LOR13 : Cel w13 (((((((w6.heap.size))))))) OR := ((LOR12.alloc _)).later hb13
  have LAN13 : Cel w13 ((((((((w5.heap.size)))))))) AN := ((LAN12.alloc _)).later hb13
  have La13 : Cel w13 (((((((((w4.heap.size))))))))) a := ((La12.alloc _)).later hb13
  have Lb13 : Cel w13 (((((((((w4.heap.size + 1))))))))) b := ((Lb12.alloc _)).later hb13
  have Lc13 : Cel w13 (((((((((w4.heap.size + 1 + 1))))))))) c := ((Lc12.alloc _)).later hb13
  have B13 : Below w.heap.size w w13 := bthen (bmore B12 _) hb13
  clear hb13 ckOR12 cnOR12 ctOR12 clOR12 ckAN12 cnAN12 ctAN12 clAN12 cka12 cna12 cta12 cla12 ckb12 cnb12 ctb12 clb12 ckc12 cnc12 ctc12 clc12 LOR12 LAN12 La12 Lb12 Lc12 B12
  obtain ⟨ckOR13, cnOR13, ctOR13, clOR13⟩ := id LOR13
  obtain ⟨ckAN13, cnAN13, ctAN13, clAN13⟩ := id LAN13
  obtain ⟨cka13, cna13, cta13, cla13⟩ := id La13
  obtain ⟨ckb13, cnb13, ctb13, clb13⟩ := id Lb13
  obtain ⟨ckc13, cnc13, ctc13, clc13⟩ := id Lc13
  go_wp2_with (fail)
  refine (P7.out _ _ (two_in _ AN c wAN wc (by simp))).mono ?_
  rintro e w14 ⟨rfl, hb14⟩
  have LBC14 : Cel w14 (w13.heap.size) BC := (((Cel.new (B := w13.heap.size) (v := BC) (by simp)).alloc _)).later hb14
  have LOR14 : Cel w14 ((((((((w6.heap.size)))))))) OR := (((LOR13.alloc _).alloc _)).later hb14
  have LAN14 : Cel w14 (((((((((w5.heap.size))))))))) AN := (((LAN13.alloc _).alloc _)).later hb14
  have La14 : Cel w14 ((((((((((w4.heap.size)))))))))) a := (((La13.alloc _).alloc _)).later hb14
  have Lb14 : Cel w14 ((((((((((w4.heap.size + 1)))))))))) b := (((Lb13.alloc _).alloc _)).later hb14
  have Lc14 : Cel w14 ((((((((((w4.heap.size + 1 + 1)))))))))) c := (((Lc13.alloc _).alloc _)).later hb14
  have B14 : Below w.heap.size w w14 := bthen (bmore (bmore B13 _) _) hb14
  clear hb14 ckOR13 cnOR13 ctOR13 clOR13 ckAN13 cnAN13 ctAN13 clAN13 cka13 cna13 cta13 cla13 ckb13 cnb13 ctb13 clb13 ckc13 cnc13 ctc13 clc13 LOR13 LAN13 La13 Lb13 Lc13 B13
  obtain ⟨ckBC14, cnBC14, ctBC14, clBC14⟩ := id LBC14
  obtain ⟨ckOR14, cnOR14, ctOR14, clOR14⟩ := id LOR14
  obtain ⟨ckAN14, cnAN14, ctAN14, clAN14⟩ := id LAN14
  obtain ⟨cka14, cna14, cta14, cla14⟩ := id La14
  obtain ⟨ckb14, cnb14, ctb14, clb14⟩ := id Lb14
  obtain ⟨ckc14, cnc14, ctc14, clc14⟩ := id Lc14
  go_wp2_with (fail)
  refine (J4.out _).mono ?_
  rintro e w15 ⟨rfl, hb15⟩
  have LOR15 : Cel w15 (((((((((w6.heap.size))))))))) OR := ((LOR14.alloc _)).later hb15
  have LAN15 : Cel w15 ((((((((((w5.heap.size)))))))))) AN := ((LAN14.alloc _)).later hb15
  have La15 : Cel w15 (((((((((((w4.heap.size))))))))))) a := ((La14.alloc _)).later hb15
  have Lb15 : Cel w15 (((((((((((w4.heap.size + 1))))))))))) b := ((Lb14.alloc _)).later hb15
  have B15 : Below w.heap.size w w15 := bthen (bmore B14 _) hb15
  clear hb15 ckBC14 cnBC14 ctBC14 clBC14 ckOR14 cnOR14 ctOR14 clOR14 ckAN14 cnAN14 ctAN14 clAN14 cka14 cna14 cta14 cla14 ckb14 cnb14 ctb14 clb14 ckc14 cnc14 ctc14 clc14 LBC14 LOR14 LAN14 La14 Lb14 Lc14 B14
  obtain ⟨ckOR15, cnOR15, ctOR15, clOR15⟩ := id LOR15
  obtain ⟨ckAN15, cnAN15, ctAN15, clAN15⟩ := id LAN15
  obtain ⟨cka15, cna15, cta15, cla15⟩ := id La15
  obtain ⟨ckb15, cnb15, ctb15, clb15⟩ := id Lb15
  go_wp2
  have ways : ∀ n : Nat, n = 1 ∨ n = 2 → ∃ K : Val, K.wf ∧ ((b.k == 0) = true ∧ triV n = K ∨ (b.k == 0) = false ∧ K = b) ∧ ((AN.k != 0) = false ∨ (AN.k != 0) = true ∧ isB 15 a K AN = true) ∧ ((OR.k != 0) = false ∨ (OR.k != 0) = true ∧ isB 16 a K OR = true) := by
    rintro n (rfl | rfl)
    · refine ⟨K1, wK1, ?_, ?_, ?_⟩
      · rcases HZ.out with ⟨z1, z2, _⟩ | ⟨z1, z2, _⟩
        · exact .inl ⟨z1, z2⟩
        · exact .inr ⟨z1, z2⟩
      · rcases HA.out with z | ⟨z1, z2, _⟩
        · exact .inl z
        · exact .inr ⟨z1, z2⟩
      · rcases HO.out with z | ⟨z1, z2, _⟩
        · exact .inl z
        · exact .inr ⟨z1, z2⟩
    · refine ⟨K2, wK2, ?_, ?_, ?_⟩
      · rcases HZ.out with ⟨z1, _, z2⟩ | ⟨z1, _, z2⟩
        · exact .inl ⟨z1, z2⟩
        · exact .inr ⟨z1, z2⟩
      · rcases HA.out with z | ⟨z1, _, z2⟩
        · exact .inl z
        · exact .inr ⟨z1, z2⟩
      · rcases HO.out with z | ⟨z1, _, z2⟩
        · exact .inl z
        · exact .inr ⟨z1, z2⟩
  have WAYS := hide ways
  clear ways HZ HA HO P1 P2 P3 P4 P5 P6 P7 J1 J2 J3 J4 LV TA TB TC
  go_loopw [24, 25] (fun t _ wr => ∃ n : Nat, 1 ≤ n ∧ n ≤ 3 ∧ t = .int .i64 n ∧ Below w.heap.size w wr ∧ Cel wr (w4.heap.size) a ∧ Cel wr (w4.heap.size + 1) b ∧ Cel wr (w5.heap.size) AN ∧ Cel wr (w6.heap.size) OR) (fun t _ _ => 3 - (intOf t).toNat)
  case atStart => exact ⟨1, by omega, by omega, rfl, B15, La15, Lb15, LAN15, LOR15⟩
  case round =>
    clear B15 La15 Lb15 LAN15 LOR15 ckOR15 cnOR15 ctOR15 clOR15 ckAN15 cnAN15 ctAN15 clAN15 cka15 cna15 cta15 cla15 ckb15 cnb15 ctb15 clb15
    obtain ⟨n, hn1, hn2, rfl, Br, La, Lb, LAN, LOR⟩ := hrel
    obtain ⟨cka, cna, cta, cla⟩ := id La
    obtain ⟨ckb, cnb, ctb, clb⟩ := id Lb
    obtain ⟨ckAN, cnAN, ctAN, clAN⟩ := id LAN
    obtain ⟨ckOR, cnOR, ctOR, clOR⟩ := id LOR
    by_cases hlt : n ≤ 2
    · obtain ⟨K, wK, HB, HA, HO⟩ := WAYS.out n (by omega)
      have hle : (n : Int) ≤ 2 := by omega
      have TH := hide (fun wx => three_any wx n)
      rcases HA with hA | ⟨hA, iA⟩
      · rcases HO with hO | ⟨hO, iO⟩
        · rcases HB with ⟨hz, e⟩ | ⟨hz, rfl⟩
          · rw [e] at TH
            clear e
            go_wp2_with (fail)
            refine (TH.out _).mono ?_
            rintro e w2 ⟨rfl, hb2⟩
            obtain ⟨q0, q1, q2, r0, r1, r2, r3⟩ := three_slot (B := wr.heap.size) rfl hb2
            have La2 := ((La.alloc _).later hb2)
            obtain ⟨dka, dna, dta, dla⟩ := id La2
            have Lb2 := ((Lb.alloc _).later hb2)
            obtain ⟨dkb, dnb, dtb, dlb⟩ := id Lb2
            have LAN2 := ((LAN.alloc _).later hb2)
            obtain ⟨dkAN, dnAN, dtAN, dlAN⟩ := id LAN2
            have LOR2 := ((LOR.alloc _).later hb2)
            obtain ⟨dkOR, dnOR, dtOR, dlOR⟩ := id LOR2
            have B2 := bthen (bmore Br _) hb2
            have BS := below_cells (p := .int .u8 K.k) (q := .int .i64 K.n) (r := .string K.t) B2 Br.size
            have Ma : Cel (((w2.setCell ⟨wr.heap.size, 0, none⟩ (.int .u8 K.k)).setCell ⟨wr.heap.size, 1, none⟩ (.int .i64 K.n)).setCell ⟨wr.heap.size, 2, none⟩ (.string K.t)) (w4.heap.size) a := La2.set3 cla
            have Mb : Cel (((w2.setCell ⟨wr.heap.size, 0, none⟩ (.int .u8 K.k)).setCell ⟨wr.heap.size, 1, none⟩ (.int .i64 K.n)).setCell ⟨wr.heap.size, 2, none⟩ (.string K.t)) (w4.heap.size + 1) b := Lb2.set3 clb
            have MAN : Cel (((w2.setCell ⟨wr.heap.size, 0, none⟩ (.int .u8 K.k)).setCell ⟨wr.heap.size, 1, none⟩ (.int .i64 K.n)).setCell ⟨wr.heap.size, 2, none⟩ (.string K.t)) (w5.heap.size) AN := LAN2.set3 clAN
            have MOR : Cel (((w2.setCell ⟨wr.heap.size, 0, none⟩ (.int .u8 K.k)).setCell ⟨wr.heap.size, 1, none⟩ (.int .i64 K.n)).setCell ⟨wr.heap.size, 2, none⟩ (.string K.t)) (w6.heap.size) OR := LOR2.set3 clOR
            have MK : Cel (((w2.setCell ⟨wr.heap.size, 0, none⟩ (.int .u8 K.k)).setCell ⟨wr.heap.size, 1, none⟩ (.int .i64 K.n)).setCell ⟨wr.heap.size, 2, none⟩ (.string K.t)) wr.heap.size K := Cel.wrote q0 q1 q2 r3
            clear hb2 B2
            go_wp2_with (fail)
            exact ⟨⟨n + 1, by omega, by omega, by go_num, BS, Ma, Mb, MAN, MOR⟩, by simp [intOf]; omega⟩
          · clear TH
            have Ma : Cel (wr.alloc (.cells #[.int .u8 K.k, .int .i64 K.n, .string K.t] 25)) (w4.heap.size) a := La.alloc _
            have Mb : Cel (wr.alloc (.cells #[.int .u8 K.k, .int .i64 K.n, .string K.t] 25)) (w4.heap.size + 1) K := Lb.alloc _
            have MAN : Cel (wr.alloc (.cells #[.int .u8 K.k, .int .i64 K.n, .string K.t] 25)) (w5.heap.size) AN := LAN.alloc _
            have MOR : Cel (wr.alloc (.cells #[.int .u8 K.k, .int .i64 K.n, .string K.t] 25)) (w6.heap.size) OR := LOR.alloc _
            have BS : Below w.heap.size w (wr.alloc (.cells #[.int .u8 K.k, .int .i64 K.n, .string K.t] 25)) := bmore Br _
            have MK : Cel (wr.alloc (.cells #[.int .u8 K.k, .int .i64 K.n, .string K.t] 25)) wr.heap.size K := Cel.new rfl
            go_wp2_with (fail)
            exact ⟨⟨n + 1, by omega, by omega, by go_num, BS, Ma, Mb, MAN, MOR⟩, by simp [intOf]; omega⟩
        · rcases HB with ⟨hz, e⟩ | ⟨hz, rfl⟩
          · rw [e] at TH
            clear e
            go_wp2_with (fail)
            refine (TH.out _).mono ?_
            rintro e w2 ⟨rfl, hb2⟩
            obtain ⟨q0, q1, q2, r0, r1, r2, r3⟩ := three_slot (B := wr.heap.size) rfl hb2
            have La2 := ((La.alloc _).later hb2)
            obtain ⟨dka, dna, dta, dla⟩ := id La2
            have Lb2 := ((Lb.alloc _).later hb2)
            obtain ⟨dkb, dnb, dtb, dlb⟩ := id Lb2
            have LAN2 := ((LAN.alloc _).later hb2)
            obtain ⟨dkAN, dnAN, dtAN, dlAN⟩ := id LAN2
            have LOR2 := ((LOR.alloc _).later hb2)
            obtain ⟨dkOR, dnOR, dtOR, dlOR⟩ := id LOR2
            have B2 := bthen (bmore Br _) hb2
            have BS := below_cells (p := .int .u8 K.k) (q := .int .i64 K.n) (r := .string K.t) B2 Br.size
            have Ma : Cel (((w2.setCell ⟨wr.heap.size, 0, none⟩ (.int .u8 K.k)).setCell ⟨wr.heap.size, 1, none⟩ (.int .i64 K.n)).setCell ⟨wr.heap.size, 2, none⟩ (.string K.t)) (w4.heap.size) a := La2.set3 cla
            have Mb : Cel (((w2.setCell ⟨wr.heap.size, 0, none⟩ (.int .u8 K.k)).setCell ⟨wr.heap.size, 1, none⟩ (.int .i64 K.n)).setCell ⟨wr.heap.size, 2, none⟩ (.string K.t)) (w4.heap.size + 1) b := Lb2.set3 clb
            have MAN : Cel (((w2.setCell ⟨wr.heap.size, 0, none⟩ (.int .u8 K.k)).setCell ⟨wr.heap.size, 1, none⟩ (.int .i64 K.n)).setCell ⟨wr.heap.size, 2, none⟩ (.string K.t)) (w5.heap.size) AN := LAN2.set3 clAN
            have MOR : Cel (((w2.setCell ⟨wr.heap.size, 0, none⟩ (.int .u8 K.k)).setCell ⟨wr.heap.size, 1, none⟩ (.int .i64 K.n)).setCell ⟨wr.heap.size, 2, none⟩ (.string K.t)) (w6.heap.size) OR := LOR2.set3 clOR
            have MK : Cel (((w2.setCell ⟨wr.heap.size, 0, none⟩ (.int .u8 K.k)).setCell ⟨wr.heap.size, 1, none⟩ (.int .i64 K.n)).setCell ⟨wr.heap.size, 2, none⟩ (.string K.t)) wr.heap.size K := Cel.wrote q0 q1 q2 r3
            clear hb2 B2
            go_wp2_with (fail)
            refine (is_is iO wa wK _).mono ?_
            rintro e w5x ⟨rfl, hbw5x⟩
            have Pa := Ma.later hbw5x
            have Pb := Mb.later hbw5x
            have PAN := MAN.later hbw5x
            have POR := MOR.later hbw5x
            have PK := MK.later hbw5x
            have PS := bthen BS hbw5x
            clear hbw5x
            obtain ⟨pka, pna, pta, pla⟩ := id Pa
            obtain ⟨pkb, pnb, ptb, plb⟩ := id Pb
            obtain ⟨pkAN, pnAN, ptAN, plAN⟩ := id PAN
            obtain ⟨pkOR, pnOR, ptOR, plOR⟩ := id POR
            obtain ⟨pkK, pnK, ptK, plK⟩ := id PK
            go_wp2_with (fail)
            exact ⟨⟨n + 1, by omega, by omega, by go_num, PS, Pa, Pb, PAN, POR⟩, by simp [intOf]; omega⟩
          · clear TH
            have Ma : Cel (wr.alloc (.cells #[.int .u8 K.k, .int .i64 K.n, .string K.t] 25)) (w4.heap.size) a := La.alloc _
            have Mb : Cel (wr.alloc (.cells #[.int .u8 K.k, .int .i64 K.n, .string K.t] 25)) (w4.heap.size + 1) K := Lb.alloc _
            have MAN : Cel (wr.alloc (.cells #[.int .u8 K.k, .int .i64 K.n, .string K.t] 25)) (w5.heap.size) AN := LAN.alloc _
            have MOR : Cel (wr.alloc (.cells #[.int .u8 K.k, .int .i64 K.n, .string K.t] 25)) (w6.heap.size) OR := LOR.alloc _
            have BS : Below w.heap.size w (wr.alloc (.cells #[.int .u8 K.k, .int .i64 K.n, .string K.t] 25)) := bmore Br _
            have MK : Cel (wr.alloc (.cells #[.int .u8 K.k, .int .i64 K.n, .string K.t] 25)) wr.heap.size K := Cel.new rfl
            go_wp2_with (fail)
            refine (is_is iO wa wK _).mono ?_
            rintro e w5x ⟨rfl, hbw5x⟩
            have Pa := Ma.later hbw5x
            have Pb := Mb.later hbw5x
            have PAN := MAN.later hbw5x
            have POR := MOR.later hbw5x
            have PK := MK.later hbw5x
            have PS := bthen BS hbw5x
            clear hbw5x
            obtain ⟨pka, pna, pta, pla⟩ := id Pa
            obtain ⟨pkb, pnb, ptb, plb⟩ := id Pb
            obtain ⟨pkAN, pnAN, ptAN, plAN⟩ := id PAN
            obtain ⟨pkOR, pnOR, ptOR, plOR⟩ := id POR
            obtain ⟨pkK, pnK, ptK, plK⟩ := id PK
            go_wp2_with (fail)
            exact ⟨⟨n + 1, by omega, by omega, by go_num, PS, Pa, Pb, PAN, POR⟩, by simp [intOf]; omega⟩
      · rcases HO with hO | ⟨hO, iO⟩
        · rcases HB with ⟨hz, e⟩ | ⟨hz, rfl⟩
          · rw [e] at TH
            clear e
            go_wp2_with (fail)
            refine (TH.out _).mono ?_
            rintro e w2 ⟨rfl, hb2⟩
            obtain ⟨q0, q1, q2, r0, r1, r2, r3⟩ := three_slot (B := wr.heap.size) rfl hb2
            have La2 := ((La.alloc _).later hb2)
            obtain ⟨dka, dna, dta, dla⟩ := id La2
            have Lb2 := ((Lb.alloc _).later hb2)
            obtain ⟨dkb, dnb, dtb, dlb⟩ := id Lb2
            have LAN2 := ((LAN.alloc _).later hb2)
            obtain ⟨dkAN, dnAN, dtAN, dlAN⟩ := id LAN2
            have LOR2 := ((LOR.alloc _).later hb2)
            obtain ⟨dkOR, dnOR, dtOR, dlOR⟩ := id LOR2
            have B2 := bthen (bmore Br _) hb2
            have BS := below_cells (p := .int .u8 K.k) (q := .int .i64 K.n) (r := .string K.t) B2 Br.size
            have Ma : Cel (((w2.setCell ⟨wr.heap.size, 0, none⟩ (.int .u8 K.k)).setCell ⟨wr.heap.size, 1, none⟩ (.int .i64 K.n)).setCell ⟨wr.heap.size, 2, none⟩ (.string K.t)) (w4.heap.size) a := La2.set3 cla
            have Mb : Cel (((w2.setCell ⟨wr.heap.size, 0, none⟩ (.int .u8 K.k)).setCell ⟨wr.heap.size, 1, none⟩ (.int .i64 K.n)).setCell ⟨wr.heap.size, 2, none⟩ (.string K.t)) (w4.heap.size + 1) b := Lb2.set3 clb
            have MAN : Cel (((w2.setCell ⟨wr.heap.size, 0, none⟩ (.int .u8 K.k)).setCell ⟨wr.heap.size, 1, none⟩ (.int .i64 K.n)).setCell ⟨wr.heap.size, 2, none⟩ (.string K.t)) (w5.heap.size) AN := LAN2.set3 clAN
            have MOR : Cel (((w2.setCell ⟨wr.heap.size, 0, none⟩ (.int .u8 K.k)).setCell ⟨wr.heap.size, 1, none⟩ (.int .i64 K.n)).setCell ⟨wr.heap.size, 2, none⟩ (.string K.t)) (w6.heap.size) OR := LOR2.set3 clOR
            have MK : Cel (((w2.setCell ⟨wr.heap.size, 0, none⟩ (.int .u8 K.k)).setCell ⟨wr.heap.size, 1, none⟩ (.int .i64 K.n)).setCell ⟨wr.heap.size, 2, none⟩ (.string K.t)) wr.heap.size K := Cel.wrote q0 q1 q2 r3
            clear hb2 B2
            go_wp2_with (fail)
            refine (is_is iA wa wK _).mono ?_
            rintro e w3 ⟨rfl, hbw3⟩
            have Na := Ma.later hbw3
            have Nb := Mb.later hbw3
            have NAN := MAN.later hbw3
            have NOR := MOR.later hbw3
            have NK := MK.later hbw3
            have NS := bthen BS hbw3
            clear hbw3
            obtain ⟨nka, nna, nta, nla⟩ := id Na
            obtain ⟨nkb, nnb, ntb, nlb⟩ := id Nb
            obtain ⟨nkAN, nnAN, ntAN, nlAN⟩ := id NAN
            obtain ⟨nkOR, nnOR, ntOR, nlOR⟩ := id NOR
            obtain ⟨nkK, nnK, ntK, nlK⟩ := id NK
            go_wp2_with (fail)
            exact ⟨⟨n + 1, by omega, by omega, by go_num, NS, Na, Nb, NAN, NOR⟩, by simp [intOf]; omega⟩
          · clear TH
            have Ma : Cel (wr.alloc (.cells #[.int .u8 K.k, .int .i64 K.n, .string K.t] 25)) (w4.heap.size) a := La.alloc _
            have Mb : Cel (wr.alloc (.cells #[.int .u8 K.k, .int .i64 K.n, .string K.t] 25)) (w4.heap.size + 1) K := Lb.alloc _
            have MAN : Cel (wr.alloc (.cells #[.int .u8 K.k, .int .i64 K.n, .string K.t] 25)) (w5.heap.size) AN := LAN.alloc _
            have MOR : Cel (wr.alloc (.cells #[.int .u8 K.k, .int .i64 K.n, .string K.t] 25)) (w6.heap.size) OR := LOR.alloc _
            have BS : Below w.heap.size w (wr.alloc (.cells #[.int .u8 K.k, .int .i64 K.n, .string K.t] 25)) := bmore Br _
            have MK : Cel (wr.alloc (.cells #[.int .u8 K.k, .int .i64 K.n, .string K.t] 25)) wr.heap.size K := Cel.new rfl
            go_wp2_with (fail)
            refine (is_is iA wa wK _).mono ?_
            rintro e w3 ⟨rfl, hbw3⟩
            have Na := Ma.later hbw3
            have Nb := Mb.later hbw3
            have NAN := MAN.later hbw3
            have NOR := MOR.later hbw3
            have NK := MK.later hbw3
            have NS := bthen BS hbw3
            clear hbw3
            obtain ⟨nka, nna, nta, nla⟩ := id Na
            obtain ⟨nkb, nnb, ntb, nlb⟩ := id Nb
            obtain ⟨nkAN, nnAN, ntAN, nlAN⟩ := id NAN
            obtain ⟨nkOR, nnOR, ntOR, nlOR⟩ := id NOR
            obtain ⟨nkK, nnK, ntK, nlK⟩ := id NK
            go_wp2_with (fail)
            exact ⟨⟨n + 1, by omega, by omega, by go_num, NS, Na, Nb, NAN, NOR⟩, by simp [intOf]; omega⟩
        · rcases HB with ⟨hz, e⟩ | ⟨hz, rfl⟩
          · rw [e] at TH
            clear e
            go_wp2_with (fail)
            refine (TH.out _).mono ?_
            rintro e w2 ⟨rfl, hb2⟩
            obtain ⟨q0, q1, q2, r0, r1, r2, r3⟩ := three_slot (B := wr.heap.size) rfl hb2
            have La2 := ((La.alloc _).later hb2)
            obtain ⟨dka, dna, dta, dla⟩ := id La2
            have Lb2 := ((Lb.alloc _).later hb2)
            obtain ⟨dkb, dnb, dtb, dlb⟩ := id Lb2
            have LAN2 := ((LAN.alloc _).later hb2)
            obtain ⟨dkAN, dnAN, dtAN, dlAN⟩ := id LAN2
            have LOR2 := ((LOR.alloc _).later hb2)
            obtain ⟨dkOR, dnOR, dtOR, dlOR⟩ := id LOR2
            have B2 := bthen (bmore Br _) hb2
            have BS := below_cells (p := .int .u8 K.k) (q := .int .i64 K.n) (r := .string K.t) B2 Br.size
            have Ma : Cel (((w2.setCell ⟨wr.heap.size, 0, none⟩ (.int .u8 K.k)).setCell ⟨wr.heap.size, 1, none⟩ (.int .i64 K.n)).setCell ⟨wr.heap.size, 2, none⟩ (.string K.t)) (w4.heap.size) a := La2.set3 cla
            have Mb : Cel (((w2.setCell ⟨wr.heap.size, 0, none⟩ (.int .u8 K.k)).setCell ⟨wr.heap.size, 1, none⟩ (.int .i64 K.n)).setCell ⟨wr.heap.size, 2, none⟩ (.string K.t)) (w4.heap.size + 1) b := Lb2.set3 clb
            have MAN : Cel (((w2.setCell ⟨wr.heap.size, 0, none⟩ (.int .u8 K.k)).setCell ⟨wr.heap.size, 1, none⟩ (.int .i64 K.n)).setCell ⟨wr.heap.size, 2, none⟩ (.string K.t)) (w5.heap.size) AN := LAN2.set3 clAN
            have MOR : Cel (((w2.setCell ⟨wr.heap.size, 0, none⟩ (.int .u8 K.k)).setCell ⟨wr.heap.size, 1, none⟩ (.int .i64 K.n)).setCell ⟨wr.heap.size, 2, none⟩ (.string K.t)) (w6.heap.size) OR := LOR2.set3 clOR
            have MK : Cel (((w2.setCell ⟨wr.heap.size, 0, none⟩ (.int .u8 K.k)).setCell ⟨wr.heap.size, 1, none⟩ (.int .i64 K.n)).setCell ⟨wr.heap.size, 2, none⟩ (.string K.t)) wr.heap.size K := Cel.wrote q0 q1 q2 r3
            clear hb2 B2
            go_wp2_with (fail)
            refine (is_is iA wa wK _).mono ?_
            rintro e w3 ⟨rfl, hbw3⟩
            have Na := Ma.later hbw3
            have Nb := Mb.later hbw3
            have NAN := MAN.later hbw3
            have NOR := MOR.later hbw3
            have NK := MK.later hbw3
            have NS := bthen BS hbw3
            clear hbw3
            obtain ⟨nka, nna, nta, nla⟩ := id Na
            obtain ⟨nkb, nnb, ntb, nlb⟩ := id Nb
            obtain ⟨nkAN, nnAN, ntAN, nlAN⟩ := id NAN
            obtain ⟨nkOR, nnOR, ntOR, nlOR⟩ := id NOR
            obtain ⟨nkK, nnK, ntK, nlK⟩ := id NK
            go_wp2_with (fail)
            refine (is_is iO wa wK _).mono ?_
            rintro e w5x ⟨rfl, hbw5x⟩
            have Pa := Na.later hbw5x
            have Pb := Nb.later hbw5x
            have PAN := NAN.later hbw5x
            have POR := NOR.later hbw5x
            have PK := NK.later hbw5x
            have PS := bthen NS hbw5x
            clear hbw5x
            obtain ⟨pka, pna, pta, pla⟩ := id Pa
            obtain ⟨pkb, pnb, ptb, plb⟩ := id Pb
            obtain ⟨pkAN, pnAN, ptAN, plAN⟩ := id PAN
            obtain ⟨pkOR, pnOR, ptOR, plOR⟩ := id POR
            obtain ⟨pkK, pnK, ptK, plK⟩ := id PK
            go_wp2_with (fail)
            exact ⟨⟨n + 1, by omega, by omega, by go_num, PS, Pa, Pb, PAN, POR⟩, by simp [intOf]; omega⟩
          · clear TH
            have Ma : Cel (wr.alloc (.cells #[.int .u8 K.k, .int .i64 K.n, .string K.t] 25)) (w4.heap.size) a := La.alloc _
            have Mb : Cel (wr.alloc (.cells #[.int .u8 K.k, .int .i64 K.n, .string K.t] 25)) (w4.heap.size + 1) K := Lb.alloc _
            have MAN : Cel (wr.alloc (.cells #[.int .u8 K.k, .int .i64 K.n, .string K.t] 25)) (w5.heap.size) AN := LAN.alloc _
            have MOR : Cel (wr.alloc (.cells #[.int .u8 K.k, .int .i64 K.n, .string K.t] 25)) (w6.heap.size) OR := LOR.alloc _
            have BS : Below w.heap.size w (wr.alloc (.cells #[.int .u8 K.k, .int .i64 K.n, .string K.t] 25)) := bmore Br _
            have MK : Cel (wr.alloc (.cells #[.int .u8 K.k, .int .i64 K.n, .string K.t] 25)) wr.heap.size K := Cel.new rfl
            go_wp2_with (fail)
            refine (is_is iA wa wK _).mono ?_
            rintro e w3 ⟨rfl, hbw3⟩
            have Na := Ma.later hbw3
            have Nb := Mb.later hbw3
            have NAN := MAN.later hbw3
            have NOR := MOR.later hbw3
            have NK := MK.later hbw3
            have NS := bthen BS hbw3
            clear hbw3
            obtain ⟨nka, nna, nta, nla⟩ := id Na
            obtain ⟨nkb, nnb, ntb, nlb⟩ := id Nb
            obtain ⟨nkAN, nnAN, ntAN, nlAN⟩ := id NAN
            obtain ⟨nkOR, nnOR, ntOR, nlOR⟩ := id NOR
            obtain ⟨nkK, nnK, ntK, nlK⟩ := id NK
            go_wp2_with (fail)
            refine (is_is iO wa wK _).mono ?_
            rintro e w5x ⟨rfl, hbw5x⟩
            have Pa := Na.later hbw5x
            have Pb := Nb.later hbw5x
            have PAN := NAN.later hbw5x
            have POR := NOR.later hbw5x
            have PK := NK.later hbw5x
            have PS := bthen NS hbw5x
            clear hbw5x
            obtain ⟨pka, pna, pta, pla⟩ := id Pa
            obtain ⟨pkb, pnb, ptb, plb⟩ := id Pb
            obtain ⟨pkAN, pnAN, ptAN, plAN⟩ := id PAN
            obtain ⟨pkOR, pnOR, ptOR, plOR⟩ := id POR
            obtain ⟨pkK, pnK, ptK, plK⟩ := id PK
            go_wp2_with (fail)
            exact ⟨⟨n + 1, by omega, by omega, by go_num, PS, Pa, Pb, PAN, POR⟩, by simp [intOf]; omega⟩
    · have e3 : n = 3 := by omega
      subst e3
      go_wp2
      go_ret
      exact ⟨rfl, Br⟩

theorem logic_walk (w : World) (i j k : Int) : Calls Try.prog 5 #[.int .i64 i, .int .i64 j, .int .i64 k] w fun e w' => e = .returned (.bool true) ∧ Below w.heap.size w w' := by
  have ta := triV_tri i
  have tb := triV_tri j
  have tc := triV_tri k
  have h := logic_all _ _ _ ta tb tc
  unfold logicB at h
  simp only [Bool.and_eq_true, Bool.or_eq_true] at h
  obtain ⟨o1, o2, o3, o4, o5, o6, o7, i1, i2, i3, i4, hA, hO⟩ := h
  obtain ⟨e1, t1⟩ := ok1_eq o1
  obtain ⟨e2, t2⟩ := ok1_eq o2
  obtain ⟨e3, t3⟩ := ok1_eq o3
  obtain ⟨e4, t4⟩ := ok1_eq o4
  obtain ⟨e5, t5⟩ := ok1_eq o5
  obtain ⟨e6, t6⟩ := ok1_eq o6
  obtain ⟨e7, t7⟩ := ok1_eq o7
  refine logic_letters w i j k _ _ _ _ _ _ _ _ _ _ (knownV (triV j) 1) (knownV (triV j) 2) rfl rfl rfl ta.wf tb.wf tc.wf t1.wf t3.wf t4.wf t6.wf (knownV_tri tb 1).wf (knownV_tri tb 2).wf e1 e2 e3 e4 e5 e6 e7 i1 i2 i3 i4 ?_ ?_ ?_
  · by_cases z : (triV j).k = 0
    · exact .inl ⟨by simpa using z, by unfold knownV; rw [if_pos z], by unfold knownV; rw [if_pos z]⟩
    · exact .inr ⟨by simpa using z, by unfold knownV; rw [if_neg z], by unfold knownV; rw [if_neg z]⟩
  · rcases hA with z | ⟨z1, z2⟩
    · exact .inl (by simpa using z)
    · cases q : ((d1 15 [triV i, triV j]).k != 0)
      · exact .inl rfl
      · exact .inr ⟨rfl, z1, z2⟩
  · rcases hO with z | ⟨z1, z2⟩
    · exact .inl (by simpa using z)
    · cases q : ((d1 16 [triV i, triV j]).k != 0)
      · exact .inl rfl
      · exact .inr ⟨rfl, z1, z2⟩
end Go.Proofs.Ytoaliblndieaiaa
