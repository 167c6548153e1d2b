/-
  Package parser: compare.
-/
import Derived.Test.YtedamaccflhmfaaGreatDoorXPd
namespace Go.Proofs.YtedamaccflhmfaaGreatDoor
open Go.RowKit
attribute [local go_sem ↓] Go.wp_at_zero Go.wp_at_succ

theorem ofTwo_at (w : World) (op o k n : Int) (t : ByteArray) (tb nm : List UInt8) (sl kd : Int) (ag : List Ps.Ex) (sa : Option Addr) (sc : Nat) (o2 k2 n2 : Int) (t2 : ByteArray) (tb2 nm2 : List UInt8) (sl2 kd2 : Int) (ag2 : List Ps.Ex) (sa2 : Option Addr) (sc2 : Nat) (P : Nat → Prop) (hl : ∀ k, w.heap.size ≤ k → P k) (hx : ExAt P w (Ps.Ex.mk o ⟨k, n, t⟩ tb nm sl kd ag) (.slice sa ag.length sc)) (hy : ExAt P w (Ps.Ex.mk o2 ⟨k2, n2, t2⟩ tb2 nm2 sl2 kd2 ag2) (.slice sa2 ag2.length sc2)) : Calls Tryz.prog 138 #[.int .u8 op, .agg #[.int .u8 o, .int .u8 k, .int .i64 n, .string t, .string ⟨tb.toArray⟩, .string ⟨nm.toArray⟩, .int .i64 sl, .int .u8 kd, .slice sa ag.length sc], .agg #[.int .u8 o2, .int .u8 k2, .int .i64 n2, .string t2, .string ⟨tb2.toArray⟩, .string ⟨nm2.toArray⟩, .int .i64 sl2, .int .u8 kd2, .slice sa2 ag2.length sc2]] w fun e w' => ∃ a c, e = .returned (.agg #[.int .u8 op, .int .u8 0, .int .i64 0, .string ⟨#[]⟩, .string ⟨#[]⟩, .string ⟨#[]⟩, .int .i64 0, .int .u8 0, .slice a 2 c]) ∧ ExAt P w' (Ps.two op (Ps.Ex.mk o ⟨k, n, t⟩ tb nm sl kd ag) (Ps.Ex.mk o2 ⟨k2, n2, t2⟩ tb2 nm2 sl2 kd2 ag2) ) (.slice a 2 c) ∧ Below w.heap.size w w' :=
  ofTwo_laid w op (Ps.Ex.mk o ⟨k, n, t⟩ tb nm sl kd ag) (Ps.Ex.mk o2 ⟨k2, n2, t2⟩ tb2 nm2 sl2 kd2 ag2) (.slice sa ag.length sc) (.slice sa2 ag2.length sc2) P hl hx hy

set_option maxHeartbeats 6400000 in
theorem compare_any {B : Nat} {l : List Lx.Tk} {len d : Nat} {sub : Ps.Lv → List Lx.Tk → Ps.R Ps.Ex} (hlow : Reads 186 B l len d (Ps.sum sub)) : Reads 172 B l len d (Ps.compare sub) := fun w p h => by
  have CL := hide (fun wx q hx => hlow wx q hx)
  have TK := hide (takes_any B l len d)
  have OP := hide (fun wx q hx => operation_any wx B l q len d hx 3 (by decide) _ rfl)
  have NL := hide (fun wx q hx => nullness_any wx B l q len d hx)
  have H0 := hide h
  have hne : w.heap.size ≠ B := ne_of_lt' h.lt
  have HB := hide h.lt
  have hll := h.ll
  have hpl := h.pl
  clear h
  go_enter Tryz.func172, Tryz.ntmps172
  go_wp2_with (first
    | (go_at_call 186; refine (CL.out _ _ (H0.out.alloc _)).mono ?_; rintro e w2 hA; rcases hA.laid with (⟨o1, k1, n1, t1, tb1, nm1, sl1, kd1, ag1, sa1, sc1, q1, hq, rfl, hx1, hp1, hr1, hs1⟩ | ⟨c1, ts1, hq, rfl, hs1⟩) <;> (have HQ := hide hq; clear hq hA); have HR2 := hide hr1; have HX := hide (fr_alloc hx1); have Z2 := hs1.keeps (heap_new rfl) hne; have hlt2 := size_alloc hs1; clear hr1 hx1)
    | (go_at_call 50; refine (TK.out _ _ _ (HR2.out.alloc _)).mono ?_; rintro e w3 (⟨h3, rfl, hr3, hs3⟩ | ⟨h3, rfl, hr3, hs3⟩) <;> (have HR3 := hide hr3; have HQ3 := hide h3; clear hr3 h3; have X3 := hs3.keeps (heap_new rfl) (ne_of_lt' HR2.out.lt); have Z3 := hs3.keeps (alloc_keeps Z2 _) hne; obtain ⟨⟨xa0, xa1, xa2, xa3, xa4, xa5, xa6, xa7, xa8⟩, ⟨xb0, xb1, xb2, xb3, xb4, xb5, xb6, xb7, xb8⟩, _⟩ := sl9 X3; obtain ⟨⟨za0, za1, za2, za3, za4, za5, za6, za7, za8⟩, ⟨zb0, zb1, zb2, zb3, zb4, zb5, zb6, zb7, zb8⟩, _⟩ := sl9 Z3))
    | (go_at_call 137; refine (OP.out _ _ HR3.out).mono ?_; intro e w4 hA; rcases hz : Ps.opAt 3 (l.drop q1) with _ | op <;> (rw [hz] at hA; obtain ⟨hs4, rfl, hr4⟩ := hA; have HZ := hide hz; have HR4 := hide hr4; clear hz hr4; have X4 := hs4.keeps X3 (ne_of_lt' HR2.out.lt); have Z4 := hs4.keeps Z3 hne; clear xa0 xa1 xa2 xa3 xa4 xa5 xa6 xa7 xa8 xb0 xb1 xb2 xb3 xb4 xb5 xb6 xb7 xb8; clear za0 za1 za2 za3 za4 za5 za6 za7 za8 zb0 zb1 zb2 zb3 zb4 zb5 zb6 zb7 zb8; obtain ⟨⟨xa0, xa1, xa2, xa3, xa4, xa5, xa6, xa7, xa8⟩, ⟨xb0, xb1, xb2, xb3, xb4, xb5, xb6, xb7, xb8⟩, _⟩ := sl9 X4; obtain ⟨⟨za0, za1, za2, za3, za4, za5, za6, za7, za8⟩, ⟨zb0, zb1, zb2, zb3, zb4, zb5, zb6, zb7, zb8⟩, _⟩ := sl9 Z4)))
  · -- IS
    have hneX : w2.heap.size ≠ B := ne_of_lt' HR2.out.lt
    have HST := hide (((step_alloc B w _).trans hs1).trans ((step_alloc B w2 _).trans hs3))
    have HX3 := hide (fr_keep HX.out ((step_alloc B w2 _).trans hs3) (Nat.lt_succ_of_lt HB.out))
    have HE : Hid (Ps.compare sub (l.drop p) = (Ps.nullness (l.drop (q1 + 1))).map fun op => Ps.one op (Ps.Ex.mk o1 ⟨k1, n1, t1⟩ tb1 nm1 sl1 kd1 ag1) ) := by
      show _ = _
      rw [Ps.compare, HQ.out]; show (if Ps.has [105, 115] (l.drop q1) = true then _ else _) = _; rw [if_pos HQ3.out, List.tail_drop]
    rcases hq4 : Ps.nullness (l.drop (q1 + 1)) with ⟨op, ts4⟩ | ⟨c4, ts4⟩
    · have NR : Hid (∀ wx, Rd wx B l (q1 + 1) len d → Calls Tryz.prog 187 #[.pointer (some ⟨B, 0, none⟩)] wx (Ans opIs B l len d wx (q1 + 1) (.ok op ts4))) := fun wx hx => by rw [← hq4]; exact NL.out wx _ hx
      rw [hq4] at HE
      go_region_with (first
        | (go_at_call 170; refine (ofOne_at _ _ _ _ _ _ _ _ _ _ _ _ _ (Fr (w.heap.size + 1)) (fun k hk => ?_) ?_).mono ?_; exact (Nat.le_trans (Nat.lt_of_lt_of_le hlt2 hle4) hk); exact fr_keep HX3.out ((Steps.refl B w3).drew.trans hs4) (Nat.lt_succ_of_lt HB.out); rintro e w5 ⟨ya, yc, rfl, hy, hb5⟩; have HY := hide hy; clear hy; have Z5 := (hb5.block _ (Array.getElem?_eq_some_iff.1 Z4).1).trans Z4; clear za0 za1 za2 za3 za4 za5 za6 za7 za8 zb0 zb1 zb2 zb3 zb4 zb5 zb6 zb7 zb8; obtain ⟨⟨za0, za1, za2, za3, za4, za5, za6, za7, za8⟩, ⟨zb0, zb1, zb2, zb3, zb4, zb5, zb6, zb7, zb8⟩, _⟩ := sl9 Z5)
        | (go_at_call 187; refine (NR.out _ (HR3.out.later (Below.refl _ _).drew)).mono ?_; rintro e w4 hA; obtain ⟨q4, V, ht, rfl, rfl, hp4, hr4, hs4⟩ := hA.of_ok; have HTS := hide ht; have HR4 := hide hr4; clear hA ht hr4; have X4 := hs4.keeps (show w3.drew.heap[w2.heap.size]? = _ from X3) hneX; have Z4 := hs4.keeps (show w3.drew.heap[w.heap.size]? = _ from Z3) hne; have hle4 : w2.heap.size ≤ w4.heap.size := Nat.le_trans ((step_alloc B w2 _).trans hs3).size hs4.size; clear xa0 xa1 xa2 xa3 xa4 xa5 xa6 xa7 xa8 xb0 xb1 xb2 xb3 xb4 xb5 xb6 xb7 xb8; clear za0 za1 za2 za3 za4 za5 za6 za7 za8 zb0 zb1 zb2 zb3 zb4 zb5 zb6 zb7 zb8; obtain ⟨⟨xa0, xa1, xa2, xa3, xa4, xa5, xa6, xa7, xa8⟩, ⟨xb0, xb1, xb2, xb3, xb4, xb5, xb6, xb7, xb8⟩, _⟩ := sl9 X4; obtain ⟨⟨za0, za1, za2, za3, za4, za5, za6, za7, za8⟩, ⟨zb0, zb1, zb2, zb3, zb4, zb5, zb6, zb7, zb8⟩, _⟩ := sl9 Z4))
      all_goals
        go_wp2_with (fail)
        refine ret_ex rfl rfl rfl Z5 (S := .slice ya 1 yc) (x := Ps.one op (Ps.Ex.mk o1 ⟨k1, n1, t1⟩ tb1 nm1 sl1 kd1 ag1) ) (p' := q4) (by rw [HE.out, ← HTS.out]; rfl) ((HST.out.drew.trans hs4).then hb5) (Nat.le_refl _) HB.out (P := Fr (w.heap.size + 1)) (Nat.not_succ_le_self _) (fun _ hk => Nat.le_of_succ_le hk) HY.out (by omega) (HR4.out.later hb5) rfl
    · have NR : Hid (∀ wx, Rd wx B l (q1 + 1) len d → Calls Tryz.prog 187 #[.pointer (some ⟨B, 0, none⟩)] wx (Ans opIs B l len d wx (q1 + 1) (.no c4 ts4))) := fun wx hx => by rw [← hq4]; exact NL.out wx _ hx
      rw [hq4] at HE
      refine wp_region_any (by kernel_rfl) ?_
      change wpAny _ _ _ _ _ _ _ (World.drew _)
      refine wpAny_take (i := 0) (v := ?vz0_0) rfl (by kernel_rfl) (by kernel_rfl) (by kernel_rfl) (fun _ _ _ h => h) (Or.inl ⟨by rfl, ?hyz0_0⟩) ?restz0_0
      case hyz0_0 => (intro w; go_simp; try with_reducible rfl)
      refine wpAny_ready (rs := [1, 2]) (by kernel_rfl) (by simp) ?_
      refine AllReady.cons rfl (fun K hK => ?_) ?morez
      · go_simp
        refine (NR.out _ (HR3.out.later (Below.refl _ _).drew)).mono ?_
        rintro e wz hA
        obtain ⟨rfl, hsz⟩ := hA.of_no
        exact bodyPost_thrown (P := Tryz.prog) (fn := Tryz.f172) (R := Ans exIs B l len d w p (Ps.compare sub (l.drop p))) rfl (by rw [HE.out]; exact Ans.no (HST.out.drew.trans hsz))
      refine AllReady.cons rfl (fun K hK => ?_) AllReady.nil
      go_simp
      refine hK _ _ ?_
      clear hK K
      refine wpAny_ready (rs := [1]) (by kernel_rfl) (by simp) ?_
      refine AllReady.cons rfl (fun K hK => ?_) AllReady.nil
      go_simp
      refine (NR.out _ (HR3.out.later (Below.refl _ _).drew)).mono ?_
      rintro e wz hA
      obtain ⟨rfl, hsz⟩ := hA.of_no
      exact bodyPost_thrown (P := Tryz.prog) (fn := Tryz.f172) (R := Ans exIs B l len d w p (Ps.compare sub (l.drop p))) rfl (by rw [HE.out]; exact Ans.no (HST.out.drew.trans hsz))
  · -- x alone
    have HE : Ps.compare sub (l.drop p) = .ok (Ps.Ex.mk o1 ⟨k1, n1, t1⟩ tb1 nm1 sl1 kd1 ag1) (l.drop q1) := by
      rw [Ps.compare, HQ.out]; show (if Ps.has [105, 115] (l.drop q1) = true then _ else _) = _; rw [if_neg (by rw [show Ps.has [105, 115] (l.drop q1) = false from HQ3.out]; decide), HZ.out]
    refine ret_ex rfl rfl rfl Z4 (S := .slice sa1 ag1.length sc1) HE (((step_alloc B w _).trans hs1).trans (((step_alloc B w2 _).trans hs3).trans hs4)) (Nat.le_refl _) HB.out (P := Fr (w.heap.size + 1)) (Nat.not_succ_le_self _) (fun _ hk => Nat.le_of_succ_le hk) ?_ (by omega) HR4.out rfl
    exact fr_keep HX.out (((step_alloc B w2 _).trans hs3).trans hs4) (Nat.lt_succ_of_lt HB.out)
  · -- an operation of two
    have hneX : w2.heap.size ≠ B := ne_of_lt' HR2.out.lt
    have HST := hide (((step_alloc B w _).trans hs1).trans (((step_alloc B w2 _).trans hs3).trans hs4))
    have HX4 := hide (fr_keep HX.out (((step_alloc B w2 _).trans hs3).trans hs4) (Nat.lt_succ_of_lt HB.out))
    have HE : Hid (Ps.compare sub (l.drop p) = (Ps.sum sub (l.drop (q1 + 1))).map (Ps.two op (Ps.Ex.mk o1 ⟨k1, n1, t1⟩ tb1 nm1 sl1 kd1 ag1) )) := by
      show _ = _
      rw [Ps.compare, HQ.out]; show (if Ps.has [105, 115] (l.drop q1) = true then _ else _) = _; rw [if_neg (by rw [show Ps.has [105, 115] (l.drop q1) = false from HQ3.out]; decide), HZ.out]
      simp only [List.tail_drop]
    have hle : w2.heap.size ≤ w4.heap.size := Nat.le_trans ((step_alloc B w2 _).trans hs3).size hs4.size
    rcases hq5 : Ps.sum sub (l.drop (q1 + 1)) with ⟨⟨o2, ⟨k2, n2, t2⟩, tb2, nm2, sl2, kd2, ag2⟩, ts2⟩ | ⟨c5, ts5⟩
    · have LO : Hid (∀ wx, Rd wx B l (q1 + 1) len d → Calls Tryz.prog 186 #[.pointer (some ⟨B, 0, none⟩)] wx fun e w' => ∃ sa2 sc2 q2, ts2 = l.drop q2 ∧ e = .returned (.agg #[.int .u8 o2, .int .u8 k2, .int .i64 n2, .string t2, .string ⟨tb2.toArray⟩, .string ⟨nm2.toArray⟩, .int .i64 sl2, .int .u8 kd2, .slice sa2 ag2.length sc2]) ∧ ExAt (Fr wx.heap.size) w' (Ps.Ex.mk o2 ⟨k2, n2, t2⟩ tb2 nm2 sl2 kd2 ag2) (.slice sa2 ag2.length sc2) ∧ q1 + 1 ≤ q2 ∧ Rd w' B l q2 len d ∧ Steps B wx w') := fun wx hx => (CL.out wx (q1 + 1) hx).mono fun e w' hA => by
        rw [hq5] at hA
        obtain ⟨p', V, ht, he, hi, hp', hr', hs'⟩ := hA.of_ok
        obtain ⟨a, c, hV, hx'⟩ := hi.laid
        exact ⟨a, c, p', ht, by rw [he, hV], hx', hp', hr', hs'⟩
      rw [hq5] at HE
      clear CL hq5
      go_region_with (first
        | (go_at_call 138; refine (ofTwo_at _ _ _ _ _ _ _ _ _ _ _ _ _ _ _ _ _ _ _ _ _ _ _ _ (Fr (w.heap.size + 1)) (fun k hk => ?_) ?_ ?_).mono ?_; exact (Nat.le_trans (Nat.lt_of_lt_of_le hlt2 (Nat.le_trans hle hs5.size)) hk); exact fr_keep HX4.out ((Steps.refl B w4).drew.trans hs5) (Nat.lt_succ_of_lt HB.out); exact ExAt.mono (fun k hk => Nat.le_trans (Nat.lt_of_lt_of_le hlt2 hle) hk) _ _ HY.out; rintro e w6 ⟨ya, yc, rfl, hy, hb6⟩; have HY6 := hide hy; clear hy; have Z6 := (hb6.block _ (Array.getElem?_eq_some_iff.1 Z5).1).trans Z5; clear za0 za1 za2 za3 za4 za5 za6 za7 za8 zb0 zb1 zb2 zb3 zb4 zb5 zb6 zb7 zb8; obtain ⟨⟨za0, za1, za2, za3, za4, za5, za6, za7, za8⟩, ⟨zb0, zb1, zb2, zb3, zb4, zb5, zb6, zb7, zb8⟩, _⟩ := sl9 Z6)
        | (go_at_call 186; refine (LO.out _ (HR4.out.later (Below.refl _ _).drew)).mono ?_; rintro e w5 ⟨sa2, sc2, q2, ht, rfl, hy, hp2, hr5, hs5⟩; have HTS := hide ht; have HR5 := hide hr5; have HY := hide hy; clear ht hr5 hy; have X5 := hs5.keeps (show w4.drew.heap[w2.heap.size]? = _ from X4) hneX; have Z5 := hs5.keeps (show w4.drew.heap[w.heap.size]? = _ from Z4) hne; clear xa0 xa1 xa2 xa3 xa4 xa5 xa6 xa7 xa8 xb0 xb1 xb2 xb3 xb4 xb5 xb6 xb7 xb8; clear za0 za1 za2 za3 za4 za5 za6 za7 za8 zb0 zb1 zb2 zb3 zb4 zb5 zb6 zb7 zb8; obtain ⟨⟨xa0, xa1, xa2, xa3, xa4, xa5, xa6, xa7, xa8⟩, ⟨xb0, xb1, xb2, xb3, xb4, xb5, xb6, xb7, xb8⟩, _⟩ := sl9 X5; obtain ⟨⟨za0, za1, za2, za3, za4, za5, za6, za7, za8⟩, ⟨zb0, zb1, zb2, zb3, zb4, zb5, zb6, zb7, zb8⟩, _⟩ := sl9 Z5))
      all_goals
        go_wp2_with (fail)
        refine ret_ex rfl rfl rfl Z6 (S := .slice ya 2 yc) (x := Ps.two op (Ps.Ex.mk o1 ⟨k1, n1, t1⟩ tb1 nm1 sl1 kd1 ag1) (Ps.Ex.mk o2 ⟨k2, n2, t2⟩ tb2 nm2 sl2 kd2 ag2) ) (p' := q2) (by rw [HE.out, ← HTS.out]; rfl) ((HST.out.drew.trans hs5).then hb6) (Nat.le_refl _) HB.out (P := Fr (w.heap.size + 1)) (Nat.not_succ_le_self _) (fun _ hk => Nat.le_of_succ_le hk) HY6.out (by omega) (HR5.out.later hb6) rfl
    · have NR : Hid (∀ wx, Rd wx B l (q1 + 1) len d → Calls Tryz.prog 186 #[.pointer (some ⟨B, 0, none⟩)] wx (Ans exIs B l len d wx (q1 + 1) (.no c5 ts5))) := fun wx hx => by rw [← hq5]; exact CL.out wx _ hx
      rw [hq5] at HE
      refine wp_region_any (by kernel_rfl) ?_
      change wpAny _ _ _ _ _ _ _ (World.drew _)
      refine wpAny_take (i := 0) (v := ?vy0_0) rfl (by kernel_rfl) (by kernel_rfl) (by kernel_rfl) (fun _ _ _ h => h) (Or.inl ⟨by rfl, ?hyy0_0⟩) ?resty0_0
      case hyy0_0 => (intro w; go_simp; try with_reducible rfl)
      refine wpAny_take (i := 2) (v := ?vy1_2) rfl (by kernel_rfl) (by kernel_rfl) (by kernel_rfl) (fun _ _ _ h => h) (Or.inl ⟨by rfl, ?hyy1_2⟩) ?resty1_2
      case hyy1_2 => (intro w; go_simp; try with_reducible rfl)
      refine wpAny_ready (rs := [1, 3]) (by kernel_rfl) (by simp) ?_
      refine AllReady.cons rfl (fun K hK => ?_) ?morey
      · go_simp
        refine hK _ _ ?_
        clear hK K
        refine wpAny_ready (rs := [3]) (by kernel_rfl) (by simp) ?_
        refine AllReady.cons rfl (fun K hK => ?_) AllReady.nil
        go_simp
        refine (NR.out _ (HR4.out.later (Below.refl _ _).drew)).mono ?_
        rintro e wz hA
        obtain ⟨rfl, hsz⟩ := hA.of_no
        exact bodyPost_thrown (P := Tryz.prog) (fn := Tryz.f172) (R := Ans exIs B l len d w p (Ps.compare sub (l.drop p))) rfl (by rw [HE.out]; exact Ans.no (HST.out.drew.trans hsz))
      refine AllReady.cons rfl (fun K hK => ?_) AllReady.nil
      go_simp
      refine (NR.out _ (HR4.out.later (Below.refl _ _).drew)).mono ?_
      rintro e wz hA
      obtain ⟨rfl, hsz⟩ := hA.of_no
      exact bodyPost_thrown (P := Tryz.prog) (fn := Tryz.f172) (R := Ans exIs B l len d w p (Ps.compare sub (l.drop p))) rfl (by rw [HE.out]; exact Ans.no (HST.out.drew.trans hsz))
  · have e : Ps.compare sub (l.drop p) = .no c1 ts1 := by rw [Ps.compare, HQ.out]; rfl
    exact bodyPost_thrown rfl (by rw [e]; exact Ans.no (((Steps.refl B w).alloc _).trans hs1))
end Go.Proofs.YtedamaccflhmfaaGreatDoor
