/-
  Package parser: lists: api.Expr .. and what follows from it.
-/
import Derived.Test.YtedamaccflhmfaaGreatDoorPsN
namespace Go.Proofs.YtedamaccflhmfaaGreatDoor
open Go.RowKit
attribute [local go_sem ↓] Go.wp_at_zero Go.wp_at_succ

theorem infoE_expr : (Tryz.prog.info? 34).map (fun i => (i.zero, i.size, i.bytes)) = some (some (.agg #[.int .u8 0, .int .u8 0, .int .i64 0, .string ⟨#[]⟩, .string ⟨#[]⟩, .string ⟨#[]⟩, .int .i64 0, .int .u8 0, .slice none 0 0]), 9, 112) := by kernel_rfl
/-- An element, laid open. -/
abbrev LaidE_expr (B : Nat) (l : List Lx.Tk) (len d : Nat) (w0 : World) (q : Nat) (R : Ps.R (Ps.Ex)) (e : Ending) (w' : World) : Prop := (∃ (o k n : Int) (t : ByteArray) (tb nm : List UInt8) (sl kd : Int) (ag : List Ps.Ex) (sa : Option Addr) (sc p' : Nat), R = .ok (Ps.Ex.mk o ⟨k, n, t⟩ tb nm sl kd ag) (l.drop p') ∧ e = .returned (.agg #[.int .u8 o, .int .u8 k, .int .i64 n, .string t, .string ⟨tb.toArray⟩, .string ⟨nm.toArray⟩, .int .i64 sl, .int .u8 kd, .slice sa ag.length sc]) ∧ exCod.at' (Fr w0.heap.size) w' (Ps.Ex.mk o ⟨k, n, t⟩ tb nm sl kd ag) (.slice sa ag.length sc) ∧ q ≤ p' ∧ Rd w' B l p' len d ∧ Steps B w0 w') ∨ (∃ c ts, R = .no c ts ∧ e = .panicked [{ v := .iface 41 (.agg #[.int .i64 c, .int .i64 (Ps.faultAt len ts)]), recovered := false }] ∧ Steps B w0 w')

/-- The list on its way. -/
structure LiS_expr (w : World) (B : Nat) (l : List Lx.Tk) (len d most : Nat) (r1 : List Lx.Tk → Ps.R (Ps.Ex)) (res : Ps.R (List (Ps.Ex))) (p : Nat) (wr : World) (q g cap n : Nat) (xs : List (Ps.Ex)) : Prop where
  rd : Rd wr B l q len d
  st : Steps B w wr
  ow : Own exCod 34 9 w.heap.size wr xs g cap n
  pq : p ≤ q
  nq : n ≤ q + 1
  eq : ∃ f, l.length - q ≤ f ∧ Ps.more most r1 f xs (l.drop q) = res

set_option maxRecDepth 100000 in
set_option maxHeartbeats 12800000 in
theorem list_expr (f : FuncId) (EG : ∀ (args : Array Value) (w : World), (callFunc f args).run Tryz.prog w = .ok (.enter f args) w) (r1 : List Lx.Tk → Ps.R (Ps.Ex)) (w : World) (B : Nat) (l : List Lx.Tk) (p len d most : Nat) (h : Rd w B l p len d) (hr : ∀ (wx : World) (q : Nat), Rd wx B l q len d → Calls Tryz.prog f #[.pointer (some ⟨B, 0, none⟩)] wx fun e w' => LaidE_expr B l len d wx q (r1 (l.drop q)) e w') : Calls Tryz.prog 124 #[.pointer (some ⟨B, 0, none⟩), .int .i64 most, .func (.func f) #[.pointer (some ⟨B, 0, none⟩)] #[]] w (Ans (listIs exCod) B l len d w p (Ps.list most r1 (l.drop p))) := by
  have LD := hide hr
  have TK := hide (takes_any B l len d)
  have RM := hide (fun wx q n hx => room_any wx B l q len d hx n most _ rfl)
  have H0 := hide h
  have HB := hide h.lt
  have hll := h.ll
  obtain ⟨res, hres⟩ : ∃ res, res = Ps.list most r1 (l.drop p) := ⟨_, rfl⟩
  rw [← hres]
  have HRES : Hid (∀ x q, r1 (l.drop p) = .ok x (l.drop q) → Ps.more most r1 (l.drop q).length [x] (l.drop q) = res) := fun x q e => by rw [hres, Ps.list, e]; rfl
  have HNO : Hid (∀ c ts, r1 (l.drop p) = .no c ts → res = .no c ts) := fun c ts e => by rw [hres, Ps.list, e]; rfl
  clear h hr hres
  go_enter Tryz.func124, Tryz.ntmps124
  go_wp2_with (guard_target =~ Calls _ _ _ _ _; refine (LD.out _ _ H0.out).mono ?_; rintro e w2 (⟨o, k, n, t, tb, nm, sl, kd, ag, sa, sc, q, hq, rfl, hx, hpq, hr2, hs⟩ | ⟨c, ts, hq, rfl, hs⟩) <;> (have HQ := hide hq; clear hq))
  · have S0 : LiS_expr w B l len d most r1 res p (w2.alloc (.cells #[.int .u8 o, .int .u8 k, .int .i64 n, .string t, .string ⟨tb.toArray⟩, .string ⟨nm.toArray⟩, .int .i64 sl, .int .u8 kd, .slice sa ag.length sc] 34)) q w2.heap.size 1 1 [(Ps.Ex.mk o ⟨k, n, t⟩ tb nm sl kd ag)] :=
      ⟨hr2.alloc _, hs.alloc _, Own.one (S := .slice sa ag.length sc) rfl rfl hs.size hx, hpq, by omega, _, Nat.le_of_eq (List.length_drop).symm, HRES.out _ _ HQ.out⟩
    obtain ⟨G, hG⟩ : ∃ G, G = w2.heap.size := ⟨_, rfl⟩
    rw [← hG] at S0 ⊢
    have HS0 := hide S0
    clear hG hx hr2 hs HQ S0 HRES HNO H0
    go_loopw [7] (fun v wr => ∃ (q g cap ne : Nat) (xs : List (Ps.Ex)), v = .slice (some ⟨g, 0, none⟩) ne cap ∧ LiS_expr w B l len d most r1 res p wr q g cap ne xs) (fun _ wr => l.length - placeOf wr B)
    case atStart => exact ⟨_, _, _, _, _, rfl, HS0.out⟩
    case round =>
      clear HS0
      obtain ⟨q, g, cap, ne, xs, rfl, LS⟩ := hrel
      have HL := hide LS
      clear LS
      have hnq : ne ≤ q + 1 := HL.out.nq
      have hqp : placeOf wr B = q := HL.out.rd.place
      have HQP := hide hqp
      clear hqp
      go_wp2_with (first
        | (go_at_call 50; refine (TK.out _ _ _ HL.out.rd).mono ?_; rintro e w3 (⟨h3, rfl, hr3, hs3⟩ | ⟨h3, rfl, hr3, hs3⟩) <;> (have HR3 := hide hr3; have HQ3 := hide h3; clear h3 hr3; have HW3 := hide (HL.out.ow.steps hs3 HB.out)))
        | (go_at_call 164; refine (RM.out _ _ ne HR3.out).mono ?_; rintro e w4 hA; rcases hA.elim with ⟨u, q4, V, hq, rfl, rfl, hp4, hr4, hs4⟩ | ⟨c4, ts4, hq, rfl, hs4⟩ <;> (have HQ4 := hide hq; clear hq hA); have HR4 := hide hr4; have HW4 := hide (HW3.out.steps hs4 HB.out); have hg4 := HW4.out.lt; have hz4 := ((HL.out.st.trans hs3).trans hs4).size; clear hr4)
        | (guard_target =~ Calls _ _ _ _ _; refine (LD.out _ _ HR4.out).mono ?_; rintro e w5 (⟨o, k, n, t, tb, nm, sl, kd, ag, sa, sc, q5, hq, rfl, hx, hpq5, hr5, hs5⟩ | ⟨c5, ts5, hq, rfl, hs5⟩) <;> (have HQ5 := hide hq; clear hq); have HX := hide hx; have HR5 := hide hr5; have HW5 := hide ((HW4.out.steps hs5 HB.out).steps (step_alloc B w5 (.cells #[.int .u8 o, .int .u8 k, .int .i64 n, .string t, .string ⟨tb.toArray⟩, .string ⟨nm.toArray⟩, .int .i64 sl, .int .u8 kd, .slice sa ag.length sc] 34)) HB.out); clear hx hr5)
        | (at_builtin; refine wpList_el 34 32 9 112 (.agg #[.int .u8 0, .int .u8 0, .int .i64 0, .string ⟨#[]⟩, .string ⟨#[]⟩, .string ⟨#[]⟩, .int .i64 0, .int .u8 0, .slice none 0 0]) Tryz.underlying32 infoE_expr rfl (by decide) (by decide) rfl _ _ rfl w.heap.size xs g cap ne rfl HW5.out w5.heap.size 1 (Ps.Ex.mk o ⟨k, n, t⟩ tb nm sl kd ag) (.slice sa ag.length sc) #[.int .u8 o, .int .u8 k, .int .i64 n, .string t, .string ⟨tb.toArray⟩, .string ⟨nm.toArray⟩, .int .i64 sl, .int .u8 kd, .slice sa ag.length sc] rfl (heap_new rfl) rfl rfl ?h1 ?ha ?hn ?hb ?go; (case h1 => (intro u hu; simp only [List.mem_toArray, List.mem_cons, List.not_mem_nil, or_false] at hu; rcases hu with rfl | rfl | rfl | rfl | rfl | rfl | rfl | rfl | rfl <;> rfl)); (case ha => exact exCod.keep (P := Fr w4.heap.size) (w := w5) (Kept.of ((Below.refl _ _).alloc (Nat.le_refl _) _)) (fun k hk hlt => ⟨Nat.le_trans hz4 hk, fun e => absurd (show w4.heap.size ≤ k from hk) (by omega)⟩) HX.out); (case hn => (have := HL.out.rd.pl; omega)); (case hb => exact (((HL.out.st.trans hs3).trans hs4).trans (hs5.alloc _)).size); intro g6 cap6 w6 hO hG6; have HO := hide hO; clear hO))
      · have hnq5 := HL.out.nq
        have HR6 := ((HR5.out.alloc (.cells #[.int .u8 o, .int .u8 k, .int .i64 n, .string t, .string ⟨tb.toArray⟩, .string ⟨nm.toArray⟩, .int .i64 sl, .int .u8 kd, .slice sa ag.length sc] 34)).by hG6 (Nat.lt_of_lt_of_le HB.out HL.out.ow.ge))
        refine ⟨⟨q5, g6, cap6, ne + 1, _, rfl, HR6, (((HL.out.st.trans hs3).trans hs4).trans (hs5.alloc _)).by hG6 HL.out.ow.ge, HO.out, by have := HL.out.pq; omega, by omega, ?_⟩, ?_⟩
        · obtain ⟨f', hf', e⟩ := more_go HQ3.out HL.out.eq
          obtain ⟨e1, e2⟩ := room_ok HQ4.out
          refine ⟨f', by omega, ?_⟩
          rw [← HL.out.ow.len, e1, if_pos rfl, ← e2, HQ5.out] at e
          exact e
        · rw [HR6.place, HQP.out]
          have := has_lt HQ3.out
          omega
      · refine bodyPost_thrown (P := Tryz.prog) (fn := Tryz.f124) (R := Ans (listIs exCod) B l len d w p res) rfl ?_
        obtain ⟨f', hf', e⟩ := more_go HQ3.out HL.out.eq
        obtain ⟨e1, e2⟩ := room_ok HQ4.out
        rw [← HL.out.ow.len, e1, if_pos rfl, ← e2, HQ5.out] at e
        rw [← e]
        exact Ans.no (((HL.out.st.trans hs3).trans hs4).trans hs5)
      · refine bodyPost_thrown (P := Tryz.prog) (fn := Tryz.f124) (R := Ans (listIs exCod) B l len d w p res) rfl ?_
        obtain ⟨f', hf', e⟩ := more_go HQ3.out HL.out.eq
        obtain ⟨e1, e2, e3⟩ := room_no HQ4.out
        rw [← HL.out.ow.len, e1, if_neg (by decide), ← e3] at e
        rw [← e, e2]
        exact Ans.no ((HL.out.st.trans hs3).trans hs4)
      · go_ret
        obtain ⟨f', _, e⟩ := HL.out.eq
        rw [more_stop HQ3.out] at e
        rw [← e]
        exact Ans.ok q (HL.out.st.trans hs3) HW3.out.list HL.out.pq HR3.out
  · exact bodyPost_thrown rfl (by rw [HNO.out _ _ HQ.out]; exact Ans.no hs)
end Go.Proofs.YtedamaccflhmfaaGreatDoor
namespace Go.Proofs.YtedamaccflhmfaaGreatDoor
open Go.RowKit
attribute [local go_sem ↓] Go.wp_at_zero Go.wp_at_succ

theorem infoE_str : (Tryz.prog.info? 9).map (fun i => (i.zero, i.size, i.bytes)) = some (some (.string ⟨#[]⟩), 1, 16) := by kernel_rfl
/-- An element, laid open. -/
abbrev LaidE_str (B : Nat) (l : List Lx.Tk) (len d : Nat) (w0 : World) (q : Nat) (R : Ps.R (List UInt8)) (e : Ending) (w' : World) : Prop := (∃ (sv : List UInt8) (sa : Option Addr) (sc p' : Nat), R = .ok sv (l.drop p') ∧ e = .returned (.string ⟨sv.toArray⟩) ∧ strCod.at' (Fr w0.heap.size) w' sv (.slice sa 0 sc) ∧ q ≤ p' ∧ Rd w' B l p' len d ∧ Steps B w0 w') ∨ (∃ c ts, R = .no c ts ∧ e = .panicked [{ v := .iface 41 (.agg #[.int .i64 c, .int .i64 (Ps.faultAt len ts)]), recovered := false }] ∧ Steps B w0 w')

/-- The list on its way. -/
structure LiS_str (w : World) (B : Nat) (l : List Lx.Tk) (len d most : Nat) (r1 : List Lx.Tk → Ps.R (List UInt8)) (res : Ps.R (List (List UInt8))) (p : Nat) (wr : World) (q g cap n : Nat) (xs : List (List UInt8)) : Prop where
  rd : Rd wr B l q len d
  st : Steps B w wr
  ow : Own strCod 9 1 w.heap.size wr xs g cap n
  pq : p ≤ q
  nq : n ≤ q + 1
  eq : ∃ f, l.length - q ≤ f ∧ Ps.more most r1 f xs (l.drop q) = res

set_option maxRecDepth 100000 in
set_option maxHeartbeats 12800000 in
theorem list_str (f : FuncId) (EG : ∀ (args : Array Value) (w : World), (callFunc f args).run Tryz.prog w = .ok (.enter f args) w) (r1 : List Lx.Tk → Ps.R (List UInt8)) (w : World) (B : Nat) (l : List Lx.Tk) (p len d most : Nat) (h : Rd w B l p len d) (hr : ∀ (wx : World) (q : Nat), Rd wx B l q len d → Calls Tryz.prog f #[.pointer (some ⟨B, 0, none⟩)] wx fun e w' => LaidE_str B l len d wx q (r1 (l.drop q)) e w') : Calls Tryz.prog 167 #[.pointer (some ⟨B, 0, none⟩), .int .i64 most, .func (.func f) #[.pointer (some ⟨B, 0, none⟩)] #[]] w (Ans (listIs strCod) B l len d w p (Ps.list most r1 (l.drop p))) := by
  have LD := hide hr
  have TK := hide (takes_any B l len d)
  have RM := hide (fun wx q n hx => room_any wx B l q len d hx n most _ rfl)
  have H0 := hide h
  have HB := hide h.lt
  have hll := h.ll
  obtain ⟨res, hres⟩ : ∃ res, res = Ps.list most r1 (l.drop p) := ⟨_, rfl⟩
  rw [← hres]
  have HRES : Hid (∀ x q, r1 (l.drop p) = .ok x (l.drop q) → Ps.more most r1 (l.drop q).length [x] (l.drop q) = res) := fun x q e => by rw [hres, Ps.list, e]; rfl
  have HNO : Hid (∀ c ts, r1 (l.drop p) = .no c ts → res = .no c ts) := fun c ts e => by rw [hres, Ps.list, e]; rfl
  clear h hr hres
  go_enter Tryz.func167, Tryz.ntmps167
  go_wp2_with (guard_target =~ Calls _ _ _ _ _; refine (LD.out _ _ H0.out).mono ?_; rintro e w2 (⟨sv, sa, sc, q, hq, rfl, hx, hpq, hr2, hs⟩ | ⟨c, ts, hq, rfl, hs⟩) <;> (have HQ := hide hq; clear hq))
  · have S0 : LiS_str w B l len d most r1 res p (w2.alloc (.cells #[.string ⟨sv.toArray⟩] 9)) q w2.heap.size 1 1 [sv] :=
      ⟨hr2.alloc _, hs.alloc _, Own.one (S := .slice sa 0 sc) rfl rfl hs.size hx, hpq, by omega, _, Nat.le_of_eq (List.length_drop).symm, HRES.out _ _ HQ.out⟩
    obtain ⟨G, hG⟩ : ∃ G, G = w2.heap.size := ⟨_, rfl⟩
    rw [← hG] at S0 ⊢
    have HS0 := hide S0
    clear hG hx hr2 hs HQ S0 HRES HNO H0
    go_loopw [7] (fun v wr => ∃ (q g cap ne : Nat) (xs : List (List UInt8)), v = .slice (some ⟨g, 0, none⟩) ne cap ∧ LiS_str w B l len d most r1 res p wr q g cap ne xs) (fun _ wr => l.length - placeOf wr B)
    case atStart => exact ⟨_, _, _, _, _, rfl, HS0.out⟩
    case round =>
      clear HS0
      obtain ⟨q, g, cap, ne, xs, rfl, LS⟩ := hrel
      have HL := hide LS
      clear LS
      have hnq : ne ≤ q + 1 := HL.out.nq
      have hqp : placeOf wr B = q := HL.out.rd.place
      have HQP := hide hqp
      clear hqp
      go_wp2_with (first
        | (go_at_call 50; refine (TK.out _ _ _ HL.out.rd).mono ?_; rintro e w3 (⟨h3, rfl, hr3, hs3⟩ | ⟨h3, rfl, hr3, hs3⟩) <;> (have HR3 := hide hr3; have HQ3 := hide h3; clear h3 hr3; have HW3 := hide (HL.out.ow.steps hs3 HB.out)))
        | (go_at_call 164; refine (RM.out _ _ ne HR3.out).mono ?_; rintro e w4 hA; rcases hA.elim with ⟨u, q4, V, hq, rfl, rfl, hp4, hr4, hs4⟩ | ⟨c4, ts4, hq, rfl, hs4⟩ <;> (have HQ4 := hide hq; clear hq hA); have HR4 := hide hr4; have HW4 := hide (HW3.out.steps hs4 HB.out); have hg4 := HW4.out.lt; have hz4 := ((HL.out.st.trans hs3).trans hs4).size; clear hr4)
        | (guard_target =~ Calls _ _ _ _ _; refine (LD.out _ _ HR4.out).mono ?_; rintro e w5 (⟨sv, sa, sc, q5, hq, rfl, hx, hpq5, hr5, hs5⟩ | ⟨c5, ts5, hq, rfl, hs5⟩) <;> (have HQ5 := hide hq; clear hq); have HX := hide hx; have HR5 := hide hr5; have HW5 := hide ((HW4.out.steps hs5 HB.out).steps (step_alloc B w5 (.cells #[.string ⟨sv.toArray⟩] 9)) HB.out); clear hx hr5)
        | (at_builtin; refine wpList_el 9 24 1 16 (.string ⟨#[]⟩) Tryz.underlying24 infoE_str rfl (by decide) (by decide) rfl _ _ rfl w.heap.size xs g cap ne rfl HW5.out w5.heap.size 1 sv (.slice sa 0 sc) #[.string ⟨sv.toArray⟩] rfl (heap_new rfl) rfl rfl ?h1 ?ha ?hn ?hb ?go; (case h1 => (intro u hu; simp only [List.mem_toArray, List.mem_cons, List.not_mem_nil, or_false] at hu; rcases hu with rfl <;> rfl)); (case ha => exact strCod.keep (P := Fr w4.heap.size) (w := w5) (Kept.of ((Below.refl _ _).alloc (Nat.le_refl _) _)) (fun k hk hlt => ⟨Nat.le_trans hz4 hk, fun e => absurd (show w4.heap.size ≤ k from hk) (by omega)⟩) HX.out); (case hn => (have := HL.out.rd.pl; omega)); (case hb => exact (((HL.out.st.trans hs3).trans hs4).trans (hs5.alloc _)).size); intro g6 cap6 w6 hO hG6; have HO := hide hO; clear hO))
      · have hnq5 := HL.out.nq
        have HR6 := ((HR5.out.alloc (.cells #[.string ⟨sv.toArray⟩] 9)).by hG6 (Nat.lt_of_lt_of_le HB.out HL.out.ow.ge))
        refine ⟨⟨q5, g6, cap6, ne + 1, _, rfl, HR6, (((HL.out.st.trans hs3).trans hs4).trans (hs5.alloc _)).by hG6 HL.out.ow.ge, HO.out, by have := HL.out.pq; omega, by omega, ?_⟩, ?_⟩
        · obtain ⟨f', hf', e⟩ := more_go HQ3.out HL.out.eq
          obtain ⟨e1, e2⟩ := room_ok HQ4.out
          refine ⟨f', by omega, ?_⟩
          rw [← HL.out.ow.len, e1, if_pos rfl, ← e2, HQ5.out] at e
          exact e
        · rw [HR6.place, HQP.out]
          have := has_lt HQ3.out
          omega
      · refine bodyPost_thrown (P := Tryz.prog) (fn := Tryz.f167) (R := Ans (listIs strCod) B l len d w p res) rfl ?_
        obtain ⟨f', hf', e⟩ := more_go HQ3.out HL.out.eq
        obtain ⟨e1, e2⟩ := room_ok HQ4.out
        rw [← HL.out.ow.len, e1, if_pos rfl, ← e2, HQ5.out] at e
        rw [← e]
        exact Ans.no (((HL.out.st.trans hs3).trans hs4).trans hs5)
      · refine bodyPost_thrown (P := Tryz.prog) (fn := Tryz.f167) (R := Ans (listIs strCod) B l len d w p res) rfl ?_
        obtain ⟨f', hf', e⟩ := more_go HQ3.out HL.out.eq
        obtain ⟨e1, e2, e3⟩ := room_no HQ4.out
        rw [← HL.out.ow.len, e1, if_neg (by decide), ← e3] at e
        rw [← e, e2]
        exact Ans.no ((HL.out.st.trans hs3).trans hs4)
      · go_ret
        obtain ⟨f', _, e⟩ := HL.out.eq
        rw [more_stop HQ3.out] at e
        rw [← e]
        exact Ans.ok q (HL.out.st.trans hs3) HW3.out.list HL.out.pq HR3.out
  · exact bodyPost_thrown rfl (by rw [HNO.out _ _ HQ.out]; exact Ans.no hs)
end Go.Proofs.YtedamaccflhmfaaGreatDoor
namespace Go.Proofs.YtedamaccflhmfaaGreatDoor
open Go.RowKit
attribute [local go_sem ↓] Go.wp_at_zero Go.wp_at_succ

theorem infoE_item : (Tryz.prog.info? 48).map (fun i => (i.zero, i.size, i.bytes)) = some (some (.agg #[.bool false, .int .u8 0, .int .u8 0, .int .i64 0, .string ⟨#[]⟩, .string ⟨#[]⟩, .string ⟨#[]⟩, .int .i64 0, .int .u8 0, .slice none 0 0, .string ⟨#[]⟩]), 11, 136) := by kernel_rfl
/-- An element, laid open. -/
abbrev LaidE_item (B : Nat) (l : List Lx.Tk) (len d : Nat) (w0 : World) (q : Nat) (R : Ps.R (Ps.Item)) (e : Ending) (w' : World) : Prop := (∃ (all : Bool) (o k n : Int) (t : ByteArray) (tb nm : List UInt8) (sl kd : Int) (ag : List Ps.Ex) (as' : List UInt8) (sa : Option Addr) (sc p' : Nat), R = .ok (Ps.Item.mk all (Ps.Ex.mk o ⟨k, n, t⟩ tb nm sl kd ag) as') (l.drop p') ∧ e = .returned (.agg #[.bool all, .int .u8 o, .int .u8 k, .int .i64 n, .string t, .string ⟨tb.toArray⟩, .string ⟨nm.toArray⟩, .int .i64 sl, .int .u8 kd, .slice sa ag.length sc, .string ⟨as'.toArray⟩]) ∧ itemCod.at' (Fr w0.heap.size) w' (Ps.Item.mk all (Ps.Ex.mk o ⟨k, n, t⟩ tb nm sl kd ag) as') (.slice sa ag.length sc) ∧ q ≤ p' ∧ Rd w' B l p' len d ∧ Steps B w0 w') ∨ (∃ c ts, R = .no c ts ∧ e = .panicked [{ v := .iface 41 (.agg #[.int .i64 c, .int .i64 (Ps.faultAt len ts)]), recovered := false }] ∧ Steps B w0 w')

/-- The list on its way. -/
structure LiS_item (w : World) (B : Nat) (l : List Lx.Tk) (len d most : Nat) (r1 : List Lx.Tk → Ps.R (Ps.Item)) (res : Ps.R (List (Ps.Item))) (p : Nat) (wr : World) (q g cap n : Nat) (xs : List (Ps.Item)) : Prop where
  rd : Rd wr B l q len d
  st : Steps B w wr
  ow : Own itemCod 48 11 w.heap.size wr xs g cap n
  pq : p ≤ q
  nq : n ≤ q + 1
  eq : ∃ f, l.length - q ≤ f ∧ Ps.more most r1 f xs (l.drop q) = res

set_option maxRecDepth 100000 in
set_option maxHeartbeats 12800000 in
theorem list_item (f : FuncId) (EG : ∀ (args : Array Value) (w : World), (callFunc f args).run Tryz.prog w = .ok (.enter f args) w) (r1 : List Lx.Tk → Ps.R (Ps.Item)) (w : World) (B : Nat) (l : List Lx.Tk) (p len d most : Nat) (h : Rd w B l p len d) (hr : ∀ (wx : World) (q : Nat), Rd wx B l q len d → Calls Tryz.prog f #[.pointer (some ⟨B, 0, none⟩)] wx fun e w' => LaidE_item B l len d wx q (r1 (l.drop q)) e w') : Calls Tryz.prog 120 #[.pointer (some ⟨B, 0, none⟩), .int .i64 most, .func (.func f) #[.pointer (some ⟨B, 0, none⟩)] #[]] w (Ans (listIs itemCod) B l len d w p (Ps.list most r1 (l.drop p))) := by
  have LD := hide hr
  have TK := hide (takes_any B l len d)
  have RM := hide (fun wx q n hx => room_any wx B l q len d hx n most _ rfl)
  have H0 := hide h
  have HB := hide h.lt
  have hll := h.ll
  obtain ⟨res, hres⟩ : ∃ res, res = Ps.list most r1 (l.drop p) := ⟨_, rfl⟩
  rw [← hres]
  have HRES : Hid (∀ x q, r1 (l.drop p) = .ok x (l.drop q) → Ps.more most r1 (l.drop q).length [x] (l.drop q) = res) := fun x q e => by rw [hres, Ps.list, e]; rfl
  have HNO : Hid (∀ c ts, r1 (l.drop p) = .no c ts → res = .no c ts) := fun c ts e => by rw [hres, Ps.list, e]; rfl
  clear h hr hres
  go_enter Tryz.func120, Tryz.ntmps120
  go_wp2_with (guard_target =~ Calls _ _ _ _ _; refine (LD.out _ _ H0.out).mono ?_; rintro e w2 (⟨all, o, k, n, t, tb, nm, sl, kd, ag, as', sa, sc, q, hq, rfl, hx, hpq, hr2, hs⟩ | ⟨c, ts, hq, rfl, hs⟩) <;> (have HQ := hide hq; clear hq))
  · have S0 : LiS_item w B l len d most r1 res p (w2.alloc (.cells #[.bool all, .int .u8 o, .int .u8 k, .int .i64 n, .string t, .string ⟨tb.toArray⟩, .string ⟨nm.toArray⟩, .int .i64 sl, .int .u8 kd, .slice sa ag.length sc, .string ⟨as'.toArray⟩] 48)) q w2.heap.size 1 1 [(Ps.Item.mk all (Ps.Ex.mk o ⟨k, n, t⟩ tb nm sl kd ag) as')] :=
      ⟨hr2.alloc _, hs.alloc _, Own.one (S := .slice sa ag.length sc) rfl rfl hs.size hx, hpq, by omega, _, Nat.le_of_eq (List.length_drop).symm, HRES.out _ _ HQ.out⟩
    obtain ⟨G, hG⟩ : ∃ G, G = w2.heap.size := ⟨_, rfl⟩
    rw [← hG] at S0 ⊢
    have HS0 := hide S0
    clear hG hx hr2 hs HQ S0 HRES HNO H0
    go_loopw [7] (fun v wr => ∃ (q g cap ne : Nat) (xs : List (Ps.Item)), v = .slice (some ⟨g, 0, none⟩) ne cap ∧ LiS_item w B l len d most r1 res p wr q g cap ne xs) (fun _ wr => l.length - placeOf wr B)
    case atStart => exact ⟨_, _, _, _, _, rfl, HS0.out⟩
    case round =>
      clear HS0
      obtain ⟨q, g, cap, ne, xs, rfl, LS⟩ := hrel
      have HL := hide LS
      clear LS
      have hnq : ne ≤ q + 1 := HL.out.nq
      have hqp : placeOf wr B = q := HL.out.rd.place
      have HQP := hide hqp
      clear hqp
      go_wp2_with (first
        | (go_at_call 50; refine (TK.out _ _ _ HL.out.rd).mono ?_; rintro e w3 (⟨h3, rfl, hr3, hs3⟩ | ⟨h3, rfl, hr3, hs3⟩) <;> (have HR3 := hide hr3; have HQ3 := hide h3; clear h3 hr3; have HW3 := hide (HL.out.ow.steps hs3 HB.out)))
        | (go_at_call 164; refine (RM.out _ _ ne HR3.out).mono ?_; rintro e w4 hA; rcases hA.elim with ⟨u, q4, V, hq, rfl, rfl, hp4, hr4, hs4⟩ | ⟨c4, ts4, hq, rfl, hs4⟩ <;> (have HQ4 := hide hq; clear hq hA); have HR4 := hide hr4; have HW4 := hide (HW3.out.steps hs4 HB.out); have hg4 := HW4.out.lt; have hz4 := ((HL.out.st.trans hs3).trans hs4).size; clear hr4)
        | (guard_target =~ Calls _ _ _ _ _; refine (LD.out _ _ HR4.out).mono ?_; rintro e w5 (⟨all, o, k, n, t, tb, nm, sl, kd, ag, as', sa, sc, q5, hq, rfl, hx, hpq5, hr5, hs5⟩ | ⟨c5, ts5, hq, rfl, hs5⟩) <;> (have HQ5 := hide hq; clear hq); have HX := hide hx; have HR5 := hide hr5; have HW5 := hide ((HW4.out.steps hs5 HB.out).steps (step_alloc B w5 (.cells #[.bool all, .int .u8 o, .int .u8 k, .int .i64 n, .string t, .string ⟨tb.toArray⟩, .string ⟨nm.toArray⟩, .int .i64 sl, .int .u8 kd, .slice sa ag.length sc, .string ⟨as'.toArray⟩] 48)) HB.out); clear hx hr5)
        | (at_builtin; refine wpList_el 48 26 11 136 (.agg #[.bool false, .int .u8 0, .int .u8 0, .int .i64 0, .string ⟨#[]⟩, .string ⟨#[]⟩, .string ⟨#[]⟩, .int .i64 0, .int .u8 0, .slice none 0 0, .string ⟨#[]⟩]) Tryz.underlying26 infoE_item rfl (by decide) (by decide) rfl _ _ rfl w.heap.size xs g cap ne rfl HW5.out w5.heap.size 1 (Ps.Item.mk all (Ps.Ex.mk o ⟨k, n, t⟩ tb nm sl kd ag) as') (.slice sa ag.length sc) #[.bool all, .int .u8 o, .int .u8 k, .int .i64 n, .string t, .string ⟨tb.toArray⟩, .string ⟨nm.toArray⟩, .int .i64 sl, .int .u8 kd, .slice sa ag.length sc, .string ⟨as'.toArray⟩] rfl (heap_new rfl) rfl rfl ?h1 ?ha ?hn ?hb ?go; (case h1 => (intro u hu; simp only [List.mem_toArray, List.mem_cons, List.not_mem_nil, or_false] at hu; rcases hu with rfl | rfl | rfl | rfl | rfl | rfl | rfl | rfl | rfl | rfl | rfl <;> rfl)); (case ha => exact itemCod.keep (P := Fr w4.heap.size) (w := w5) (Kept.of ((Below.refl _ _).alloc (Nat.le_refl _) _)) (fun k hk hlt => ⟨Nat.le_trans hz4 hk, fun e => absurd (show w4.heap.size ≤ k from hk) (by omega)⟩) HX.out); (case hn => (have := HL.out.rd.pl; omega)); (case hb => exact (((HL.out.st.trans hs3).trans hs4).trans (hs5.alloc _)).size); intro g6 cap6 w6 hO hG6; have HO := hide hO; clear hO))
      · have hnq5 := HL.out.nq
        have HR6 := ((HR5.out.alloc (.cells #[.bool all, .int .u8 o, .int .u8 k, .int .i64 n, .string t, .string ⟨tb.toArray⟩, .string ⟨nm.toArray⟩, .int .i64 sl, .int .u8 kd, .slice sa ag.length sc, .string ⟨as'.toArray⟩] 48)).by hG6 (Nat.lt_of_lt_of_le HB.out HL.out.ow.ge))
        refine ⟨⟨q5, g6, cap6, ne + 1, _, rfl, HR6, (((HL.out.st.trans hs3).trans hs4).trans (hs5.alloc _)).by hG6 HL.out.ow.ge, HO.out, by have := HL.out.pq; omega, by omega, ?_⟩, ?_⟩
        · obtain ⟨f', hf', e⟩ := more_go HQ3.out HL.out.eq
          obtain ⟨e1, e2⟩ := room_ok HQ4.out
          refine ⟨f', by omega, ?_⟩
          rw [← HL.out.ow.len, e1, if_pos rfl, ← e2, HQ5.out] at e
          exact e
        · rw [HR6.place, HQP.out]
          have := has_lt HQ3.out
          omega
      · refine bodyPost_thrown (P := Tryz.prog) (fn := Tryz.f120) (R := Ans (listIs itemCod) B l len d w p res) rfl ?_
        obtain ⟨f', hf', e⟩ := more_go HQ3.out HL.out.eq
        obtain ⟨e1, e2⟩ := room_ok HQ4.out
        rw [← HL.out.ow.len, e1, if_pos rfl, ← e2, HQ5.out] at e
        rw [← e]
        exact Ans.no (((HL.out.st.trans hs3).trans hs4).trans hs5)
      · refine bodyPost_thrown (P := Tryz.prog) (fn := Tryz.f120) (R := Ans (listIs itemCod) B l len d w p res) rfl ?_
        obtain ⟨f', hf', e⟩ := more_go HQ3.out HL.out.eq
        obtain ⟨e1, e2, e3⟩ := room_no HQ4.out
        rw [← HL.out.ow.len, e1, if_neg (by decide), ← e3] at e
        rw [← e, e2]
        exact Ans.no ((HL.out.st.trans hs3).trans hs4)
      · go_ret
        obtain ⟨f', _, e⟩ := HL.out.eq
        rw [more_stop HQ3.out] at e
        rw [← e]
        exact Ans.ok q (HL.out.st.trans hs3) HW3.out.list HL.out.pq HR3.out
  · exact bodyPost_thrown rfl (by rw [HNO.out _ _ HQ.out]; exact Ans.no hs)
end Go.Proofs.YtedamaccflhmfaaGreatDoor
namespace Go.Proofs.YtedamaccflhmfaaGreatDoor
open Go.RowKit
attribute [local go_sem ↓] Go.wp_at_zero Go.wp_at_succ

theorem infoE_src : (Tryz.prog.info? 104).map (fun i => (i.zero, i.size, i.bytes)) = some (some (.agg #[.string ⟨#[]⟩, .string ⟨#[]⟩, .int .u8 0, .int .u8 0, .int .i64 0, .string ⟨#[]⟩, .string ⟨#[]⟩, .string ⟨#[]⟩, .int .i64 0, .int .u8 0, .slice none 0 0]), 11, 144) := by kernel_rfl
/-- An element, laid open. -/
abbrev LaidE_src (B : Nat) (l : List Lx.Tk) (len d : Nat) (w0 : World) (q : Nat) (R : Ps.R (Ps.Src)) (e : Ending) (w' : World) : Prop := (∃ (ta as' : List UInt8) (o k n : Int) (t : ByteArray) (tb nm : List UInt8) (sl kd : Int) (ag : List Ps.Ex) (sa : Option Addr) (sc p' : Nat), R = .ok (Ps.Src.mk ta as' (Ps.Ex.mk o ⟨k, n, t⟩ tb nm sl kd ag)) (l.drop p') ∧ e = .returned (.agg #[.string ⟨ta.toArray⟩, .string ⟨as'.toArray⟩, .int .u8 o, .int .u8 k, .int .i64 n, .string t, .string ⟨tb.toArray⟩, .string ⟨nm.toArray⟩, .int .i64 sl, .int .u8 kd, .slice sa ag.length sc]) ∧ srcCod.at' (Fr w0.heap.size) w' (Ps.Src.mk ta as' (Ps.Ex.mk o ⟨k, n, t⟩ tb nm sl kd ag)) (.slice sa ag.length sc) ∧ q ≤ p' ∧ Rd w' B l p' len d ∧ Steps B w0 w') ∨ (∃ c ts, R = .no c ts ∧ e = .panicked [{ v := .iface 41 (.agg #[.int .i64 c, .int .i64 (Ps.faultAt len ts)]), recovered := false }] ∧ Steps B w0 w')
end Go.Proofs.YtedamaccflhmfaaGreatDoor
