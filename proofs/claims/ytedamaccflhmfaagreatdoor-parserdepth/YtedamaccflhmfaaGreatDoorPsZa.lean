/-
  Package parser: the teller's items, and lists of them.
-/
import Derived.Test.YtedamaccflhmfaaGreatDoorPsYd
import Derived.Test.YtedamaccflhmfaaGreatDoorXZ
namespace Go.Proofs.YtedamaccflhmfaaGreatDoor
open Go.RowKit
attribute [local go_sem ↓] Go.wp_at_zero Go.wp_at_succ

theorem item_ge (i : Ps.Item) (c : Nat) : (Ps.itemT i c).2 ≤ c + wtE i.x := by
  have := tell_cnt i.x c
  unfold Ps.itemT
  split
  · show c ≤ _; omega
  · exact this
theorem asT_len (a : List UInt8) : (Ps.asT a).length ≤ 2 := by unfold Ps.asT; split <;> simp
theorem item_len (i : Ps.Item) (c : Nat) : (Ps.itemT i c).1.length ≤ wtE i.x + 3 := by
  have h1 := tell_len i.x c
  have h2 := asT_len i.as'
  unfold Ps.itemT
  split
  · show 1 ≤ _; omega
  · show ((Ps.tellE i.x c).1 ++ Ps.asT i.as').length ≤ _; rw [List.length_append]; omega
set_option maxRecDepth 100000 in
set_option maxHeartbeats 1600000 in
theorem item_told (all : Bool) (o k n : Int) (t : ByteArray) (tb nm : List UInt8) (sl kd : Int) (ag : List Ps.Ex) (asn : List UInt8) (w : World) (base T : Nat) (vv : Value) (l : List Lx.Tk) (c : Nat) (a : Option Addr) (cap : Nat) (h : Tl w base T vv l c) (hx : ExAt (fun b => b < base) w (.mk o ⟨k, n, t⟩ tb nm sl kd ag) (.slice a ag.length cap)) (hr : rngE (.mk o ⟨k, n, t⟩ tb nm sl kd ag)) (hl : l.length + wtE (.mk o ⟨k, n, t⟩ tb nm sl kd ag) ≤ 980000) (hc : c + wtE (.mk o ⟨k, n, t⟩ tb nm sl kd ag) ≤ 1000000000) :
    Calls Tryz.prog 141 #[.pointer (some ⟨T, 0, none⟩), .agg #[.bool all, .int .u8 o, .int .u8 k, .int .i64 n, .string t, .string ⟨tb.toArray⟩, .string ⟨nm.toArray⟩, .int .i64 sl, .int .u8 kd, .slice a ag.length cap, .string ⟨asn.toArray⟩]] w (Told1 base T vv l c w (Ps.itemT ⟨all, .mk o ⟨k, n, t⟩ tb nm sl kd ag, asn⟩ c).1 (Ps.itemT ⟨all, .mk o ⟨k, n, t⟩ tb nm sl kd ag, asn⟩ c).2) := by
  have H0 := hide (h.alloc (.cells #[.bool all, .int .u8 o, .int .u8 k, .int .i64 n, .string t, .string ⟨tb.toArray⟩, .string ⟨nm.toArray⟩, .int .i64 sl, .int .u8 kd, .slice a ag.length cap, .string ⟨asn.toArray⟩] 48))
  have T0 := hide ((Ts.refl T vv w).alloc (.cells #[.bool all, .int .u8 o, .int .u8 k, .int .i64 n, .string t, .string ⟨tb.toArray⟩, .string ⟨nm.toArray⟩, .int .i64 sl, .int .u8 kd, .slice a ag.length cap, .string ⟨asn.toArray⟩] 48))
  have F0 := h.far (Nat.le_refl w.heap.size)
  have B0 := hide (heap_new (w := w) (cs := #[.bool all, .int .u8 o, .int .u8 k, .int .i64 n, .string t, .string ⟨tb.toArray⟩, .string ⟨nm.toArray⟩, .int .i64 sl, .int .u8 kd, .slice a ag.length cap, .string ⟨asn.toArray⟩]) (T := 48) rfl)
  have X0 := hide (ExAt.keep (Kept.of ((Below.refl w.heap.size w).alloc (Nat.le_refl _) (.cells #[.bool all, .int .u8 o, .int .u8 k, .int .i64 n, .string t, .string ⟨tb.toArray⟩, .string ⟨nm.toArray⟩, .int .i64 sl, .int .u8 kd, .slice a ag.length cap, .string ⟨asn.toArray⟩] 48))) (fun _ hk _ => hk) _ _ hx)
  have hlen := tell_len (.mk o ⟨k, n, t⟩ tb nm sl kd ag) c
  have EX := hide (tells_all (.mk o ⟨k, n, t⟩ tb nm sl kd ag) _ _ _ _ _ _ a cap H0.out X0.out hr (by omega) hc)
  obtain ⟨ts, c', htl⟩ : ∃ ts c', Ps.tellE (.mk o ⟨k, n, t⟩ tb nm sl kd ag) c = (ts, c') := ⟨_, _, rfl⟩
  have hit : Ps.itemT ⟨all, .mk o ⟨k, n, t⟩ tb nm sl kd ag, asn⟩ c = if all then ([Ps.kw [42]], c) else (ts ++ Ps.asT asn, c') := by unfold Ps.itemT; rw [htl]
  rw [hit]
  rw [htl] at EX hlen
  simp only at hlen
  clear h hx hr hc htl hit
  cases all with
  | true =>
    clear EX hlen
    go_enter Tryz.func141, Tryz.ntmps141
    go_wp2_with (go_at_call 88; refine (say_new _ base T vv l c H0.out [[42]] _ rfl (by decide) (by omega) (by decide) rfl (by simp)).mono ?_; rintro e w2 ⟨rfl, v2, h2, t2⟩; have H2 := hide h2; clear h2)
    exact bodyPost_ret (v := .tuple #[]) (by simp [results, Tryz.results141]) rfl ⟨rfl, _, H2.out, T0.out.trans t2⟩
  | false =>
    go_enter Tryz.func141, Tryz.ntmps141
    go_wp2_with (first
      | (go_at_call 142; refine (as_told _ base T v2 _ c' H2.out (by rw [List.length_append]; omega) asn).mono ?_; rintro e w3 ⟨rfl, v3, h3, t3⟩; have H3 := hide h3; have T3 := hide (T2.out.trans t3); clear h3)
      | (go_at_call 46; refine EX.out.mono ?_; rintro e w2 ⟨rfl, v2, h2, t2⟩; have H2 := hide h2; have T2 := hide (T0.out.trans t2); have C2 := t2.keeps B0.out F0; have xa10 := Joins.cell_of_block C2 10; clear h2))
    exact bodyPost_end (v := .tuple #[]) (by simp [results, Tryz.results141]) rfl ⟨rfl, _, by have := H3.out; rw [List.append_assoc] at this; exact this, T3.out⟩
/-- So many tokens at most are told of items. -/
def itW : List Ps.Item → Nat
  | [] => 0
  | i :: r => wtE i.x + 10 + itW r
set_option maxRecDepth 100000 in
theorem eg_titem (args : Array Value) (w : World) : (callFunc 141 args).run Tryz.prog w = .ok (.enter 141 args) w := rfl
theorem tellL_cons {α : Type} (f : α → Nat → List Lx.Tk × Nat) (b : Bool) (x : α) (r : List α) (c : Nat) : Ps.tellL f b (x :: r) c = ((if b then [] else [Ps.kw [44]]) ++ (f x c).1 ++ (Ps.tellL f false r (f x c).2).1, (Ps.tellL f false r (f x c).2).2) := rfl
set_option maxRecDepth 100000 in
set_option maxHeartbeats 3200000 in
theorem items_told (l : List Ps.Item) (hrl : ∀ y ∈ l, rngE y.x) (w0 w : World) (hb0 : Below w0.heap.size w0 w) (lo : Nat) (a : Option Addr) (cap : Nat) (hV : listIs itemCod lo w0 l (.slice a l.length cap)) (T : Nat) (vv : Value) (q : List Lx.Tk) (c : Nat) (h : Tl w w0.heap.size T vv q c) (hq : q.length + itW l ≤ 970000) (hc : c + itW l ≤ 1000000000) (hll : l.length ≤ 1000000) :
    Calls Tryz.prog 140 #[.pointer (some ⟨T, 0, none⟩), .slice a l.length cap, .func (.func 141) #[.pointer (some ⟨T, 0, none⟩)] #[]] w (Told1 w0.heap.size T vv q c w (Ps.tellL Ps.itemT true l c).1 (Ps.tellL Ps.itemT true l c).2) := by
  have EG := eg_titem
  have H1 := hide hV
  have HR := hide hrl
  have HB0 := hide hb0
  have HH := hide h
  obtain ⟨R, hR⟩ : ∃ R, R = Ps.tellL Ps.itemT true l c := ⟨_, rfl⟩
  have HRR := hide hR
  rw [← hR]
  clear hV hrl h hb0 hR
  go_enter Tryz.func140, Tryz.ntmps140
  go_wp2_with (fail)
  go_loopw [10] (fun i wr => ∃ (m : Nat) (v2 : Value) (qm : List Lx.Tk) (cm : Nat), i = .int .i64 m ∧ m ≤ l.length ∧ Tl wr w0.heap.size T v2 qm cm ∧ Ts T vv v2 w wr ∧ qm.length + itW (l.drop m) ≤ 970000 ∧ cm + itW (l.drop m) ≤ 1000000000 ∧ Hid (qm ++ (Ps.tellL Ps.itemT (decide (m = 0)) (l.drop m) cm).1 = q ++ R.1 ∧ (Ps.tellL Ps.itemT (decide (m = 0)) (l.drop m) cm).2 = R.2)) (fun i _ => l.length - (intOf i).toNat)
  case atStart => exact ⟨0, vv, q, c, rfl, Nat.zero_le _, HH.out, Ts.refl _ _ _, hq, hc, by rw [HRR.out]; exact ⟨rfl, rfl⟩⟩
  case round =>
    clear hq hc HRR
    obtain ⟨m, v2, qm, cm, rfl, hm, h2, t2, hq, hc, HE⟩ := hrel
    have H2 := hide h2
    have T2 := hide t2
    have hbr := HB0.out.trans (t2.below HH.out)
    clear h2
    have hi0 : (0 : Int) ≤ (m : Int) := Int.natCast_nonneg m
    by_cases hlt : m < l.length
    · obtain ⟨y, hy⟩ : ∃ y, l[m]? = some y := ⟨_, List.getElem?_eq_getElem hlt⟩
      have hi1 : (m : Int) < (l.length : Int) := by exact_mod_cast hlt
      have HRY := HR.out y (List.mem_of_getElem? hy)
      obtain ⟨b, off, S, rfl, hb1, hcl, hat⟩ := list_nth len_item H1.out hy (by decide)
      have hd : l.drop m = y :: l.drop (m + 1) := by
        obtain ⟨h1, h2⟩ := List.getElem?_eq_some_iff.1 hy
        rw [List.drop_eq_getElem_cons h1, h2]
      have hE := HE.out
      rw [hd, tellL_cons] at hE
      rw [hd, itW] at hq hc
      obtain ⟨all, ⟨o, ⟨k, n, t⟩, tb, nm, sl, kd, ag⟩, asn⟩ := y
      replace hat : ExAt (Fr lo) w0 (.mk o ⟨k, n, t⟩ tb nm sl kd ag) S := hat
      obtain ⟨a3, c3, rfl⟩ := ExAt.slice hat
      have hil := item_len ⟨all, .mk o ⟨k, n, t⟩ tb nm sl kd ag, asn⟩ cm
      have hig := item_ge ⟨all, .mk o ⟨k, n, t⟩ tb nm sl kd ag, asn⟩ cm
      have hcw : ∀ j, j < 11 → wr.cell? ⟨b, off + m * 11 + j, none⟩ = #[.bool all, .int .u8 o, .int .u8 k, .int .i64 n, .string t, .string ⟨tb.toArray⟩, .string ⟨nm.toArray⟩, .int .i64 sl, .int .u8 kd, .slice a3 ag.length c3, .string ⟨asn.toArray⟩].toList[j]? := fun j hj => (World.cell?_of_block (w := w0) (hbr.block b hb1)).trans (hcl j hj)
      have ya0 := hcw 0 (by decide); have ya1 := hcw 1 (by decide); have ya2 := hcw 2 (by decide); have ya3 := hcw 3 (by decide); have ya4 := hcw 4 (by decide); have ya5 := hcw 5 (by decide); have ya6 := hcw 6 (by decide); have ya7 := hcw 7 (by decide); have ya8 := hcw 8 (by decide); have ya9 := hcw 9 (by decide); have ya10 := hcw 10 (by decide)
      simp only [List.getElem?_cons_zero, List.getElem?_cons_succ, Nat.add_zero] at ya0 ya1 ya2 ya3 ya4 ya5 ya6 ya7 ya8 ya9 ya10
      obtain ⟨X, hX⟩ : ∃ X : Array Value, X = #[.bool all, .int .u8 o, .int .u8 k, .int .i64 n, .string t, .string ⟨tb.toArray⟩, .string ⟨nm.toArray⟩, .int .i64 sl, .int .u8 kd, .slice a3 ag.length c3, .string ⟨asn.toArray⟩] := ⟨_, rfl⟩
      have HA := hide (H2.out.alloc (.cells X 48))
      have TA := hide (T2.out.alloc (.cells X 48))
      have KA := hbr.alloc hbr.size (.cells X 48)
      have XA := hide (ExAt.keep (Q := fun i => i < w0.heap.size) (Kept.of KA) (fun _ _ hk => hk) _ _ hat)
      have BA := hide (heap_new (w := wr) (cs := X) (T := 48) rfl)
      have FA := H2.out.far (Nat.le_refl wr.heap.size)
      rw [hX] at HA TA XA BA
      clear hX KA hcw hcl hat hbr t2 hd HE hy H1 HR HB0 HH H2 T2 hb1
      have IT := hide (fun (wx : World) (vx : Value) (lx : List Lx.Tk) (h1 : Tl wx w0.heap.size T vx lx cm) (h2 : ExAt (fun i => i < w0.heap.size) wx (.mk o ⟨k, n, t⟩ tb nm sl kd ag) (.slice a3 ag.length c3)) (h3 : lx.length + wtE (.mk o ⟨k, n, t⟩ tb nm sl kd ag) ≤ 980000) => item_told all o k n t tb nm sl kd ag asn wx w0.heap.size T vx lx cm a3 c3 h1 h2 HRY h3 (by have : cm + (wtE (.mk o ⟨k, n, t⟩ tb nm sl kd ag) + 10 + itW (List.drop (m + 1) l)) ≤ 1000000000 := hc; omega))
      obtain ⟨ti, ci, hti⟩ : ∃ ti ci, Ps.itemT ⟨all, .mk o ⟨k, n, t⟩ tb nm sl kd ag, asn⟩ cm = (ti, ci) := ⟨_, _, rfl⟩
      rw [hti] at IT hE hil hig
      obtain ⟨wx0, hwx⟩ : ∃ wx0, wx0 = wtE (.mk o ⟨k, n, t⟩ tb nm sl kd ag) := ⟨_, rfl⟩
      simp only at hil hig hq hc hE
      rw [← hwx] at hil hig hq hc IT
      have HE := hide hE
      clear hti hE HRY hwx
      by_cases hm0 : m = 0
      · have hmz : ¬ (0 : Int) < (m : Int) := by omega
        have HM0 := hide hm0
        clear hm0
        go_wp2_with (guard_target =~ Calls _ _ _ _ _; refine (IT.out _ _ _ HA.out XA.out (by omega)).mono ?_; rintro e w4 ⟨rfl, v4, h4, t4⟩; have H4 := hide h4; have T4 := hide (TA.out.trans t4); clear h4)
        refine ⟨⟨m + 1, v4, qm ++ ti, ci, by simp, by omega, H4.out, T4.out, by rw [List.length_append]; omega, by omega, ?_⟩, by simp only [intOf]; omega⟩
        have hE := HE.out
        have hm0 := HM0.out
        rw [decide_eq_true hm0] at hE
        rw [decide_eq_false (by omega : ¬ m + 1 = 0)]
        simp only [if_true, List.nil_append] at hE
        exact ⟨by rw [List.append_assoc]; exact hE.1, hE.2⟩
      · have hmp : (0 : Int) < (m : Int) := by omega
        go_wp2_with (first
          | (go_at_call 88; refine (say_new _ w0.heap.size T v2 qm cm HA.out [[44]] _ rfl (by decide) (by omega) (by decide) rfl (by simp)).mono ?_; rintro e w3 ⟨rfl, v3, h3, t3⟩; have H3 := hide h3; have T3 := hide (TA.out.trans t3); have X3 := hide (ExAt.keep (t3.kept HA.out) (fun _ hk _ => hk) _ _ XA.out); have C3 := t3.keeps BA.out FA; have za0 := Joins.cell_of_block C3 0; have za1 := Joins.cell_of_block C3 1; have za2 := Joins.cell_of_block C3 2; have za3 := Joins.cell_of_block C3 3; have za4 := Joins.cell_of_block C3 4; have za5 := Joins.cell_of_block C3 5; have za6 := Joins.cell_of_block C3 6; have za7 := Joins.cell_of_block C3 7; have za8 := Joins.cell_of_block C3 8; have za9 := Joins.cell_of_block C3 9; have za10 := Joins.cell_of_block C3 10; clear h3)
          | (guard_target =~ Calls _ _ _ _ _; refine (IT.out _ _ _ H3.out X3.out (by simp only [List.length_append, List.length_map, List.length_cons, List.length_nil]; omega)).mono ?_; rintro e w4 ⟨rfl, v4, h4, t4⟩; have H4 := hide h4; have T4 := hide (T3.out.trans t4); clear h4))
        refine ⟨⟨m + 1, v4, _, ci, by simp, by omega, H4.out, T4.out, by simp only [List.length_append, List.length_map, List.length_cons, List.length_nil]; omega, by omega, ?_⟩, by simp only [intOf]; omega⟩
        have hE := HE.out
        rw [decide_eq_false hm0] at hE
        rw [decide_eq_false (by omega : ¬ m + 1 = 0)]
        refine ⟨?_, hE.2⟩
        rw [← hE.1]
        simp only [List.map_cons, List.map_nil, List.append_assoc]
        rfl
    · obtain rfl : m = l.length := by omega
      have hE := HE.out
      rw [List.drop_length] at hE
      have hE1 : qm = q ++ R.1 := by have := hE.1; simpa [Ps.tellL] using this
      have hE2 : cm = R.2 := hE.2
      clear H1 HR HB0 HE hE t2 hbr
      go_wp2_with (fail)
      exact bodyPost_end (v := .tuple #[]) (by simp [results, Tryz.results140]) rfl ⟨rfl, _, by rw [← hE1, ← hE2]; exact H2.out, T2.out⟩
end Go.Proofs.YtedamaccflhmfaaGreatDoor
