/-
  Package parser: same items, sources, orders and assignments, and lists of them.
-/
import Derived.Test.YtedamaccflhmfaaGreatDoorXTd
import Derived.Test.YtedamaccflhmfaaGreatDoorPsW
namespace Go.Proofs.YtedamaccflhmfaaGreatDoor
open Go.RowKit
attribute [local go_sem ↓] Go.wp_at_zero Go.wp_at_succ

theorem Cod.lies_nth {α : Type} {C : Cod α} {P : Nat → Prop} {w : World} {sz : Nat} (hs : ∀ a S, (C.cells a S).length = sz) : ∀ {xs : List α} {c : List Value} {i : Nat} {y : α}, C.lies P w xs c → xs[i]? = some y → ∃ S, (∀ j, j < sz → c[i * sz + j]? = (C.cells y S)[j]?) ∧ C.at' P w y S ∧ i * sz + sz ≤ c.length
  | [], _, _, _, _, h => by cases h
  | x :: r, c, 0, y, h, hi => by
    injection hi with hi
    subst hi
    obtain ⟨S, c', rfl, hx, _⟩ := h
    refine ⟨S, fun j hj => ?_, hx, by rw [List.length_append, hs]; omega⟩
    rw [Nat.zero_mul, Nat.zero_add, List.getElem?_append_left (by rw [hs]; exact hj)]
  | x :: r, c, i + 1, y, h, hi => by
    obtain ⟨S, c', rfl, _, hr⟩ := h
    obtain ⟨S2, h1, h2, h3⟩ := Cod.lies_nth hs hr (show r[i]? = some y from hi)
    refine ⟨S2, fun j hj => ?_, h2, by rw [List.length_append, hs]; have : (i + 1) * sz = i * sz + sz := Nat.succ_mul i sz; omega⟩
    have e : (i + 1) * sz + j = sz + (i * sz + j) := by have : (i + 1) * sz = i * sz + sz := Nat.succ_mul i sz; omega
    rw [e, List.getElem?_append_right (by rw [hs]; omega), hs, Nat.add_sub_cancel_left]
    exact h1 j hj
/-- Where an element lies. -/
theorem list_nth {α : Type} {C : Cod α} {lo : Nat} {w : World} {sz : Nat} (hs : ∀ a S, (C.cells a S).length = sz) {xs : List α} {a : Option Addr} {cap i : Nat} {y : α} (h : listIs C lo w xs (.slice a xs.length cap)) (hi : xs[i]? = some y) (h0 : 0 < sz) : ∃ b off S, a = some ⟨b, off, none⟩ ∧ b < w.heap.size ∧ (∀ j, j < sz → w.cell? ⟨b, off + i * sz + j, none⟩ = (C.cells y S)[j]?) ∧ C.at' (Fr lo) w y S := by
  obtain ⟨a0, c0, c, e, hl, hf⟩ := h
  injection e with e1 _ e2
  subst e1 e2
  have hne : xs ≠ [] := by intro e; rw [e] at hi; cases hi
  obtain ⟨b, off, ea, _, hcs⟩ := hf hne
  obtain ⟨S, h1, h2, h3⟩ := Cod.lies_nth hs hl hi
  have hc : ∀ j, j < sz → w.cell? ⟨b, off + i * sz + j, none⟩ = (C.cells y S)[j]? := fun j hj => by
    rw [show off + i * sz + j = off + (i * sz + j) from by omega, hcs _ (by omega)]; exact h1 j hj
  refine ⟨b, off, S, ea, ?_, hc, h2⟩
  have h4 := hc 0 h0
  rw [show (C.cells y S)[0]? = some ((C.cells y S)[0]'(by rw [hs]; exact h0)) from List.getElem?_eq_getElem _] at h4
  exact World.block_lt_of_cell? w _ h4

theorem len_item (x : Ps.Item) (S : Value) : (itemCod.cells x S).length = 11 := by
  obtain ⟨all, ⟨o, ⟨k, n, t⟩, tb, nm, sl, kd, ag⟩, asn⟩ := x
  rfl
set_option maxRecDepth 100000 in
set_option maxHeartbeats 1600000 in
theorem sameItem_ok (all : Bool) (asn : List UInt8) (o k n : Int) (t : ByteArray) (tb nm : List UInt8) (sl kd : Int) (ag : List Ps.Ex) (w : World) (P : Nat → Prop) (a : Option Addr) (cap : Nat) (a' : Option Addr) (cap' : Nat) (h1 : ExAt P w (.mk o ⟨k, n, t⟩ tb nm sl kd ag) (.slice a ag.length cap)) (h2 : ExAt P w (.mk o ⟨k, n, t⟩ tb nm sl kd ag) (.slice a' ag.length cap')) (hr : rngE (.mk o ⟨k, n, t⟩ tb nm sl kd ag)) :
    Calls Tryz.prog 39 #[.agg #[.bool all, .int .u8 o, .int .u8 k, .int .i64 n, .string t, .string ⟨tb.toArray⟩, .string ⟨nm.toArray⟩, .int .i64 sl, .int .u8 kd, .slice a ag.length cap, .string ⟨asn.toArray⟩], .agg #[.bool all, .int .u8 o, .int .u8 k, .int .i64 n, .string t, .string ⟨tb.toArray⟩, .string ⟨nm.toArray⟩, .int .i64 sl, .int .u8 kd, .slice a' ag.length cap', .string ⟨asn.toArray⟩]] w fun e w' => e = .returned (.bool true) ∧ Below w.heap.size w w' := by
  have HB := hide (((Below.refl w.heap.size w).alloc (Nat.le_refl _) (.cells #[.bool all, .int .u8 o, .int .u8 k, .int .i64 n, .string t, .string ⟨tb.toArray⟩, .string ⟨nm.toArray⟩, .int .i64 sl, .int .u8 kd, .slice a ag.length cap, .string ⟨asn.toArray⟩] 48)).alloc (by simp) (.cells #[.bool all, .int .u8 o, .int .u8 k, .int .i64 n, .string t, .string ⟨tb.toArray⟩, .string ⟨nm.toArray⟩, .int .i64 sl, .int .u8 kd, .slice a' ag.length cap', .string ⟨asn.toArray⟩] 48))
  have SX := hide (sames_all (.mk o ⟨k, n, t⟩ tb nm sl kd ag) ((w.alloc (.cells #[.bool all, .int .u8 o, .int .u8 k, .int .i64 n, .string t, .string ⟨tb.toArray⟩, .string ⟨nm.toArray⟩, .int .i64 sl, .int .u8 kd, .slice a ag.length cap, .string ⟨asn.toArray⟩] 48)).alloc (.cells #[.bool all, .int .u8 o, .int .u8 k, .int .i64 n, .string t, .string ⟨tb.toArray⟩, .string ⟨nm.toArray⟩, .int .i64 sl, .int .u8 kd, .slice a' ag.length cap', .string ⟨asn.toArray⟩] 48)) P a cap a' cap' (ExAt.keep (Kept.of HB.out) (fun _ hk _ => hk) _ _ h1) (ExAt.keep (Kept.of HB.out) (fun _ hk _ => hk) _ _ h2) (by rw [rngE] at hr; have := hr.2.2; omega) (by rw [rngE] at hr; exact hr.2.1))
  clear h1 h2 hr
  go_enter Tryz.func39, Tryz.ntmps39
  go_wp2_with (go_at_call 9; refine SX.out.mono ?_; rintro e w2 ⟨rfl, hz⟩)
  go_ret
  exact ⟨rfl, HB.out.trans (hz.mono HB.out.size)⟩
set_option maxRecDepth 100000 in
theorem eg_sameItem (args : Array Value) (w : World) : (callFunc 39 args).run Tryz.prog w = .ok (.enter 39 args) w := rfl
set_option maxRecDepth 100000 in
set_option maxHeartbeats 3200000 in
theorem eqf_item (l : List Ps.Item) (hrl : ∀ y ∈ l, rngE y.x) (w : World) (lo : Nat) (a : Option Addr) (cap : Nat) (a' : Option Addr) (cap' : Nat) (hV : listIs itemCod lo w l (.slice a l.length cap)) (hV' : listIs itemCod lo w l (.slice a' l.length cap')) (hl : l.length ≤ 1000000) : Calls Tryz.prog 38 #[.slice a l.length cap, .slice a' l.length cap', .func (.func 39) #[] #[]] w fun e w' => e = .returned (.bool true) ∧ Below w.heap.size w w' := by
  have EG := eg_sameItem
  have H1 := hide hV
  have H2 := hide hV'
  have HR := hide hrl
  clear hV hV' hrl
  go_enter Tryz.func38, Tryz.ntmps38
  go_wp2_with (fail)
  go_loopw [17] (fun i wr => ∃ m : Nat, i = .int .i64 m ∧ m ≤ l.length ∧ Below w.heap.size w wr) (fun i _ => l.length - (intOf i).toNat)
  case atStart => exact ⟨0, rfl, Nat.zero_le _, Below.refl _ _⟩
  case round =>
    obtain ⟨m, rfl, hm, hb⟩ := hrel
    have hi0 : (0 : Int) ≤ (m : Int) := Int.natCast_nonneg m
    by_cases hlt : m < l.length
    · obtain ⟨y, hy⟩ : ∃ y, l[m]? = some y := ⟨_, List.getElem?_eq_getElem hlt⟩
      have hi1 : (m : Int) < (l.length : Int) := by exact_mod_cast hlt
      have HRY := HR.out y (List.mem_of_getElem? hy)
      obtain ⟨b, off, S, rfl, hb1, hc, hat⟩ := list_nth len_item H1.out hy (by decide)
      obtain ⟨b2, off2, S2, rfl, hb2, hc2, hat2⟩ := list_nth len_item H2.out hy (by decide)
      obtain ⟨all, ⟨o, ⟨k, n, t⟩, tb, nm, sl, kd, ag⟩, asn⟩ := y
      replace hat : ExAt (Fr lo) w (.mk o ⟨k, n, t⟩ tb nm sl kd ag) S := hat
      replace hat2 : ExAt (Fr lo) w (.mk o ⟨k, n, t⟩ tb nm sl kd ag) S2 := hat2
      obtain ⟨a3, c3, rfl⟩ := ExAt.slice hat
      obtain ⟨a4, c4, rfl⟩ := ExAt.slice hat2
      have hcw : ∀ j, j < 11 → wr.cell? ⟨b, off + m * 11 + j, none⟩ = #[.bool all, .int .u8 o, .int .u8 k, .int .i64 n, .string t, .string ⟨tb.toArray⟩, .string ⟨nm.toArray⟩, .int .i64 sl, .int .u8 kd, .slice a3 ag.length c3, .string ⟨asn.toArray⟩].toList[j]? := fun j hj => (World.cell?_of_block (w := w) (hb.block b hb1)).trans (hc j hj)
      have hcw2 : ∀ j, j < 11 → wr.cell? ⟨b2, off2 + m * 11 + j, none⟩ = #[.bool all, .int .u8 o, .int .u8 k, .int .i64 n, .string t, .string ⟨tb.toArray⟩, .string ⟨nm.toArray⟩, .int .i64 sl, .int .u8 kd, .slice a4 ag.length c4, .string ⟨asn.toArray⟩].toList[j]? := fun j hj => (World.cell?_of_block (w := w) (hb.block b2 hb2)).trans (hc2 j hj)
      have ya0 := hcw 0 (by decide); have ya1 := hcw 1 (by decide); have ya2 := hcw 2 (by decide); have ya3 := hcw 3 (by decide); have ya4 := hcw 4 (by decide); have ya5 := hcw 5 (by decide); have ya6 := hcw 6 (by decide); have ya7 := hcw 7 (by decide); have ya8 := hcw 8 (by decide); have ya9 := hcw 9 (by decide); have ya10 := hcw 10 (by decide)
      have za0 := hcw2 0 (by decide); have za1 := hcw2 1 (by decide); have za2 := hcw2 2 (by decide); have za3 := hcw2 3 (by decide); have za4 := hcw2 4 (by decide); have za5 := hcw2 5 (by decide); have za6 := hcw2 6 (by decide); have za7 := hcw2 7 (by decide); have za8 := hcw2 8 (by decide); have za9 := hcw2 9 (by decide); have za10 := hcw2 10 (by decide)
      simp only [List.getElem?_cons_zero, List.getElem?_cons_succ, Nat.add_zero] at ya0 za0 ya1 za1 ya2 za2 ya3 za3 ya4 za4 ya5 za5 ya6 za6 ya7 za7 ya8 za8 ya9 za9 ya10 za10
      have hsz := hb.size
      have q1 : ¬ b = wr.heap.size := by omega
      have q2 : ¬ wr.heap.size = b := by omega
      have q3 : ¬ b2 = wr.heap.size := by omega
      have q4 : ¬ wr.heap.size = b2 := by omega
      have q5 : b < wr.heap.size := by omega
      have q6 : b2 < wr.heap.size := by omega
      have HB := hide ((hb.alloc hsz (.cells #[.bool all, .int .u8 o, .int .u8 k, .int .i64 n, .string t, .string ⟨tb.toArray⟩, .string ⟨nm.toArray⟩, .int .i64 sl, .int .u8 kd, .slice a3 ag.length c3, .string ⟨asn.toArray⟩] 48)).alloc (by simp; omega) (.cells #[.bool all, .int .u8 o, .int .u8 k, .int .i64 n, .string t, .string ⟨tb.toArray⟩, .string ⟨nm.toArray⟩, .int .i64 sl, .int .u8 kd, .slice a4 ag.length c4, .string ⟨asn.toArray⟩] 48))
      have hkp : Kept (Fr lo) w ((wr.alloc (.cells #[.bool all, .int .u8 o, .int .u8 k, .int .i64 n, .string t, .string ⟨tb.toArray⟩, .string ⟨nm.toArray⟩, .int .i64 sl, .int .u8 kd, .slice a3 ag.length c3, .string ⟨asn.toArray⟩] 48)).alloc (.cells #[.bool all, .int .u8 o, .int .u8 k, .int .i64 n, .string t, .string ⟨tb.toArray⟩, .string ⟨nm.toArray⟩, .int .i64 sl, .int .u8 kd, .slice a4 ag.length c4, .string ⟨asn.toArray⟩] 48)) := fun i _ hi => HB.out.block i hi
      have SX := hide (sameItem_ok all asn o k n t tb nm sl kd ag _ (Fr lo) a3 c3 a4 c4 (ExAt.keep hkp (fun _ hk _ => hk) _ _ hat) (ExAt.keep hkp (fun _ hk _ => hk) _ _ hat2) HRY)
      clear hc hc2 hat hat2 HRY hcw hcw2 hkp H1 H2 HR hb hb1 hb2 hsz hy
      go_wp2_with (guard_target =~ Calls _ _ _ _ _; refine SX.out.mono ?_; rintro e w2 ⟨rfl, hz⟩)
      exact ⟨⟨m + 1, by simp, by omega, HB.out.trans (hz.mono HB.out.size)⟩, by simp only [intOf]; omega⟩
    · obtain rfl : m = l.length := by omega
      clear H1 H2 HR
      go_wp2_with (fail)
      go_ret
      exact ⟨rfl, hb⟩

theorem len_src (x : Ps.Src) (S : Value) : (srcCod.cells x S).length = 11 := by
  obtain ⟨tn, asn, ⟨o, ⟨k, n, t⟩, tb, nm, sl, kd, ag⟩⟩ := x
  rfl
set_option maxRecDepth 100000 in
set_option maxHeartbeats 1600000 in
theorem sameSource_ok (tn asn : List UInt8) (o k n : Int) (t : ByteArray) (tb nm : List UInt8) (sl kd : Int) (ag : List Ps.Ex) (w : World) (P : Nat → Prop) (a : Option Addr) (cap : Nat) (a' : Option Addr) (cap' : Nat) (h1 : ExAt P w (.mk o ⟨k, n, t⟩ tb nm sl kd ag) (.slice a ag.length cap)) (h2 : ExAt P w (.mk o ⟨k, n, t⟩ tb nm sl kd ag) (.slice a' ag.length cap')) (hr : rngE (.mk o ⟨k, n, t⟩ tb nm sl kd ag)) :
    Calls Tryz.prog 41 #[.agg #[.string ⟨tn.toArray⟩, .string ⟨asn.toArray⟩, .int .u8 o, .int .u8 k, .int .i64 n, .string t, .string ⟨tb.toArray⟩, .string ⟨nm.toArray⟩, .int .i64 sl, .int .u8 kd, .slice a ag.length cap], .agg #[.string ⟨tn.toArray⟩, .string ⟨asn.toArray⟩, .int .u8 o, .int .u8 k, .int .i64 n, .string t, .string ⟨tb.toArray⟩, .string ⟨nm.toArray⟩, .int .i64 sl, .int .u8 kd, .slice a' ag.length cap']] w fun e w' => e = .returned (.bool true) ∧ Below w.heap.size w w' := by
  have HB := hide (((Below.refl w.heap.size w).alloc (Nat.le_refl _) (.cells #[.string ⟨tn.toArray⟩, .string ⟨asn.toArray⟩, .int .u8 o, .int .u8 k, .int .i64 n, .string t, .string ⟨tb.toArray⟩, .string ⟨nm.toArray⟩, .int .i64 sl, .int .u8 kd, .slice a ag.length cap] 104)).alloc (by simp) (.cells #[.string ⟨tn.toArray⟩, .string ⟨asn.toArray⟩, .int .u8 o, .int .u8 k, .int .i64 n, .string t, .string ⟨tb.toArray⟩, .string ⟨nm.toArray⟩, .int .i64 sl, .int .u8 kd, .slice a' ag.length cap'] 104))
  have SX := hide (sames_all (.mk o ⟨k, n, t⟩ tb nm sl kd ag) ((w.alloc (.cells #[.string ⟨tn.toArray⟩, .string ⟨asn.toArray⟩, .int .u8 o, .int .u8 k, .int .i64 n, .string t, .string ⟨tb.toArray⟩, .string ⟨nm.toArray⟩, .int .i64 sl, .int .u8 kd, .slice a ag.length cap] 104)).alloc (.cells #[.string ⟨tn.toArray⟩, .string ⟨asn.toArray⟩, .int .u8 o, .int .u8 k, .int .i64 n, .string t, .string ⟨tb.toArray⟩, .string ⟨nm.toArray⟩, .int .i64 sl, .int .u8 kd, .slice a' ag.length cap'] 104)) P a cap a' cap' (ExAt.keep (Kept.of HB.out) (fun _ hk _ => hk) _ _ h1) (ExAt.keep (Kept.of HB.out) (fun _ hk _ => hk) _ _ h2) (by rw [rngE] at hr; have := hr.2.2; omega) (by rw [rngE] at hr; exact hr.2.1))
  clear h1 h2 hr
  go_enter Tryz.func41, Tryz.ntmps41
  go_wp2_with (go_at_call 9; refine SX.out.mono ?_; rintro e w2 ⟨rfl, hz⟩)
  go_ret
  exact ⟨rfl, HB.out.trans (hz.mono HB.out.size)⟩
set_option maxRecDepth 100000 in
theorem eg_sameSource (args : Array Value) (w : World) : (callFunc 41 args).run Tryz.prog w = .ok (.enter 41 args) w := rfl
set_option maxRecDepth 100000 in
set_option maxHeartbeats 3200000 in
theorem eqf_src (l : List Ps.Src) (hrl : ∀ y ∈ l, rngE y.on') (w : World) (lo : Nat) (a : Option Addr) (cap : Nat) (a' : Option Addr) (cap' : Nat) (hV : listIs srcCod lo w l (.slice a l.length cap)) (hV' : listIs srcCod lo w l (.slice a' l.length cap')) (hl : l.length ≤ 1000000) : Calls Tryz.prog 40 #[.slice a l.length cap, .slice a' l.length cap', .func (.func 41) #[] #[]] w fun e w' => e = .returned (.bool true) ∧ Below w.heap.size w w' := by
  have EG := eg_sameSource
  have H1 := hide hV
  have H2 := hide hV'
  have HR := hide hrl
  clear hV hV' hrl
  go_enter Tryz.func40, Tryz.ntmps40
  go_wp2_with (fail)
  go_loopw [17] (fun i wr => ∃ m : Nat, i = .int .i64 m ∧ m ≤ l.length ∧ Below w.heap.size w wr) (fun i _ => l.length - (intOf i).toNat)
  case atStart => exact ⟨0, rfl, Nat.zero_le _, Below.refl _ _⟩
  case round =>
    obtain ⟨m, rfl, hm, hb⟩ := hrel
    have hi0 : (0 : Int) ≤ (m : Int) := Int.natCast_nonneg m
    by_cases hlt : m < l.length
    · obtain ⟨y, hy⟩ : ∃ y, l[m]? = some y := ⟨_, List.getElem?_eq_getElem hlt⟩
      have hi1 : (m : Int) < (l.length : Int) := by exact_mod_cast hlt
      have HRY := HR.out y (List.mem_of_getElem? hy)
      obtain ⟨b, off, S, rfl, hb1, hc, hat⟩ := list_nth len_src H1.out hy (by decide)
      obtain ⟨b2, off2, S2, rfl, hb2, hc2, hat2⟩ := list_nth len_src H2.out hy (by decide)
      obtain ⟨tn, asn, ⟨o, ⟨k, n, t⟩, tb, nm, sl, kd, ag⟩⟩ := y
      replace hat : ExAt (Fr lo) w (.mk o ⟨k, n, t⟩ tb nm sl kd ag) S := hat
      replace hat2 : ExAt (Fr lo) w (.mk o ⟨k, n, t⟩ tb nm sl kd ag) S2 := hat2
      obtain ⟨a3, c3, rfl⟩ := ExAt.slice hat
      obtain ⟨a4, c4, rfl⟩ := ExAt.slice hat2
      have hcw : ∀ j, j < 11 → wr.cell? ⟨b, off + m * 11 + j, none⟩ = #[.string ⟨tn.toArray⟩, .string ⟨asn.toArray⟩, .int .u8 o, .int .u8 k, .int .i64 n, .string t, .string ⟨tb.toArray⟩, .string ⟨nm.toArray⟩, .int .i64 sl, .int .u8 kd, .slice a3 ag.length c3].toList[j]? := fun j hj => (World.cell?_of_block (w := w) (hb.block b hb1)).trans (hc j hj)
      have hcw2 : ∀ j, j < 11 → wr.cell? ⟨b2, off2 + m * 11 + j, none⟩ = #[.string ⟨tn.toArray⟩, .string ⟨asn.toArray⟩, .int .u8 o, .int .u8 k, .int .i64 n, .string t, .string ⟨tb.toArray⟩, .string ⟨nm.toArray⟩, .int .i64 sl, .int .u8 kd, .slice a4 ag.length c4].toList[j]? := fun j hj => (World.cell?_of_block (w := w) (hb.block b2 hb2)).trans (hc2 j hj)
      have ya0 := hcw 0 (by decide); have ya1 := hcw 1 (by decide); have ya2 := hcw 2 (by decide); have ya3 := hcw 3 (by decide); have ya4 := hcw 4 (by decide); have ya5 := hcw 5 (by decide); have ya6 := hcw 6 (by decide); have ya7 := hcw 7 (by decide); have ya8 := hcw 8 (by decide); have ya9 := hcw 9 (by decide); have ya10 := hcw 10 (by decide)
      have za0 := hcw2 0 (by decide); have za1 := hcw2 1 (by decide); have za2 := hcw2 2 (by decide); have za3 := hcw2 3 (by decide); have za4 := hcw2 4 (by decide); have za5 := hcw2 5 (by decide); have za6 := hcw2 6 (by decide); have za7 := hcw2 7 (by decide); have za8 := hcw2 8 (by decide); have za9 := hcw2 9 (by decide); have za10 := hcw2 10 (by decide)
      simp only [List.getElem?_cons_zero, List.getElem?_cons_succ, Nat.add_zero] at ya0 za0 ya1 za1 ya2 za2 ya3 za3 ya4 za4 ya5 za5 ya6 za6 ya7 za7 ya8 za8 ya9 za9 ya10 za10
      have hsz := hb.size
      have q1 : ¬ b = wr.heap.size := by omega
      have q2 : ¬ wr.heap.size = b := by omega
      have q3 : ¬ b2 = wr.heap.size := by omega
      have q4 : ¬ wr.heap.size = b2 := by omega
      have q5 : b < wr.heap.size := by omega
      have q6 : b2 < wr.heap.size := by omega
      have HB := hide ((hb.alloc hsz (.cells #[.string ⟨tn.toArray⟩, .string ⟨asn.toArray⟩, .int .u8 o, .int .u8 k, .int .i64 n, .string t, .string ⟨tb.toArray⟩, .string ⟨nm.toArray⟩, .int .i64 sl, .int .u8 kd, .slice a3 ag.length c3] 104)).alloc (by simp; omega) (.cells #[.string ⟨tn.toArray⟩, .string ⟨asn.toArray⟩, .int .u8 o, .int .u8 k, .int .i64 n, .string t, .string ⟨tb.toArray⟩, .string ⟨nm.toArray⟩, .int .i64 sl, .int .u8 kd, .slice a4 ag.length c4] 104))
      have hkp : Kept (Fr lo) w ((wr.alloc (.cells #[.string ⟨tn.toArray⟩, .string ⟨asn.toArray⟩, .int .u8 o, .int .u8 k, .int .i64 n, .string t, .string ⟨tb.toArray⟩, .string ⟨nm.toArray⟩, .int .i64 sl, .int .u8 kd, .slice a3 ag.length c3] 104)).alloc (.cells #[.string ⟨tn.toArray⟩, .string ⟨asn.toArray⟩, .int .u8 o, .int .u8 k, .int .i64 n, .string t, .string ⟨tb.toArray⟩, .string ⟨nm.toArray⟩, .int .i64 sl, .int .u8 kd, .slice a4 ag.length c4] 104)) := fun i _ hi => HB.out.block i hi
      have SX := hide (sameSource_ok tn asn o k n t tb nm sl kd ag _ (Fr lo) a3 c3 a4 c4 (ExAt.keep hkp (fun _ hk _ => hk) _ _ hat) (ExAt.keep hkp (fun _ hk _ => hk) _ _ hat2) HRY)
      clear hc hc2 hat hat2 HRY hcw hcw2 hkp H1 H2 HR hb hb1 hb2 hsz hy
      go_wp2_with (guard_target =~ Calls _ _ _ _ _; refine SX.out.mono ?_; rintro e w2 ⟨rfl, hz⟩)
      exact ⟨⟨m + 1, by simp, by omega, HB.out.trans (hz.mono HB.out.size)⟩, by simp only [intOf]; omega⟩
    · obtain rfl : m = l.length := by omega
      clear H1 H2 HR
      go_wp2_with (fail)
      go_ret
      exact ⟨rfl, hb⟩

theorem len_ord (x : Ps.Ord) (S : Value) : (ordCod.cells x S).length = 10 := by
  obtain ⟨⟨o, ⟨k, n, t⟩, tb, nm, sl, kd, ag⟩, de⟩ := x
  rfl
set_option maxRecDepth 100000 in
set_option maxHeartbeats 1600000 in
theorem sameOrder_ok (de : Bool) (o k n : Int) (t : ByteArray) (tb nm : List UInt8) (sl kd : Int) (ag : List Ps.Ex) (w : World) (P : Nat → Prop) (a : Option Addr) (cap : Nat) (a' : Option Addr) (cap' : Nat) (h1 : ExAt P w (.mk o ⟨k, n, t⟩ tb nm sl kd ag) (.slice a ag.length cap)) (h2 : ExAt P w (.mk o ⟨k, n, t⟩ tb nm sl kd ag) (.slice a' ag.length cap')) (hr : rngE (.mk o ⟨k, n, t⟩ tb nm sl kd ag)) :
    Calls Tryz.prog 43 #[.agg #[.int .u8 o, .int .u8 k, .int .i64 n, .string t, .string ⟨tb.toArray⟩, .string ⟨nm.toArray⟩, .int .i64 sl, .int .u8 kd, .slice a ag.length cap, .bool de], .agg #[.int .u8 o, .int .u8 k, .int .i64 n, .string t, .string ⟨tb.toArray⟩, .string ⟨nm.toArray⟩, .int .i64 sl, .int .u8 kd, .slice a' ag.length cap', .bool de]] w fun e w' => e = .returned (.bool true) ∧ Below w.heap.size w w' := by
  have HB := hide (((Below.refl w.heap.size w).alloc (Nat.le_refl _) (.cells #[.int .u8 o, .int .u8 k, .int .i64 n, .string t, .string ⟨tb.toArray⟩, .string ⟨nm.toArray⟩, .int .i64 sl, .int .u8 kd, .slice a ag.length cap, .bool de] 108)).alloc (by simp) (.cells #[.int .u8 o, .int .u8 k, .int .i64 n, .string t, .string ⟨tb.toArray⟩, .string ⟨nm.toArray⟩, .int .i64 sl, .int .u8 kd, .slice a' ag.length cap', .bool de] 108))
  have SX := hide (sames_all (.mk o ⟨k, n, t⟩ tb nm sl kd ag) ((w.alloc (.cells #[.int .u8 o, .int .u8 k, .int .i64 n, .string t, .string ⟨tb.toArray⟩, .string ⟨nm.toArray⟩, .int .i64 sl, .int .u8 kd, .slice a ag.length cap, .bool de] 108)).alloc (.cells #[.int .u8 o, .int .u8 k, .int .i64 n, .string t, .string ⟨tb.toArray⟩, .string ⟨nm.toArray⟩, .int .i64 sl, .int .u8 kd, .slice a' ag.length cap', .bool de] 108)) P a cap a' cap' (ExAt.keep (Kept.of HB.out) (fun _ hk _ => hk) _ _ h1) (ExAt.keep (Kept.of HB.out) (fun _ hk _ => hk) _ _ h2) (by rw [rngE] at hr; have := hr.2.2; omega) (by rw [rngE] at hr; exact hr.2.1))
  clear h1 h2 hr
  go_enter Tryz.func43, Tryz.ntmps43
  go_wp2_with (go_at_call 9; refine SX.out.mono ?_; rintro e w2 ⟨rfl, hz⟩)
  go_ret
  exact ⟨rfl, HB.out.trans (hz.mono HB.out.size)⟩
set_option maxRecDepth 100000 in
theorem eg_sameOrder (args : Array Value) (w : World) : (callFunc 43 args).run Tryz.prog w = .ok (.enter 43 args) w := rfl
set_option maxRecDepth 100000 in
set_option maxHeartbeats 3200000 in
theorem eqf_ord (l : List Ps.Ord) (hrl : ∀ y ∈ l, rngE y.x) (w : World) (lo : Nat) (a : Option Addr) (cap : Nat) (a' : Option Addr) (cap' : Nat) (hV : listIs ordCod lo w l (.slice a l.length cap)) (hV' : listIs ordCod lo w l (.slice a' l.length cap')) (hl : l.length ≤ 1000000) : Calls Tryz.prog 42 #[.slice a l.length cap, .slice a' l.length cap', .func (.func 43) #[] #[]] w fun e w' => e = .returned (.bool true) ∧ Below w.heap.size w w' := by
  have EG := eg_sameOrder
  have H1 := hide hV
  have H2 := hide hV'
  have HR := hide hrl
  clear hV hV' hrl
  go_enter Tryz.func42, Tryz.ntmps42
  go_wp2_with (fail)
  go_loopw [17] (fun i wr => ∃ m : Nat, i = .int .i64 m ∧ m ≤ l.length ∧ Below w.heap.size w wr) (fun i _ => l.length - (intOf i).toNat)
  case atStart => exact ⟨0, rfl, Nat.zero_le _, Below.refl _ _⟩
  case round =>
    obtain ⟨m, rfl, hm, hb⟩ := hrel
    have hi0 : (0 : Int) ≤ (m : Int) := Int.natCast_nonneg m
    by_cases hlt : m < l.length
    · obtain ⟨y, hy⟩ : ∃ y, l[m]? = some y := ⟨_, List.getElem?_eq_getElem hlt⟩
      have hi1 : (m : Int) < (l.length : Int) := by exact_mod_cast hlt
      have HRY := HR.out y (List.mem_of_getElem? hy)
      obtain ⟨b, off, S, rfl, hb1, hc, hat⟩ := list_nth len_ord H1.out hy (by decide)
      obtain ⟨b2, off2, S2, rfl, hb2, hc2, hat2⟩ := list_nth len_ord H2.out hy (by decide)
      obtain ⟨⟨o, ⟨k, n, t⟩, tb, nm, sl, kd, ag⟩, de⟩ := y
      replace hat : ExAt (Fr lo) w (.mk o ⟨k, n, t⟩ tb nm sl kd ag) S := hat
      replace hat2 : ExAt (Fr lo) w (.mk o ⟨k, n, t⟩ tb nm sl kd ag) S2 := hat2
      obtain ⟨a3, c3, rfl⟩ := ExAt.slice hat
      obtain ⟨a4, c4, rfl⟩ := ExAt.slice hat2
      have hcw : ∀ j, j < 10 → wr.cell? ⟨b, off + m * 10 + j, none⟩ = #[.int .u8 o, .int .u8 k, .int .i64 n, .string t, .string ⟨tb.toArray⟩, .string ⟨nm.toArray⟩, .int .i64 sl, .int .u8 kd, .slice a3 ag.length c3, .bool de].toList[j]? := fun j hj => (World.cell?_of_block (w := w) (hb.block b hb1)).trans (hc j hj)
      have hcw2 : ∀ j, j < 10 → wr.cell? ⟨b2, off2 + m * 10 + j, none⟩ = #[.int .u8 o, .int .u8 k, .int .i64 n, .string t, .string ⟨tb.toArray⟩, .string ⟨nm.toArray⟩, .int .i64 sl, .int .u8 kd, .slice a4 ag.length c4, .bool de].toList[j]? := fun j hj => (World.cell?_of_block (w := w) (hb.block b2 hb2)).trans (hc2 j hj)
      have ya0 := hcw 0 (by decide); have ya1 := hcw 1 (by decide); have ya2 := hcw 2 (by decide); have ya3 := hcw 3 (by decide); have ya4 := hcw 4 (by decide); have ya5 := hcw 5 (by decide); have ya6 := hcw 6 (by decide); have ya7 := hcw 7 (by decide); have ya8 := hcw 8 (by decide); have ya9 := hcw 9 (by decide)
      have za0 := hcw2 0 (by decide); have za1 := hcw2 1 (by decide); have za2 := hcw2 2 (by decide); have za3 := hcw2 3 (by decide); have za4 := hcw2 4 (by decide); have za5 := hcw2 5 (by decide); have za6 := hcw2 6 (by decide); have za7 := hcw2 7 (by decide); have za8 := hcw2 8 (by decide); have za9 := hcw2 9 (by decide)
      simp only [List.getElem?_cons_zero, List.getElem?_cons_succ, Nat.add_zero] at ya0 za0 ya1 za1 ya2 za2 ya3 za3 ya4 za4 ya5 za5 ya6 za6 ya7 za7 ya8 za8 ya9 za9
      have hsz := hb.size
      have q1 : ¬ b = wr.heap.size := by omega
      have q2 : ¬ wr.heap.size = b := by omega
      have q3 : ¬ b2 = wr.heap.size := by omega
      have q4 : ¬ wr.heap.size = b2 := by omega
      have q5 : b < wr.heap.size := by omega
      have q6 : b2 < wr.heap.size := by omega
      have HB := hide ((hb.alloc hsz (.cells #[.int .u8 o, .int .u8 k, .int .i64 n, .string t, .string ⟨tb.toArray⟩, .string ⟨nm.toArray⟩, .int .i64 sl, .int .u8 kd, .slice a3 ag.length c3, .bool de] 108)).alloc (by simp; omega) (.cells #[.int .u8 o, .int .u8 k, .int .i64 n, .string t, .string ⟨tb.toArray⟩, .string ⟨nm.toArray⟩, .int .i64 sl, .int .u8 kd, .slice a4 ag.length c4, .bool de] 108))
      have hkp : Kept (Fr lo) w ((wr.alloc (.cells #[.int .u8 o, .int .u8 k, .int .i64 n, .string t, .string ⟨tb.toArray⟩, .string ⟨nm.toArray⟩, .int .i64 sl, .int .u8 kd, .slice a3 ag.length c3, .bool de] 108)).alloc (.cells #[.int .u8 o, .int .u8 k, .int .i64 n, .string t, .string ⟨tb.toArray⟩, .string ⟨nm.toArray⟩, .int .i64 sl, .int .u8 kd, .slice a4 ag.length c4, .bool de] 108)) := fun i _ hi => HB.out.block i hi
      have SX := hide (sameOrder_ok de o k n t tb nm sl kd ag _ (Fr lo) a3 c3 a4 c4 (ExAt.keep hkp (fun _ hk _ => hk) _ _ hat) (ExAt.keep hkp (fun _ hk _ => hk) _ _ hat2) HRY)
      clear hc hc2 hat hat2 HRY hcw hcw2 hkp H1 H2 HR hb hb1 hb2 hsz hy
      go_wp2_with (guard_target =~ Calls _ _ _ _ _; refine SX.out.mono ?_; rintro e w2 ⟨rfl, hz⟩)
      exact ⟨⟨m + 1, by simp, by omega, HB.out.trans (hz.mono HB.out.size)⟩, by simp only [intOf]; omega⟩
    · obtain rfl : m = l.length := by omega
      clear H1 H2 HR
      go_wp2_with (fail)
      go_ret
      exact ⟨rfl, hb⟩

theorem len_asg (x : Ps.Asg) (S : Value) : (asgCod.cells x S).length = 11 := by
  obtain ⟨an, ⟨o, ⟨k, n, t⟩, tb, nm, sl, kd, ag⟩, so⟩ := x
  rfl
set_option maxRecDepth 100000 in
set_option maxHeartbeats 1600000 in
theorem sameAssign_ok (an : List UInt8) (so : Int) (o k n : Int) (t : ByteArray) (tb nm : List UInt8) (sl kd : Int) (ag : List Ps.Ex) (w : World) (P : Nat → Prop) (a : Option Addr) (cap : Nat) (a' : Option Addr) (cap' : Nat) (h1 : ExAt P w (.mk o ⟨k, n, t⟩ tb nm sl kd ag) (.slice a ag.length cap)) (h2 : ExAt P w (.mk o ⟨k, n, t⟩ tb nm sl kd ag) (.slice a' ag.length cap')) (hr : rngE (.mk o ⟨k, n, t⟩ tb nm sl kd ag)) :
    Calls Tryz.prog 45 #[.agg #[.string ⟨an.toArray⟩, .int .u8 o, .int .u8 k, .int .i64 n, .string t, .string ⟨tb.toArray⟩, .string ⟨nm.toArray⟩, .int .i64 sl, .int .u8 kd, .slice a ag.length cap, .int .i64 so], .agg #[.string ⟨an.toArray⟩, .int .u8 o, .int .u8 k, .int .i64 n, .string t, .string ⟨tb.toArray⟩, .string ⟨nm.toArray⟩, .int .i64 sl, .int .u8 kd, .slice a' ag.length cap', .int .i64 so]] w fun e w' => e = .returned (.bool true) ∧ Below w.heap.size w w' := by
  have HB := hide (((Below.refl w.heap.size w).alloc (Nat.le_refl _) (.cells #[.string ⟨an.toArray⟩, .int .u8 o, .int .u8 k, .int .i64 n, .string t, .string ⟨tb.toArray⟩, .string ⟨nm.toArray⟩, .int .i64 sl, .int .u8 kd, .slice a ag.length cap, .int .i64 so] 112)).alloc (by simp) (.cells #[.string ⟨an.toArray⟩, .int .u8 o, .int .u8 k, .int .i64 n, .string t, .string ⟨tb.toArray⟩, .string ⟨nm.toArray⟩, .int .i64 sl, .int .u8 kd, .slice a' ag.length cap', .int .i64 so] 112))
  have SX := hide (sames_all (.mk o ⟨k, n, t⟩ tb nm sl kd ag) ((w.alloc (.cells #[.string ⟨an.toArray⟩, .int .u8 o, .int .u8 k, .int .i64 n, .string t, .string ⟨tb.toArray⟩, .string ⟨nm.toArray⟩, .int .i64 sl, .int .u8 kd, .slice a ag.length cap, .int .i64 so] 112)).alloc (.cells #[.string ⟨an.toArray⟩, .int .u8 o, .int .u8 k, .int .i64 n, .string t, .string ⟨tb.toArray⟩, .string ⟨nm.toArray⟩, .int .i64 sl, .int .u8 kd, .slice a' ag.length cap', .int .i64 so] 112)) P a cap a' cap' (ExAt.keep (Kept.of HB.out) (fun _ hk _ => hk) _ _ h1) (ExAt.keep (Kept.of HB.out) (fun _ hk _ => hk) _ _ h2) (by rw [rngE] at hr; have := hr.2.2; omega) (by rw [rngE] at hr; exact hr.2.1))
  clear h1 h2 hr
  go_enter Tryz.func45, Tryz.ntmps45
  go_wp2_with (go_at_call 9; refine SX.out.mono ?_; rintro e w2 ⟨rfl, hz⟩)
  go_ret
  exact ⟨rfl, HB.out.trans (hz.mono HB.out.size)⟩
set_option maxRecDepth 100000 in
theorem eg_sameAssign (args : Array Value) (w : World) : (callFunc 45 args).run Tryz.prog w = .ok (.enter 45 args) w := rfl
set_option maxRecDepth 100000 in
set_option maxHeartbeats 3200000 in
theorem eqf_asg (l : List Ps.Asg) (hrl : ∀ y ∈ l, rngE y.x) (w : World) (lo : Nat) (a : Option Addr) (cap : Nat) (a' : Option Addr) (cap' : Nat) (hV : listIs asgCod lo w l (.slice a l.length cap)) (hV' : listIs asgCod lo w l (.slice a' l.length cap')) (hl : l.length ≤ 1000000) : Calls Tryz.prog 44 #[.slice a l.length cap, .slice a' l.length cap', .func (.func 45) #[] #[]] w fun e w' => e = .returned (.bool true) ∧ Below w.heap.size w w' := by
  have EG := eg_sameAssign
  have H1 := hide hV
  have H2 := hide hV'
  have HR := hide hrl
  clear hV hV' hrl
  go_enter Tryz.func44, Tryz.ntmps44
  go_wp2_with (fail)
  go_loopw [17] (fun i wr => ∃ m : Nat, i = .int .i64 m ∧ m ≤ l.length ∧ Below w.heap.size w wr) (fun i _ => l.length - (intOf i).toNat)
  case atStart => exact ⟨0, rfl, Nat.zero_le _, Below.refl _ _⟩
  case round =>
    obtain ⟨m, rfl, hm, hb⟩ := hrel
    have hi0 : (0 : Int) ≤ (m : Int) := Int.natCast_nonneg m
    by_cases hlt : m < l.length
    · obtain ⟨y, hy⟩ : ∃ y, l[m]? = some y := ⟨_, List.getElem?_eq_getElem hlt⟩
      have hi1 : (m : Int) < (l.length : Int) := by exact_mod_cast hlt
      have HRY := HR.out y (List.mem_of_getElem? hy)
      obtain ⟨b, off, S, rfl, hb1, hc, hat⟩ := list_nth len_asg H1.out hy (by decide)
      obtain ⟨b2, off2, S2, rfl, hb2, hc2, hat2⟩ := list_nth len_asg H2.out hy (by decide)
      obtain ⟨an, ⟨o, ⟨k, n, t⟩, tb, nm, sl, kd, ag⟩, so⟩ := y
      replace hat : ExAt (Fr lo) w (.mk o ⟨k, n, t⟩ tb nm sl kd ag) S := hat
      replace hat2 : ExAt (Fr lo) w (.mk o ⟨k, n, t⟩ tb nm sl kd ag) S2 := hat2
      obtain ⟨a3, c3, rfl⟩ := ExAt.slice hat
      obtain ⟨a4, c4, rfl⟩ := ExAt.slice hat2
      have hcw : ∀ j, j < 11 → wr.cell? ⟨b, off + m * 11 + j, none⟩ = #[.string ⟨an.toArray⟩, .int .u8 o, .int .u8 k, .int .i64 n, .string t, .string ⟨tb.toArray⟩, .string ⟨nm.toArray⟩, .int .i64 sl, .int .u8 kd, .slice a3 ag.length c3, .int .i64 so].toList[j]? := fun j hj => (World.cell?_of_block (w := w) (hb.block b hb1)).trans (hc j hj)
      have hcw2 : ∀ j, j < 11 → wr.cell? ⟨b2, off2 + m * 11 + j, none⟩ = #[.string ⟨an.toArray⟩, .int .u8 o, .int .u8 k, .int .i64 n, .string t, .string ⟨tb.toArray⟩, .string ⟨nm.toArray⟩, .int .i64 sl, .int .u8 kd, .slice a4 ag.length c4, .int .i64 so].toList[j]? := fun j hj => (World.cell?_of_block (w := w) (hb.block b2 hb2)).trans (hc2 j hj)
      have ya0 := hcw 0 (by decide); have ya1 := hcw 1 (by decide); have ya2 := hcw 2 (by decide); have ya3 := hcw 3 (by decide); have ya4 := hcw 4 (by decide); have ya5 := hcw 5 (by decide); have ya6 := hcw 6 (by decide); have ya7 := hcw 7 (by decide); have ya8 := hcw 8 (by decide); have ya9 := hcw 9 (by decide); have ya10 := hcw 10 (by decide)
      have za0 := hcw2 0 (by decide); have za1 := hcw2 1 (by decide); have za2 := hcw2 2 (by decide); have za3 := hcw2 3 (by decide); have za4 := hcw2 4 (by decide); have za5 := hcw2 5 (by decide); have za6 := hcw2 6 (by decide); have za7 := hcw2 7 (by decide); have za8 := hcw2 8 (by decide); have za9 := hcw2 9 (by decide); have za10 := hcw2 10 (by decide)
      simp only [List.getElem?_cons_zero, List.getElem?_cons_succ, Nat.add_zero] at ya0 za0 ya1 za1 ya2 za2 ya3 za3 ya4 za4 ya5 za5 ya6 za6 ya7 za7 ya8 za8 ya9 za9 ya10 za10
      have hsz := hb.size
      have q1 : ¬ b = wr.heap.size := by omega
      have q2 : ¬ wr.heap.size = b := by omega
      have q3 : ¬ b2 = wr.heap.size := by omega
      have q4 : ¬ wr.heap.size = b2 := by omega
      have q5 : b < wr.heap.size := by omega
      have q6 : b2 < wr.heap.size := by omega
      have HB := hide ((hb.alloc hsz (.cells #[.string ⟨an.toArray⟩, .int .u8 o, .int .u8 k, .int .i64 n, .string t, .string ⟨tb.toArray⟩, .string ⟨nm.toArray⟩, .int .i64 sl, .int .u8 kd, .slice a3 ag.length c3, .int .i64 so] 112)).alloc (by simp; omega) (.cells #[.string ⟨an.toArray⟩, .int .u8 o, .int .u8 k, .int .i64 n, .string t, .string ⟨tb.toArray⟩, .string ⟨nm.toArray⟩, .int .i64 sl, .int .u8 kd, .slice a4 ag.length c4, .int .i64 so] 112))
      have hkp : Kept (Fr lo) w ((wr.alloc (.cells #[.string ⟨an.toArray⟩, .int .u8 o, .int .u8 k, .int .i64 n, .string t, .string ⟨tb.toArray⟩, .string ⟨nm.toArray⟩, .int .i64 sl, .int .u8 kd, .slice a3 ag.length c3, .int .i64 so] 112)).alloc (.cells #[.string ⟨an.toArray⟩, .int .u8 o, .int .u8 k, .int .i64 n, .string t, .string ⟨tb.toArray⟩, .string ⟨nm.toArray⟩, .int .i64 sl, .int .u8 kd, .slice a4 ag.length c4, .int .i64 so] 112)) := fun i _ hi => HB.out.block i hi
      have SX := hide (sameAssign_ok an so o k n t tb nm sl kd ag _ (Fr lo) a3 c3 a4 c4 (ExAt.keep hkp (fun _ hk _ => hk) _ _ hat) (ExAt.keep hkp (fun _ hk _ => hk) _ _ hat2) HRY)
      clear hc hc2 hat hat2 HRY hcw hcw2 hkp H1 H2 HR hb hb1 hb2 hsz hy
      go_wp2_with (guard_target =~ Calls _ _ _ _ _; refine SX.out.mono ?_; rintro e w2 ⟨rfl, hz⟩)
      exact ⟨⟨m + 1, by simp, by omega, HB.out.trans (hz.mono HB.out.size)⟩, by simp only [intOf]; omega⟩
    · obtain rfl : m = l.length := by omega
      clear H1 H2 HR
      go_wp2_with (fail)
      go_ret
      exact ⟨rfl, hb⟩
end Go.Proofs.YtedamaccflhmfaaGreatDoor
