/-
  Package parser: Same of two that are the same.
-/
import Derived.Test.YtedamaccflhmfaaGreatDoorPsYc
namespace Go.Proofs.YtedamaccflhmfaaGreatDoor
open Go.RowKit
attribute [local go_sem ↓] Go.wp_at_zero Go.wp_at_succ

set_option maxRecDepth 100000 in
theorem eg_sameList (args : Array Value) (w : World) : (callFunc 21 args).run Tryz.prog w = .ok (.enter 21 args) w := rfl
theorem len_row (x : List Ps.Ex) (S : Value) : (rowCod.cells x S).length = 1 := rfl
theorem len_str (x : List UInt8) (S : Value) : (strCod.cells x S).length = 1 := rfl
theorem len_col (x : Ps.Col) (S : Value) : (colCod.cells x S).length = 3 := rfl
set_option maxRecDepth 100000 in
set_option maxHeartbeats 1600000 in
theorem eqf_row (l : List (List Ps.Ex)) (hrl : ∀ y ∈ l, rngL y ∧ y.length ≤ 1000000) (w : World) (lo : Nat) (a : Option Addr) (cap : Nat) (a' : Option Addr) (cap' : Nat) (hV : listIs rowCod lo w l (.slice a l.length cap)) (hV' : listIs rowCod lo w l (.slice a' l.length cap')) (hl : l.length ≤ 1000000) : Calls Tryz.prog 37 #[.slice a l.length cap, .slice a' l.length cap', .func (.func 21) #[] #[]] w fun e w' => e = .returned (.bool true) ∧ Below w.heap.size w w' := by
  have EG := eg_sameList
  have H1 := hide hV
  have H2 := hide hV'
  have HR := hide hrl
  clear hV hV' hrl
  go_enter Tryz.func37, Tryz.ntmps37
  go_wp2_with (fail)
  go_loopw [17] (fun i wr => ∃ m : Nat, i = .int .i64 m ∧ m ≤ l.length ∧ Below w.heap.size w wr) (fun i _ => l.length - (intOf i).toNat)
  case atStart => exact ⟨0, rfl, Nat.zero_le _, Below.refl _ _⟩
  case round =>
    obtain ⟨m, rfl, hm, hb⟩ := hrel
    have hi0 : (0 : Int) ≤ (m : Int) := Int.natCast_nonneg m
    by_cases hlt : m < l.length
    · obtain ⟨y, hy⟩ : ∃ y, l[m]? = some y := ⟨_, List.getElem?_eq_getElem hlt⟩
      have hi1 : (m : Int) < (l.length : Int) := by exact_mod_cast hlt
      have HRY := HR.out y (List.mem_of_getElem? hy)
      obtain ⟨b, off, S, rfl, hb1, hc, hat⟩ := list_nth len_row H1.out hy (by decide)
      obtain ⟨b2, off2, S2, rfl, hb2, hc2, hat2⟩ := list_nth len_row H2.out hy (by decide)
      obtain ⟨a3, c3, rfl, h3⟩ := (show ExsIn (Fr lo) w y S from hat)
      obtain ⟨a4, c4, rfl, h4⟩ := (show ExsIn (Fr lo) w y S2 from hat2)
      have ya := (World.cell?_of_block (a := ⟨b, off + m * 1 + 0, none⟩) (w := w) (hb.block b hb1)).trans (hc 0 (by decide))
      have za := (World.cell?_of_block (a := ⟨b2, off2 + m * 1 + 0, none⟩) (w := w) (hb.block b2 hb2)).trans (hc2 0 (by decide))
      rw [Nat.mul_one, Nat.add_zero] at ya za
      replace ya : wr.cell? ⟨b, off + m, none⟩ = some (.slice a3 y.length c3) := ya
      replace za : wr.cell? ⟨b2, off2 + m, none⟩ = some (.slice a4 y.length c4) := za
      have HB := hide hb
      have hkp : Kept (Fr lo) w wr := fun i _ hi => hb.block i hi
      have SX := hide (sameList_of y (fun z _ => sames_all z) HRY.1 wr (Fr lo) a3 c3 a4 c4 (ExsIn.keep ⟨a3, c3, rfl, h3⟩ hkp (fun _ hk _ => hk)) (ExsIn.keep ⟨a4, c4, rfl, h4⟩ hkp (fun _ hk _ => hk)) HRY.2)
      clear hc hc2 hat hat2 HRY hkp H1 H2 HR hb hb1 hb2 hy h3 h4
      go_wp2_with (guard_target =~ Calls _ _ _ _ _; refine SX.out.mono ?_; rintro e w2 ⟨rfl, hz⟩)
      exact ⟨⟨m + 1, by simp, by omega, HB.out.trans (hz.mono HB.out.size)⟩, by simp only [intOf]; omega⟩
    · obtain rfl : m = l.length := by omega
      clear H1 H2 HR
      go_wp2_with (fail)
      go_ret
      exact ⟨rfl, hb⟩
set_option maxRecDepth 100000 in
set_option maxHeartbeats 1600000 in
theorem eq_str (l : List (List UInt8)) (w : World) (lo : Nat) (a : Option Addr) (cap : Nat) (a' : Option Addr) (cap' : Nat) (hV : listIs strCod lo w l (.slice a l.length cap)) (hV' : listIs strCod lo w l (.slice a' l.length cap')) (hl : l.length ≤ 1000000) : Calls Tryz.prog 36 #[.slice a l.length cap, .slice a' l.length cap'] w fun e w' => e = .returned (.bool true) ∧ Below w.heap.size w w' := by
  have H1 := hide hV
  have H2 := hide hV'
  clear hV hV'
  go_enter Tryz.func36, Tryz.ntmps36
  go_wp2_with (fail)
  go_loopw [13] (fun i wr => ∃ m : Nat, i = .int .i64 m ∧ m ≤ l.length ∧ Below w.heap.size w wr) (fun i _ => l.length - (intOf i).toNat)
  case atStart => exact ⟨0, rfl, Nat.zero_le _, Below.refl _ _⟩
  case round =>
    obtain ⟨m, rfl, hm, hb⟩ := hrel
    have hi0 : (0 : Int) ≤ (m : Int) := Int.natCast_nonneg m
    by_cases hlt : m < l.length
    · obtain ⟨y, hy⟩ : ∃ y, l[m]? = some y := ⟨_, List.getElem?_eq_getElem hlt⟩
      have hi1 : (m : Int) < (l.length : Int) := by exact_mod_cast hlt
      obtain ⟨b, off, S, rfl, hb1, hc, hat⟩ := list_nth len_str H1.out hy (by decide)
      obtain ⟨b2, off2, S2, rfl, hb2, hc2, hat2⟩ := list_nth len_str H2.out hy (by decide)
      have ya := (World.cell?_of_block (a := ⟨b, off + m * 1 + 0, none⟩) (w := w) (hb.block b hb1)).trans (hc 0 (by decide))
      have za := (World.cell?_of_block (a := ⟨b2, off2 + m * 1 + 0, none⟩) (w := w) (hb.block b2 hb2)).trans (hc2 0 (by decide))
      rw [Nat.mul_one, Nat.add_zero] at ya za
      replace ya : wr.cell? ⟨b, off + m, none⟩ = some (.string ⟨y.toArray⟩) := ya
      replace za : wr.cell? ⟨b2, off2 + m, none⟩ = some (.string ⟨y.toArray⟩) := za
      have HB := hide hb.drew
      clear hc hc2 hat hat2 H1 H2 hb hb1 hb2 hy
      go_wp2_with (fail)
      go_region
      all_goals go_wp2_with (fail)
      all_goals exact ⟨⟨m + 1, by simp, by omega, HB.out⟩, by simp only [intOf]; omega⟩
    · obtain rfl : m = l.length := by omega
      clear H1 H2
      go_wp2_with (fail)
      go_ret
      exact ⟨rfl, hb⟩
set_option maxRecDepth 100000 in
set_option maxHeartbeats 1600000 in
theorem eq_col (l : List (Ps.Col)) (w : World) (lo : Nat) (a : Option Addr) (cap : Nat) (a' : Option Addr) (cap' : Nat) (hV : listIs colCod lo w l (.slice a l.length cap)) (hV' : listIs colCod lo w l (.slice a' l.length cap')) (hl : l.length ≤ 1000000) : Calls Tryz.prog 35 #[.slice a l.length cap, .slice a' l.length cap'] w fun e w' => e = .returned (.bool true) ∧ Below w.heap.size w w' := by
  have H1 := hide hV
  have H2 := hide hV'
  clear hV hV'
  go_enter Tryz.func35, Tryz.ntmps35
  go_wp2_with (fail)
  go_loopw [13] (fun i wr => ∃ m : Nat, i = .int .i64 m ∧ m ≤ l.length ∧ Below w.heap.size w wr) (fun i _ => l.length - (intOf i).toNat)
  case atStart => exact ⟨0, rfl, Nat.zero_le _, Below.refl _ _⟩
  case round =>
    obtain ⟨m, rfl, hm, hb⟩ := hrel
    have hi0 : (0 : Int) ≤ (m : Int) := Int.natCast_nonneg m
    by_cases hlt : m < l.length
    · obtain ⟨y, hy⟩ : ∃ y, l[m]? = some y := ⟨_, List.getElem?_eq_getElem hlt⟩
      have hi1 : (m : Int) < (l.length : Int) := by exact_mod_cast hlt
      obtain ⟨b, off, S, rfl, hb1, hc, hat⟩ := list_nth len_col H1.out hy (by decide)
      obtain ⟨b2, off2, S2, rfl, hb2, hc2, hat2⟩ := list_nth len_col H2.out hy (by decide)
      obtain ⟨cn, ck, cb⟩ := y
      have hcw : ∀ j, j < 3 → wr.cell? ⟨b, off + m * 3 + j, none⟩ = #[Value.string ⟨cn.toArray⟩, .int .u8 ck, .bool cb].toList[j]? := fun j hj => (World.cell?_of_block (w := w) (hb.block b hb1)).trans (hc j hj)
      have hcw2 : ∀ j, j < 3 → wr.cell? ⟨b2, off2 + m * 3 + j, none⟩ = #[Value.string ⟨cn.toArray⟩, .int .u8 ck, .bool cb].toList[j]? := fun j hj => (World.cell?_of_block (w := w) (hb.block b2 hb2)).trans (hc2 j hj)
      have ya0 := hcw 0 (by decide); have ya1 := hcw 1 (by decide); have ya2 := hcw 2 (by decide)
      have za0 := hcw2 0 (by decide); have za1 := hcw2 1 (by decide); have za2 := hcw2 2 (by decide)
      simp only [List.getElem?_cons_zero, List.getElem?_cons_succ, Nat.add_zero] at ya0 ya1 ya2 za0 za1 za2
      clear hcw hcw2
      have HB := hide hb.drew
      clear hc hc2 hat hat2 H1 H2 hb hb1 hb2 hy
      go_wp2_with (fail)
      go_region
      all_goals go_wp2_with (fail)
      all_goals exact ⟨⟨m + 1, by simp, by omega, HB.out⟩, by simp only [intOf]; omega⟩
    · obtain rfl : m = l.length := by omega
      clear H1 H2
      go_wp2_with (fail)
      go_ret
      exact ⟨rfl, hb⟩
/-- All that is in a statement is within bounds. -/
structure StR (s : Ps.St) : Prop where
  cols : s.cols.length ≤ 1000000
  key : s.key.length ≤ 1000000
  names : s.names.length ≤ 1000000
  rows : s.rows.length ≤ 1000000 ∧ ∀ y ∈ s.rows, rngL y ∧ y.length ≤ 1000000
  items : s.items.length ≤ 1000000 ∧ ∀ y ∈ s.items, rngE y.x
  src : s.src.length ≤ 1000000 ∧ ∀ y ∈ s.src, rngE y.on'
  wh : rngE s.wh
  group : s.group.length ≤ 1000000 ∧ rngL s.group
  order : s.order.length ≤ 1000000 ∧ ∀ y ∈ s.order, rngE y.x
  sets : s.sets.length ≤ 1000000 ∧ ∀ y ∈ s.sets, rngE y.x
theorem group_in {lo : Nat} {w : World} {l : List Ps.Ex} {a : Option Addr} {cap : Nat} (h : listIs exCod lo w l (.slice a l.length cap)) : ExsIn (Fr lo) w l (.slice a l.length cap) := by
  obtain ⟨a0, c0, c, e, hl, hf⟩ := h
  injection e with e1 _ e2
  subst e1 e2
  refine ⟨a, cap, rfl, fun hne => ?_⟩
  obtain ⟨b, off, ea, hlo, hcs⟩ := hf hne
  refine ⟨b, off, ea, hlo, ?_⟩
  clear hf ea hne
  have key : ∀ (l : List Ps.Ex) (c : List Value) (off : Nat), exCod.lies (Fr lo) w l c → (∀ i, i < c.length → w.cell? ⟨b, off + i, none⟩ = c[i]?) → ExsAt (Fr lo) w l b off := by
    intro l
    induction l with
    | nil => intro c off _ _; rw [ExsAt]; trivial
    | cons x r ih =>
      intro c off hl hcs
      obtain ⟨S, c', rfl, hx, hr⟩ := hl
      have h9 : (exC x S).length = 9 := exC_len x S
      rw [ExsAt]
      refine ⟨⟨S, fun i hi => ?_, hx⟩, ih c' (off + 9) hr fun i hi => ?_⟩
      · rw [hcs i (by rw [List.length_append]; show i < (exC x S).length + _; omega)]
        exact List.getElem?_append_left (by show i < (exC x S).length; omega)
      · have := hcs (9 + i) (by rw [List.length_append]; show 9 + i < (exC x S).length + _; omega)
        rw [show off + 9 + i = off + (9 + i) from by omega, this, List.getElem?_append_right (by show (exC x S).length ≤ 9 + i; omega)]
        show c'[9 + i - (exC x S).length]? = _
        rw [h9, Nat.add_sub_cancel_left]
  exact key l c off hl hcs
set_option maxRecDepth 100000 in
set_option maxHeartbeats 6400000 in
theorem Same_laid (w : World) (lo : Nat) (kind : Int) (snm stb : List UInt8) (cols : List Ps.Col) (key : List (List UInt8)) (uniq : Bool) (names : List (List UInt8)) (rows : List (List Ps.Ex)) (items : List Ps.Item) (src : List Ps.Src) (o k n : Int) (t : ByteArray) (tb nm : List UInt8) (sl kd : Int) (ag : List Ps.Ex) (group : List Ps.Ex) (order : List Ps.Ord) (limit : Int) (sets : List Ps.Asg) (a_cols1 : Option Addr) (c_cols1 : Nat) (a_cols2 : Option Addr) (c_cols2 : Nat) (a_key1 : Option Addr) (c_key1 : Nat) (a_key2 : Option Addr) (c_key2 : Nat) (a_names1 : Option Addr) (c_names1 : Nat) (a_names2 : Option Addr) (c_names2 : Nat) (a_rows1 : Option Addr) (c_rows1 : Nat) (a_rows2 : Option Addr) (c_rows2 : Nat) (a_items1 : Option Addr) (c_items1 : Nat) (a_items2 : Option Addr) (c_items2 : Nat) (a_src1 : Option Addr) (c_src1 : Nat) (a_src2 : Option Addr) (c_src2 : Nat) (a_wh1 : Option Addr) (c_wh1 : Nat) (a_wh2 : Option Addr) (c_wh2 : Nat) (a_group1 : Option Addr) (c_group1 : Nat) (a_group2 : Option Addr) (c_group2 : Nat) (a_order1 : Option Addr) (c_order1 : Nat) (a_order2 : Option Addr) (c_order2 : Nat) (a_sets1 : Option Addr) (c_sets1 : Nat) (a_sets2 : Option Addr) (c_sets2 : Nat)
    (h1 : StAt lo w { kind := kind, nm := snm, tb := stb, cols := cols, key := key, uniq := uniq, names := names, rows := rows, items := items, src := src, wh := (.mk o ⟨k, n, t⟩ tb nm sl kd ag), group := group, order := order, limit := limit, sets := sets } ⟨.slice a_cols1 cols.length c_cols1, .slice a_key1 key.length c_key1, .slice a_names1 names.length c_names1, .slice a_rows1 rows.length c_rows1, .slice a_items1 items.length c_items1, .slice a_src1 src.length c_src1, .slice a_wh1 ag.length c_wh1, .slice a_group1 group.length c_group1, .slice a_order1 order.length c_order1, .slice a_sets1 sets.length c_sets1⟩) (h2 : StAt lo w { kind := kind, nm := snm, tb := stb, cols := cols, key := key, uniq := uniq, names := names, rows := rows, items := items, src := src, wh := (.mk o ⟨k, n, t⟩ tb nm sl kd ag), group := group, order := order, limit := limit, sets := sets } ⟨.slice a_cols2 cols.length c_cols2, .slice a_key2 key.length c_key2, .slice a_names2 names.length c_names2, .slice a_rows2 rows.length c_rows2, .slice a_items2 items.length c_items2, .slice a_src2 src.length c_src2, .slice a_wh2 ag.length c_wh2, .slice a_group2 group.length c_group2, .slice a_order2 order.length c_order2, .slice a_sets2 sets.length c_sets2⟩) (hr : StR { kind := kind, nm := snm, tb := stb, cols := cols, key := key, uniq := uniq, names := names, rows := rows, items := items, src := src, wh := (.mk o ⟨k, n, t⟩ tb nm sl kd ag), group := group, order := order, limit := limit, sets := sets }) : Calls Tryz.prog 17 #[.agg #[.int .u8 kind, .string ⟨snm.toArray⟩, .string ⟨stb.toArray⟩, .slice a_cols1 cols.length c_cols1, .slice a_key1 key.length c_key1, .bool uniq, .slice a_names1 names.length c_names1, .slice a_rows1 rows.length c_rows1, .slice a_items1 items.length c_items1, .slice a_src1 src.length c_src1, .int .u8 o, .int .u8 k, .int .i64 n, .string t, .string ⟨tb.toArray⟩, .string ⟨nm.toArray⟩, .int .i64 sl, .int .u8 kd, .slice a_wh1 ag.length c_wh1, .slice a_group1 group.length c_group1, .slice a_order1 order.length c_order1, .int .i64 limit, .slice a_sets1 sets.length c_sets1], .agg #[.int .u8 kind, .string ⟨snm.toArray⟩, .string ⟨stb.toArray⟩, .slice a_cols2 cols.length c_cols2, .slice a_key2 key.length c_key2, .bool uniq, .slice a_names2 names.length c_names2, .slice a_rows2 rows.length c_rows2, .slice a_items2 items.length c_items2, .slice a_src2 src.length c_src2, .int .u8 o, .int .u8 k, .int .i64 n, .string t, .string ⟨tb.toArray⟩, .string ⟨nm.toArray⟩, .int .i64 sl, .int .u8 kd, .slice a_wh2 ag.length c_wh2, .slice a_group2 group.length c_group2, .slice a_order2 order.length c_order2, .int .i64 limit, .slice a_sets2 sets.length c_sets2]] w fun e w' => e = .returned (.bool true) ∧ Below w.heap.size w w' := by
  have HB := hide (((Below.refl w.heap.size w).alloc (Nat.le_refl _) (.cells #[.int .u8 kind, .string ⟨snm.toArray⟩, .string ⟨stb.toArray⟩, .slice a_cols1 cols.length c_cols1, .slice a_key1 key.length c_key1, .bool uniq, .slice a_names1 names.length c_names1, .slice a_rows1 rows.length c_rows1, .slice a_items1 items.length c_items1, .slice a_src1 src.length c_src1, .int .u8 o, .int .u8 k, .int .i64 n, .string t, .string ⟨tb.toArray⟩, .string ⟨nm.toArray⟩, .int .i64 sl, .int .u8 kd, .slice a_wh1 ag.length c_wh1, .slice a_group1 group.length c_group1, .slice a_order1 order.length c_order1, .int .i64 limit, .slice a_sets1 sets.length c_sets1] 38)).alloc (by simp) (.cells #[.int .u8 kind, .string ⟨snm.toArray⟩, .string ⟨stb.toArray⟩, .slice a_cols2 cols.length c_cols2, .slice a_key2 key.length c_key2, .bool uniq, .slice a_names2 names.length c_names2, .slice a_rows2 rows.length c_rows2, .slice a_items2 items.length c_items2, .slice a_src2 src.length c_src2, .int .u8 o, .int .u8 k, .int .i64 n, .string t, .string ⟨tb.toArray⟩, .string ⟨nm.toArray⟩, .int .i64 sl, .int .u8 kd, .slice a_wh2 ag.length c_wh2, .slice a_group2 group.length c_group2, .slice a_order2 order.length c_order2, .int .i64 limit, .slice a_sets2 sets.length c_sets2] 38))
  have Z0 : ((w.alloc (.cells #[.int .u8 kind, .string ⟨snm.toArray⟩, .string ⟨stb.toArray⟩, .slice a_cols1 cols.length c_cols1, .slice a_key1 key.length c_key1, .bool uniq, .slice a_names1 names.length c_names1, .slice a_rows1 rows.length c_rows1, .slice a_items1 items.length c_items1, .slice a_src1 src.length c_src1, .int .u8 o, .int .u8 k, .int .i64 n, .string t, .string ⟨tb.toArray⟩, .string ⟨nm.toArray⟩, .int .i64 sl, .int .u8 kd, .slice a_wh1 ag.length c_wh1, .slice a_group1 group.length c_group1, .slice a_order1 order.length c_order1, .int .i64 limit, .slice a_sets1 sets.length c_sets1] 38)).alloc (.cells #[.int .u8 kind, .string ⟨snm.toArray⟩, .string ⟨stb.toArray⟩, .slice a_cols2 cols.length c_cols2, .slice a_key2 key.length c_key2, .bool uniq, .slice a_names2 names.length c_names2, .slice a_rows2 rows.length c_rows2, .slice a_items2 items.length c_items2, .slice a_src2 src.length c_src2, .int .u8 o, .int .u8 k, .int .i64 n, .string t, .string ⟨tb.toArray⟩, .string ⟨nm.toArray⟩, .int .i64 sl, .int .u8 kd, .slice a_wh2 ag.length c_wh2, .slice a_group2 group.length c_group2, .slice a_order2 order.length c_order2, .int .i64 limit, .slice a_sets2 sets.length c_sets2] 38)).heap[w.heap.size]? = some (.cells #[.int .u8 kind, .string ⟨snm.toArray⟩, .string ⟨stb.toArray⟩, .slice a_cols1 cols.length c_cols1, .slice a_key1 key.length c_key1, .bool uniq, .slice a_names1 names.length c_names1, .slice a_rows1 rows.length c_rows1, .slice a_items1 items.length c_items1, .slice a_src1 src.length c_src1, .int .u8 o, .int .u8 k, .int .i64 n, .string t, .string ⟨tb.toArray⟩, .string ⟨nm.toArray⟩, .int .i64 sl, .int .u8 kd, .slice a_wh1 ag.length c_wh1, .slice a_group1 group.length c_group1, .slice a_order1 order.length c_order1, .int .i64 limit, .slice a_sets1 sets.length c_sets1] 38 (0, 0)) := alloc_keeps (heap_new rfl) _
  have Y0 : ((w.alloc (.cells #[.int .u8 kind, .string ⟨snm.toArray⟩, .string ⟨stb.toArray⟩, .slice a_cols1 cols.length c_cols1, .slice a_key1 key.length c_key1, .bool uniq, .slice a_names1 names.length c_names1, .slice a_rows1 rows.length c_rows1, .slice a_items1 items.length c_items1, .slice a_src1 src.length c_src1, .int .u8 o, .int .u8 k, .int .i64 n, .string t, .string ⟨tb.toArray⟩, .string ⟨nm.toArray⟩, .int .i64 sl, .int .u8 kd, .slice a_wh1 ag.length c_wh1, .slice a_group1 group.length c_group1, .slice a_order1 order.length c_order1, .int .i64 limit, .slice a_sets1 sets.length c_sets1] 38)).alloc (.cells #[.int .u8 kind, .string ⟨snm.toArray⟩, .string ⟨stb.toArray⟩, .slice a_cols2 cols.length c_cols2, .slice a_key2 key.length c_key2, .bool uniq, .slice a_names2 names.length c_names2, .slice a_rows2 rows.length c_rows2, .slice a_items2 items.length c_items2, .slice a_src2 src.length c_src2, .int .u8 o, .int .u8 k, .int .i64 n, .string t, .string ⟨tb.toArray⟩, .string ⟨nm.toArray⟩, .int .i64 sl, .int .u8 kd, .slice a_wh2 ag.length c_wh2, .slice a_group2 group.length c_group2, .slice a_order2 order.length c_order2, .int .i64 limit, .slice a_sets2 sets.length c_sets2] 38)).heap[w.heap.size + 1]? = some (.cells #[.int .u8 kind, .string ⟨snm.toArray⟩, .string ⟨stb.toArray⟩, .slice a_cols2 cols.length c_cols2, .slice a_key2 key.length c_key2, .bool uniq, .slice a_names2 names.length c_names2, .slice a_rows2 rows.length c_rows2, .slice a_items2 items.length c_items2, .slice a_src2 src.length c_src2, .int .u8 o, .int .u8 k, .int .i64 n, .string t, .string ⟨tb.toArray⟩, .string ⟨nm.toArray⟩, .int .i64 sl, .int .u8 kd, .slice a_wh2 ag.length c_wh2, .slice a_group2 group.length c_group2, .slice a_order2 order.length c_order2, .int .i64 limit, .slice a_sets2 sets.length c_sets2] 38 (0, 0)) := heap_new (by simp)
  have H1 := hide (fun wx (hb : Below w.heap.size w wx) => h1.keep (lo' := lo) (Kept.of hb) (Nat.le_refl _))
  have H2 := hide (fun wx (hb : Below w.heap.size w wx) => h2.keep (lo' := lo) (Kept.of hb) (Nat.le_refl _))
  have HR := hide hr
  clear h1 h2 hr
  go_enter Tryz.func17, Tryz.ntmps17
  go_wp2_with (first
    | (go_at_call 44; refine (eqf_asg sets HR.out.sets.2 _ lo _ _ _ _ (H1.out _ B9).sets (H2.out _ B9).sets HR.out.sets.1).mono ?_; rintro e w10 ⟨rfl, hz⟩; have B10 := B9.trans (hz.mono B9.size); have Z10 := (hz.block _ (Array.getElem?_eq_some_iff.1 Z9).1).trans Z9; have Y10 := (hz.block _ (Array.getElem?_eq_some_iff.1 Y9).1).trans Y9; clear hz)
    | (go_at_call 42; refine (eqf_ord order HR.out.order.2 _ lo _ _ _ _ (H1.out _ B8).order (H2.out _ B8).order HR.out.order.1).mono ?_; rintro e w9 ⟨rfl, hz⟩; have B9 := B8.trans (hz.mono B8.size); have Z9 := (hz.block _ (Array.getElem?_eq_some_iff.1 Z8).1).trans Z8; have Y9 := (hz.block _ (Array.getElem?_eq_some_iff.1 Y8).1).trans Y8; have u8_0 := Joins.cell_of_block Z9 22; have v8_0 := Joins.cell_of_block Y9 22; clear hz)
    | (go_at_call 21; refine (sameList_of group (fun z _ => sames_all z) HR.out.group.2 _ (Fr lo) _ _ _ _ (group_in (H1.out _ B7).group) (group_in (H2.out _ B7).group) HR.out.group.1).mono ?_; rintro e w8 ⟨rfl, hz⟩; have B8 := B7.trans (hz.mono B7.size); have Z8 := (hz.block _ (Array.getElem?_eq_some_iff.1 Z7).1).trans Z7; have Y8 := (hz.block _ (Array.getElem?_eq_some_iff.1 Y7).1).trans Y7; have u7_0 := Joins.cell_of_block Z8 20; have v7_0 := Joins.cell_of_block Y8 20; clear hz)
    | (go_at_call 9; refine (sames_all (.mk o ⟨k, n, t⟩ tb nm sl kd ag) _ (Fr lo) _ _ _ _ (H1.out _ B6).wh (H2.out _ B6).wh (by have := HR.out.wh; rw [rngE] at this; have := this.2.2; omega) (by have := HR.out.wh; rw [rngE] at this; exact this.2.1)).mono ?_; rintro e w7 ⟨rfl, hz⟩; have B7 := B6.trans (hz.mono B6.size); have Z7 := (hz.block _ (Array.getElem?_eq_some_iff.1 Z6).1).trans Z6; have Y7 := (hz.block _ (Array.getElem?_eq_some_iff.1 Y6).1).trans Y6; have u6_0 := Joins.cell_of_block Z7 19; have v6_0 := Joins.cell_of_block Y7 19; clear hz)
    | (go_at_call 40; refine (eqf_src src HR.out.src.2 _ lo _ _ _ _ (H1.out _ B5).src (H2.out _ B5).src HR.out.src.1).mono ?_; rintro e w6 ⟨rfl, hz⟩; have B6 := B5.trans (hz.mono B5.size); have Z6 := (hz.block _ (Array.getElem?_eq_some_iff.1 Z5).1).trans Z5; have Y6 := (hz.block _ (Array.getElem?_eq_some_iff.1 Y5).1).trans Y5; have u5_0 := Joins.cell_of_block Z6 10; have v5_0 := Joins.cell_of_block Y6 10; have u5_1 := Joins.cell_of_block Z6 11; have v5_1 := Joins.cell_of_block Y6 11; have u5_2 := Joins.cell_of_block Z6 12; have v5_2 := Joins.cell_of_block Y6 12; have u5_3 := Joins.cell_of_block Z6 13; have v5_3 := Joins.cell_of_block Y6 13; have u5_4 := Joins.cell_of_block Z6 14; have v5_4 := Joins.cell_of_block Y6 14; have u5_5 := Joins.cell_of_block Z6 15; have v5_5 := Joins.cell_of_block Y6 15; have u5_6 := Joins.cell_of_block Z6 16; have v5_6 := Joins.cell_of_block Y6 16; have u5_7 := Joins.cell_of_block Z6 17; have v5_7 := Joins.cell_of_block Y6 17; have u5_8 := Joins.cell_of_block Z6 18; have v5_8 := Joins.cell_of_block Y6 18; clear hz)
    | (go_at_call 38; refine (eqf_item items HR.out.items.2 _ lo _ _ _ _ (H1.out _ B4).items (H2.out _ B4).items HR.out.items.1).mono ?_; rintro e w5 ⟨rfl, hz⟩; have B5 := B4.trans (hz.mono B4.size); have Z5 := (hz.block _ (Array.getElem?_eq_some_iff.1 Z4).1).trans Z4; have Y5 := (hz.block _ (Array.getElem?_eq_some_iff.1 Y4).1).trans Y4; have u4_0 := Joins.cell_of_block Z5 9; have v4_0 := Joins.cell_of_block Y5 9; clear hz)
    | (go_at_call 37; refine (eqf_row rows HR.out.rows.2 _ lo _ _ _ _ (H1.out _ B3).rows (H2.out _ B3).rows HR.out.rows.1).mono ?_; rintro e w4 ⟨rfl, hz⟩; have B4 := B3.trans (hz.mono B3.size); have Z4 := (hz.block _ (Array.getElem?_eq_some_iff.1 Z3).1).trans Z3; have Y4 := (hz.block _ (Array.getElem?_eq_some_iff.1 Y3).1).trans Y3; have u3_0 := Joins.cell_of_block Z4 8; have v3_0 := Joins.cell_of_block Y4 8; clear hz)
    | (go_at_call 36; refine (eq_str names _ lo _ _ _ _ (H1.out _ B2).names (H2.out _ B2).names HR.out.names).mono ?_; rintro e w3 ⟨rfl, hz⟩; have B3 := B2.trans (hz.mono B2.size); have Z3 := (hz.block _ (Array.getElem?_eq_some_iff.1 Z2).1).trans Z2; have Y3 := (hz.block _ (Array.getElem?_eq_some_iff.1 Y2).1).trans Y2; have u2_0 := Joins.cell_of_block Z3 7; have v2_0 := Joins.cell_of_block Y3 7; clear hz)
    | (go_at_call 36; refine (eq_str key _ lo _ _ _ _ (H1.out _ B1).key (H2.out _ B1).key HR.out.key).mono ?_; rintro e w2 ⟨rfl, hz⟩; have B2 := B1.trans (hz.mono B1.size); have Z2 := (hz.block _ (Array.getElem?_eq_some_iff.1 Z1).1).trans Z1; have Y2 := (hz.block _ (Array.getElem?_eq_some_iff.1 Y1).1).trans Y1; have u1_0 := Joins.cell_of_block Z2 6; have v1_0 := Joins.cell_of_block Y2 6; clear hz)
    | (go_at_call 35; refine (eq_col cols _ lo _ _ _ _ (H1.out _ HB.out).cols (H2.out _ HB.out).cols HR.out.cols).mono ?_; rintro e w1 ⟨rfl, hz⟩; have B1 := HB.out.trans (hz.mono HB.out.size); have Z1 := (hz.block _ (Array.getElem?_eq_some_iff.1 Z0).1).trans Z0; have Y1 := (hz.block _ (Array.getElem?_eq_some_iff.1 Y0).1).trans Y0; have u0_0 := Joins.cell_of_block Z1 4; have v0_0 := Joins.cell_of_block Y1 4; clear hz))
  go_ret
  exact ⟨rfl, B10⟩
/-- Any two statements that are the same. -/
theorem Same_ok (w : World) (lo : Nat) (s : Ps.St) (S S2 : Sls) (h1 : StAt lo w s S) (h2 : StAt lo w s S2) (hr : StR s) : Calls Tryz.prog 17 #[.agg (stC s S).toArray, .agg (stC s S2).toArray] w fun e w' => e = .returned (.bool true) ∧ Below w.heap.size w w' := by
  obtain ⟨kind, snm, stb, cols, key, uniq, names, rows, items, src, ⟨o, ⟨k, n, t⟩, tb, nm, sl, kd, ag⟩, group, order, limit, sets⟩ := s
  obtain ⟨v_cols1, v_key1, v_names1, v_rows1, v_items1, v_src1, v_wh1, v_group1, v_order1, v_sets1⟩ := S
  obtain ⟨a_cols1, c_cols1, e_cols1, _⟩ := list_laid h1.cols
  replace e_cols1 : v_cols1 = _ := e_cols1
  subst e_cols1
  obtain ⟨a_key1, c_key1, e_key1, _⟩ := list_laid h1.key
  replace e_key1 : v_key1 = _ := e_key1
  subst e_key1
  obtain ⟨a_names1, c_names1, e_names1, _⟩ := list_laid h1.names
  replace e_names1 : v_names1 = _ := e_names1
  subst e_names1
  obtain ⟨a_rows1, c_rows1, e_rows1, _⟩ := list_laid h1.rows
  replace e_rows1 : v_rows1 = _ := e_rows1
  subst e_rows1
  obtain ⟨a_items1, c_items1, e_items1, _⟩ := list_laid h1.items
  replace e_items1 : v_items1 = _ := e_items1
  subst e_items1
  obtain ⟨a_src1, c_src1, e_src1, _⟩ := list_laid h1.src
  replace e_src1 : v_src1 = _ := e_src1
  subst e_src1
  obtain ⟨a_group1, c_group1, e_group1, _⟩ := list_laid h1.group
  replace e_group1 : v_group1 = _ := e_group1
  subst e_group1
  obtain ⟨a_order1, c_order1, e_order1, _⟩ := list_laid h1.order
  replace e_order1 : v_order1 = _ := e_order1
  subst e_order1
  obtain ⟨a_sets1, c_sets1, e_sets1, _⟩ := list_laid h1.sets
  replace e_sets1 : v_sets1 = _ := e_sets1
  subst e_sets1
  obtain ⟨a_wh1, c_wh1, e_wh1⟩ := ExAt.slice h1.wh
  replace e_wh1 : v_wh1 = _ := e_wh1
  subst e_wh1
  obtain ⟨v_cols2, v_key2, v_names2, v_rows2, v_items2, v_src2, v_wh2, v_group2, v_order2, v_sets2⟩ := S2
  obtain ⟨a_cols2, c_cols2, e_cols2, _⟩ := list_laid h2.cols
  replace e_cols2 : v_cols2 = _ := e_cols2
  subst e_cols2
  obtain ⟨a_key2, c_key2, e_key2, _⟩ := list_laid h2.key
  replace e_key2 : v_key2 = _ := e_key2
  subst e_key2
  obtain ⟨a_names2, c_names2, e_names2, _⟩ := list_laid h2.names
  replace e_names2 : v_names2 = _ := e_names2
  subst e_names2
  obtain ⟨a_rows2, c_rows2, e_rows2, _⟩ := list_laid h2.rows
  replace e_rows2 : v_rows2 = _ := e_rows2
  subst e_rows2
  obtain ⟨a_items2, c_items2, e_items2, _⟩ := list_laid h2.items
  replace e_items2 : v_items2 = _ := e_items2
  subst e_items2
  obtain ⟨a_src2, c_src2, e_src2, _⟩ := list_laid h2.src
  replace e_src2 : v_src2 = _ := e_src2
  subst e_src2
  obtain ⟨a_group2, c_group2, e_group2, _⟩ := list_laid h2.group
  replace e_group2 : v_group2 = _ := e_group2
  subst e_group2
  obtain ⟨a_order2, c_order2, e_order2, _⟩ := list_laid h2.order
  replace e_order2 : v_order2 = _ := e_order2
  subst e_order2
  obtain ⟨a_sets2, c_sets2, e_sets2, _⟩ := list_laid h2.sets
  replace e_sets2 : v_sets2 = _ := e_sets2
  subst e_sets2
  obtain ⟨a_wh2, c_wh2, e_wh2⟩ := ExAt.slice h2.wh
  replace e_wh2 : v_wh2 = _ := e_wh2
  subst e_wh2
  exact Same_laid w lo kind snm stb cols key uniq names rows items src o k n t tb nm sl kd ag group order limit sets a_cols1 c_cols1 a_cols2 c_cols2 a_key1 c_key1 a_key2 c_key2 a_names1 c_names1 a_names2 c_names2 a_rows1 c_rows1 a_rows2 c_rows2 a_items1 c_items1 a_items2 c_items2 a_src1 c_src1 a_src2 c_src2 a_wh1 c_wh1 a_wh2 c_wh2 a_group1 c_group1 a_group2 c_group2 a_order1 c_order1 a_order2 c_order2 a_sets1 c_sets1 a_sets2 c_sets2 h1 h2 hr
end Go.Proofs.YtedamaccflhmfaaGreatDoor
