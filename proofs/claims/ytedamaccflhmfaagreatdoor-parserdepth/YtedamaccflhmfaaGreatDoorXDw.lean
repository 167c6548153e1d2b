/-
  Package parser: the law's lives. .. and what follows from it.
-/
import Derived.Test.YtedamaccflhmfaaGreatDoorPsZd
import Derived.Test.YtedamaccflhmfaaGreatDoorXZ
namespace Go.Proofs.YtedamaccflhmfaaGreatDoor
open Go.RowKit
attribute [local go_sem ↓] Go.wp_at_zero Go.wp_at_succ

def liveI : List Ps.Item := [⟨false, .mk 2 ⟨0, 0, ⟨#[]⟩⟩ [] [97] 0 0 [], []⟩, ⟨false, .mk 5 ⟨0, 0, ⟨#[]⟩⟩ [] [] 0 0 [.mk 3 ⟨0, 0, ⟨#[]⟩⟩ [] [] 0 0 [.mk 2 ⟨0, 0, ⟨#[]⟩⟩ [] [98] 0 0 [], .mk 1 ⟨2, 1, ⟨#[]⟩⟩ [] [] 0 0 []], .mk 1 ⟨2, 2, ⟨#[]⟩⟩ [] [] 0 0 []], [99]⟩]
def liveF : List Ps.Src := [⟨[116], [], .mk 0 ⟨0, 0, ⟨#[]⟩⟩ [] [] 0 0 []⟩]
def liveA : List Ps.Ex := [.mk 15 ⟨0, 0, ⟨#[]⟩⟩ [] [] 0 0 [.mk 9 ⟨0, 0, ⟨#[]⟩⟩ [] [] 0 0 [.mk 2 ⟨0, 0, ⟨#[]⟩⟩ [] [97] 0 0 [], .mk 1 ⟨2, 1, ⟨#[]⟩⟩ [] [] 0 0 []], .mk 19 ⟨0, 0, ⟨#[]⟩⟩ [] [] 0 0 [.mk 2 ⟨0, 0, ⟨#[]⟩⟩ [] [98] 0 0 []]]]
def liveSt : Ps.St := { kind := 1, nm := ([] : List UInt8), tb := ([] : List UInt8), cols := ([] : List Ps.Col), key := ([] : List (List UInt8)), uniq := false, names := ([] : List (List UInt8)), rows := ([] : List (List Ps.Ex)), items := liveI, src := liveF, wh := (.mk 17 ⟨0, 0, (⟨#[]⟩ : ByteArray)⟩ ([] : List UInt8) ([] : List UInt8) 0 0 liveA), group := [], order := [], limit := 3, sets := ([] : List Ps.Asg) }
def lvS : ByteArray := ⟨#[83, 69, 76, 69, 67, 84, 32, 97, 44, 32, 40, 98, 43, 49, 41, 42, 50, 32, 65, 83, 32, 99, 32, 70, 82, 79, 77, 32, 116, 32, 87, 72, 69, 82, 69, 32, 78, 79, 84, 32, 40, 97, 61, 49, 32, 65, 78, 68, 32, 98, 32, 73, 83, 32, 78, 85, 76, 76, 41, 32, 76, 73, 77, 73, 84, 32, 51, 59]⟩
def lvT : ByteArray := ⟨#[115, 101, 108, 101, 99, 116, 32, 97, 32, 44, 32, 40, 32, 98, 32, 43, 32, 49, 32, 41, 32, 42, 32, 50, 32, 97, 115, 32, 99, 32, 102, 114, 111, 109, 32, 116, 32, 119, 104, 101, 114, 101, 32, 110, 111, 116, 32, 40, 32, 97, 32, 61, 32, 49, 32, 97, 110, 100, 32, 98, 32, 105, 115, 32, 110, 117, 108, 108, 32, 41, 32, 108, 105, 109, 105, 116, 32, 51]⟩
set_option maxRecDepth 100000 in
theorem live_R : stmtR lvS = (0, 0, liveSt) := by kernel_rfl
set_option maxRecDepth 100000 in
theorem live_R2 : stmtR lvT = (0, 0, liveSt) := by kernel_rfl
set_option maxRecDepth 100000 in
theorem live_T : lvT = selText liveSt := by kernel_rfl
set_option maxRecDepth 100000 in
theorem live_may : ∀ x ∈ Ps.selectT liveSt, Lx.mayT x = true := by
  have h : (Ps.selectT liveSt).all Lx.mayT = true := by kernel_rfl
  exact List.all_eq_true.1 h
theorem live_rng : StR liveSt := by
  refine ⟨by decide, by decide, by decide, ⟨by decide, fun y hy => ?_⟩, ⟨by decide, fun y hy => ?_⟩, ⟨by decide, fun y hy => ?_⟩, ?_, ⟨by decide, ?_⟩, ⟨by decide, fun y hy => ?_⟩, ⟨by decide, fun y hy => ?_⟩⟩
  · cases hy
  · simp only [liveSt, liveI, List.mem_cons, List.not_mem_nil, or_false] at hy
    rcases hy with rfl | rfl <;> simp [rngE, rngL, inR]
  · simp only [liveSt, liveF, List.mem_cons, List.not_mem_nil, or_false] at hy
    subst hy
    simp [rngE, rngL, inR]
  · simp [liveSt, liveA, rngE, rngL, inR]
  · trivial
  · cases hy
  · cases hy
set_option maxRecDepth 100000 in
set_option maxHeartbeats 3200000 in
theorem lives14_any (w : World) (hT : Tabs w) (hP : PsTab w) (htb : tabB ≤ w.heap.size) : Calls Tryz.prog 14 #[] w fun e w' => e = .returned (.bool true) ∧ Below w.heap.size w w' := by
  have PR := hide (fun wx h1 h2 h3 => Parse_sel ([] : List UInt8) ([] : List UInt8) ([] : List Ps.Col) ([] : List (List UInt8)) false ([] : List (List UInt8)) ([] : List (List Ps.Ex)) liveI liveF 17 0 0 (⟨#[]⟩ : ByteArray) ([] : List UInt8) ([] : List UInt8) 0 0 liveA 3 ([] : List Ps.Asg) lvS (by decide) live_R wx h1 h2 h3)
  have PN := hide (fun wx lo a_cols2 c_cols2 a_key2 c_key2 a_names2 c_names2 a_rows2 c_rows2 a_items2 c_items2 a_src2 c_src2 a_wh2 c_wh2 a_group2 c_group2 a_order2 c_order2 a_sets2 c_sets2 hs h1 h2 h3 => Print_sel ([] : List UInt8) ([] : List UInt8) ([] : List Ps.Col) ([] : List (List UInt8)) false ([] : List (List UInt8)) ([] : List (List Ps.Ex)) liveI liveF 17 0 0 (⟨#[]⟩ : ByteArray) ([] : List UInt8) ([] : List UInt8) 0 0 liveA 3 ([] : List Ps.Asg) a_cols2 c_cols2 a_key2 c_key2 a_names2 c_names2 a_rows2 c_rows2 a_items2 c_items2 a_src2 c_src2 a_wh2 c_wh2 a_group2 c_group2 a_order2 c_order2 a_sets2 c_sets2 wx lo hs live_rng (by decide) (Nat.le_of_ble_eq_true (by kernel_rfl)) h1 h2 h3 (Nat.le_of_ble_eq_true (by kernel_rfl)) lvT live_T live_may (by decide) live_R2)
  have HTb := hide hT
  have HPb := hide hP
  unfold lvS at PR
  unfold lvT at PN
  clear hT hP
  go_enter Tryz.func14, Tryz.ntmps14
  go_wp2_with (first
    | (go_at_call 26; refine (PN.out _ _ a_cols2 c_cols2 a_key2 c_key2 a_names2 c_names2 a_rows2 c_rows2 a_items2 c_items2 a_src2 c_src2 a_wh2 c_wh2 a_group2 c_group2 a_order2 c_order2 a_sets2 c_sets2 SA.out (HTb.out.later HB5.out) (HPb.out.later HB5.out) (Nat.le_trans htb HB5.out.size)).mono ?_; rintro e w6 ⟨rfl, hb6⟩; have E8 := (hb6.block _ (Array.getElem?_eq_some_iff.1 E7.out).1).trans E7.out; have F8 := (hb6.block _ (Array.getElem?_eq_some_iff.1 F5.out).1).trans F5.out; have ec0 := Joins.cell_of_block E8 0; have ec21 := Joins.cell_of_block E8 21; have fc0 := Joins.cell_of_block F8 0; have fc1 := Joins.cell_of_block F8 1)
    | (refine wpList_load_row rfl 38 (.tmp 1) rfl w1.heap.size rfl _ _ _ _ E7.out Tryz.underlying38 rfl info_stmt ?_)
    | (refine wpList_store_row rfl 38 (.tmp 1) (.tmp 7) rfl w1.heap.size #[.int .u8 1, .string ⟨([] : List UInt8).toArray⟩, .string ⟨([] : List UInt8).toArray⟩, .slice a_cols2 ([] : List Ps.Col).length c_cols2, .slice a_key2 ([] : List (List UInt8)).length c_key2, .bool false, .slice a_names2 ([] : List (List UInt8)).length c_names2, .slice a_rows2 ([] : List (List Ps.Ex)).length c_rows2, .slice a_items2 liveI.length c_items2, .slice a_src2 liveF.length c_src2, .int .u8 17, .int .u8 0, .int .i64 0, .string (⟨#[]⟩ : ByteArray), .string ⟨([] : List UInt8).toArray⟩, .string ⟨([] : List UInt8).toArray⟩, .int .i64 0, .int .u8 0, .slice a_wh2 liveA.length c_wh2, .slice a_group2 0 c_group2, .slice a_order2 0 c_order2, .int .i64 3, .slice a_sets2 ([] : List Ps.Asg).length c_sets2] rfl rfl 38 #[.int .u8 0, .string ⟨#[]⟩, .string ⟨#[]⟩, .slice none 0 0, .slice none 0 0, .bool false, .slice none 0 0, .slice none 0 0, .slice none 0 0, .slice none 0 0, .int .u8 0, .int .u8 0, .int .i64 0, .string ⟨#[]⟩, .string ⟨#[]⟩, .string ⟨#[]⟩, .int .i64 0, .int .u8 0, .slice none 0 0, .slice none 0 0, .slice none 0 0, .int .i64 0, .slice none 0 0] (alloc_keeps (heap_new rfl) _) info_stmt ?ho ?h1 ?_; (case ho => rfl); (case h1 => exact stC_one HA4.out); obtain ⟨W5, hW5⟩ : ∃ W5 : World, W5 = (((w1.alloc (.cells #[.int .u8 0, .string ⟨#[]⟩, .string ⟨#[]⟩, .slice none 0 0, .slice none 0 0, .bool false, .slice none 0 0, .slice none 0 0, .slice none 0 0, .slice none 0 0, .int .u8 0, .int .u8 0, .int .i64 0, .string ⟨#[]⟩, .string ⟨#[]⟩, .string ⟨#[]⟩, .int .i64 0, .int .u8 0, .slice none 0 0, .slice none 0 0, .slice none 0 0, .int .i64 0, .slice none 0 0] 38)).alloc (.cells #[.int .i64 0, .int .i64 0] 41)).setRow w1.heap.size #[.int .u8 1, .string ⟨([] : List UInt8).toArray⟩, .string ⟨([] : List UInt8).toArray⟩, .slice a_cols2 ([] : List Ps.Col).length c_cols2, .slice a_key2 ([] : List (List UInt8)).length c_key2, .bool false, .slice a_names2 ([] : List (List UInt8)).length c_names2, .slice a_rows2 ([] : List (List Ps.Ex)).length c_rows2, .slice a_items2 liveI.length c_items2, .slice a_src2 liveF.length c_src2, .int .u8 17, .int .u8 0, .int .i64 0, .string (⟨#[]⟩ : ByteArray), .string ⟨([] : List UInt8).toArray⟩, .string ⟨([] : List UInt8).toArray⟩, .int .i64 0, .int .u8 0, .slice a_wh2 liveA.length c_wh2, .slice a_group2 0 c_group2, .slice a_order2 0 c_order2, .int .i64 3, .slice a_sets2 ([] : List Ps.Asg).length c_sets2]) := ⟨_, rfl⟩; rw [← hW5]; have E7 : Hid (W5.heap[w1.heap.size]? = some (.cells #[.int .u8 1, .string ⟨([] : List UInt8).toArray⟩, .string ⟨([] : List UInt8).toArray⟩, .slice a_cols2 ([] : List Ps.Col).length c_cols2, .slice a_key2 ([] : List (List UInt8)).length c_key2, .bool false, .slice a_names2 ([] : List (List UInt8)).length c_names2, .slice a_rows2 ([] : List (List Ps.Ex)).length c_rows2, .slice a_items2 liveI.length c_items2, .slice a_src2 liveF.length c_src2, .int .u8 17, .int .u8 0, .int .i64 0, .string (⟨#[]⟩ : ByteArray), .string ⟨([] : List UInt8).toArray⟩, .string ⟨([] : List UInt8).toArray⟩, .int .i64 0, .int .u8 0, .slice a_wh2 liveA.length c_wh2, .slice a_group2 0 c_group2, .slice a_order2 0 c_order2, .int .i64 3, .slice a_sets2 ([] : List Ps.Asg).length c_sets2] 38 (0, 0))) := (by rw [hW5]; exact setRow_heap _ _ _ _ _ _ (alloc_keeps (heap_new rfl) _)); have F5 : Hid (W5.heap[w1.heap.size + 1]? = some (.cells #[.int .i64 0, .int .i64 0] 41 (0, 0))) := (by rw [hW5]; exact (setRow_other _ _ _ _ (Nat.succ_ne_self _)).trans (heap_new (by simp))); have sf0 : W5.setCell ⟨w1.heap.size + 1, 0, none⟩ (.int .i64 0) = W5 := setCell_id F5.out rfl; have sf1 : W5.setCell ⟨w1.heap.size + 1, 1, none⟩ (.int .i64 0) = W5 := setCell_id F5.out rfl; have fa0 := Joins.cell_of_block F5.out 0; have fa1 := Joins.cell_of_block F5.out 1; have fb0 := Joins.unfrozen_of_block F5.out 0; have fb1 := Joins.unfrozen_of_block F5.out 1; have K4 : Below w1.heap.size w1 W5 := (by rw [hW5]; exact below_row (((Below.refl w1.heap.size w1).alloc (Nat.le_refl _) _).alloc (by simp) _) (Nat.le_refl _) _); have HB5 := hide (HB1.out.trans (K4.mono HB1.out.size)); have SA := hide (HA4.out.keep (lo' := w.heap.size) (Kept.of K4) (Nat.le_refl _)); clear hW5 K4 HA4)
    | (go_at_call 6; refine (PR.out _ HTb.out.two HPb.out htb).mono ?_; rintro e w1 ⟨a_cols2, c_cols2, a_key2, c_key2, a_names2, c_names2, a_rows2, c_rows2, a_items2, c_items2, a_src2, c_src2, a_wh2, c_wh2, a_group2, c_group2, a_order2, c_order2, a_sets2, c_sets2, rfl, hat4, hb4⟩; have HA4 := hide hat4; have HB1 := hide hb4; clear hat4 hb4))
  go_ret
  exact ⟨rfl, HB5.out.trans (hb6.mono HB5.out.size)⟩
end Go.Proofs.YtedamaccflhmfaaGreatDoor
namespace Go.Proofs.YtedamaccflhmfaaGreatDoor
open Go.RowKit
attribute [local go_sem ↓] Go.wp_at_zero Go.wp_at_succ
open Ps (nestX deep)

/-- Where numbers lie. -/
def IntsAtP (w : World) (a : Option Addr) (l : List Int) : Prop := l ≠ [] → ∃ b off, a = some ⟨b, off, none⟩ ∧ ∀ j (h : j < l.length), w.cell? ⟨b, off + j, none⟩ = some (.int .i64 l[j])
/-- What each mark is. -/
def marks (l : List Int) : List Int := l.map fun k => Int.tmod k 3
theorem marks_take (l : List Int) (m : Nat) : marks (l.take m) = (marks l).take m := by unfold marks; rw [List.map_take]
theorem marks_len (l : List Int) : (marks l).length = l.length := by unfold marks; rw [List.length_map]
theorem ahead_succ (l : List Int) (m : Nat) (k : Int) (h : l[m]? = some k) : aheadB (marks (l.take (m + 1))) = aheadB (marks (l.take m)) ++ openB (Int.tmod k 3) := by
  rw [List.take_add_one, h]
  simp [marks, aheadB]
theorem deep_app : ∀ (a b : List Int), deep (a ++ b) = deep a + deep b
  | [], b => by rw [List.nil_append, deep, Nat.zero_add]
  | x :: a, b => by rw [List.cons_append, deep, deep, deep_app a b]; omega
theorem deep_le : ∀ ms : List Int, deep ms ≤ 2 * ms.length
  | [] => Nat.le_refl _
  | m :: r => by
    have := deep_le r
    rw [deep, Ps.cost, List.length_cons]
    split <;> omega
theorem deep_succ (l : List Int) (m : Nat) (k : Int) (h : l[m]? = some k) : deep (marks (l.take (m + 1))) = deep (marks (l.take m)) + Ps.cost (Int.tmod k 3) := by
  rw [List.take_add_one, h]
  show deep (marks (l.take m ++ [k])) = _
  rw [show marks (l.take m ++ [k]) = marks (l.take m) ++ [Int.tmod k 3] from by simp [marks], deep_app]
  rfl
theorem behind_succ (m : Nat) : behindB (m + 1) = [32, 41] ++ behindB m := by unfold behindB; rw [List.replicate_succ, List.flatten_cons]
/-- at, behind so many marks. -/
def atN (l : List Int) (m : Nat) : Nat := if 40 < m then (aheadB (marks (l.take 40))).length else 0

set_option maxRecDepth 100000 in
set_option maxHeartbeats 3200000 in
theorem depth_walk (W : World) (a : Option Addr) (cap : Nat) (l : List Int) (hb : IntsAtP W a l) (hln : (l.length : Int) ≤ 9223372036854775807) (hT : Tabs W) (hP : PsTab W) (htb : tabB ≤ W.heap.size) : Calls Tryz.prog 5 #[.slice a l.length cap] W fun e w' => e = .returned (.bool true) ∧ Below W.heap.size W w' := by
  have LV := hide (fun wx h1 h2 h3 => lives14_any wx h1 h2 h3)
  have HTb := hide hT
  have HPb := hide hP
  have HB := hide hb
  clear hT hP hb
  by_cases hbig : 100 < l.length
  · have hbi : (100 : Int) < (l.length : Int) := by omega
    go_enter Tryz.func5, Tryz.ntmps5
    go_wp2_with (go_at_call 14; refine (LV.out _ HTb.out HPb.out htb).mono ?_; rintro e w1 ⟨rfl, hb1⟩)
    go_ret
    exact ⟨rfl, hb1⟩
  have hbi : ¬ (100 : Int) < (l.length : Int) := by omega
  go_enter Tryz.func5, Tryz.ntmps5
  go_wp2_with (go_at_call 14; refine (LV.out _ HTb.out HPb.out htb).mono ?_; rintro e w1 ⟨rfl, hb1⟩)
  clear LV
  go_loopw [3, 4, 5, 6] (fun v3 v4 v5 v6 wr => ∃ (m : Nat) (sa sb : ByteArray), wr = w1 ∧ v6 = .int .i64 m ∧ m ≤ l.length ∧ v3 = .string sa ∧ v4 = .string sb ∧ v5 = .int .i64 (atN l m) ∧ Hid (sa.data.toList = aheadB (marks (l.take m))) ∧ Hid (sb.data.toList = behindB m)) (fun _ _ _ v6 _ => l.length - (intOf v6).toNat)
  case atStart => exact ⟨0, ⟨#[]⟩, ⟨#[]⟩, rfl, rfl, Nat.zero_le _, rfl, rfl, rfl, rfl, rfl⟩
  case round =>
    obtain ⟨m, sa, sb, rfl, rfl, hm, rfl, rfl, rfl, HSA, HSB⟩ := hrel
    by_cases hlt : m < l.length
    · obtain ⟨k, hk⟩ : ∃ k, l[m]? = some k := ⟨_, List.getElem?_eq_getElem hlt⟩
      have hi0 : (0 : Int) ≤ (m : Int) := Int.natCast_nonneg m
      have hi1 : (m : Int) < (l.length : Int) := by exact_mod_cast hlt
      obtain ⟨b, off, rfl, hc⟩ := HB.out (by intro e; rw [e] at hlt; exact absurd hlt (Nat.not_lt_zero _))
      have hcell : wr.cell? ⟨b, off + m, none⟩ = some (.int .i64 k) := by
        have h1 := hc m hlt
        rw [show l[m] = k from Option.some.inj ((List.getElem?_eq_getElem hlt).symm.trans hk)] at h1
        exact (hb1.cell (World.block_lt_of_cell? W _ h1)).trans h1
      have HA := hide (ahead_succ l m k hk)
      have HBS := hide (behind_succ m)
      clear hc hk
      have hsaz : sa.size ≤ 600 := by
        have h1 := aheadB_len (marks (l.take m))
        rw [← HSA.out, Array.length_toList, marks_len, List.length_take] at h1
        have h2 : sa.size = sa.data.size := rfl
        omega
      have hsbz : sb.size ≤ 200 := by
        have h1 := behindB_len m
        rw [← HSB.out, Array.length_toList] at h1
        have h2 : sb.size = sb.data.size := rfl
        omega
      have z1 : ¬ 9223372036854775807 < sa.size + 2 := by omega
      have z2 : ¬ 9223372036854775807 < sa.size + 6 := by omega
      have z3 : ¬ 9223372036854775807 < 2 + sb.size := by omega
      clear hsaz hsbz
      by_cases hm40 : m = 40
      · subst hm40
        have HAT : Hid (((atN l (40 + 1) : Nat) : Int) = (sa.size : Int)) := hide (by
          rw [atN, if_pos (by omega), ← HSA.out, Array.length_toList]; rfl)
        by_cases r0 : Int.tmod k 3 = 0
        · have HO := hide (show openB (Int.tmod k 3) = [40, 32] by rw [r0]; rfl)
          go_wp2_with (fail)
          refine ⟨⟨40 + 1, sa ++ ⟨#[40, 32]⟩, ⟨#[32, 41]⟩ ++ sb, trivial, by simp, by omega, rfl, rfl, ?_, ?_, ?_⟩, by simp only [intOf]; omega⟩
          · rw [HAT.out]
          · show (sa ++ ⟨#[40, 32]⟩ : ByteArray).data.toList = _
            rw [HA.out, HO.out, ← HSA.out]
            simp [ByteArray.data_append]
          · show (⟨#[32, 41]⟩ ++ sb : ByteArray).data.toList = _
            rw [HBS.out, ← HSB.out]
            simp [ByteArray.data_append]
        by_cases r1 : Int.tmod k 3 = 1
        · have HO := hide (show openB (Int.tmod k 3) = [40, 32, 110, 111, 116, 32] by rw [r1]; rfl)
          go_wp2_with (fail)
          refine ⟨⟨40 + 1, sa ++ ⟨#[40, 32, 110, 111, 116, 32]⟩, ⟨#[32, 41]⟩ ++ sb, trivial, by simp, by omega, rfl, rfl, ?_, ?_, ?_⟩, by simp only [intOf]; omega⟩
          · rw [HAT.out]
          · show (sa ++ ⟨#[40, 32, 110, 111, 116, 32]⟩ : ByteArray).data.toList = _
            rw [HA.out, HO.out, ← HSA.out]
            simp [ByteArray.data_append]
          · show (⟨#[32, 41]⟩ ++ sb : ByteArray).data.toList = _
            rw [HBS.out, ← HSB.out]
            simp [ByteArray.data_append]
        by_cases r2 : Int.tmod k 3 = -1
        · have HO := hide (show openB (Int.tmod k 3) = [40, 32, 110, 111, 116, 32] by rw [r2]; rfl)
          go_wp2_with (fail)
          refine ⟨⟨40 + 1, sa ++ ⟨#[40, 32, 110, 111, 116, 32]⟩, ⟨#[32, 41]⟩ ++ sb, trivial, by simp, by omega, rfl, rfl, ?_, ?_, ?_⟩, by simp only [intOf]; omega⟩
          · rw [HAT.out]
          · show (sa ++ ⟨#[40, 32, 110, 111, 116, 32]⟩ : ByteArray).data.toList = _
            rw [HA.out, HO.out, ← HSA.out]
            simp [ByteArray.data_append]
          · show (⟨#[32, 41]⟩ ++ sb : ByteArray).data.toList = _
            rw [HBS.out, ← HSB.out]
            simp [ByteArray.data_append]
        have HO := hide (show openB (Int.tmod k 3) = [109, 97, 120, 32, 40, 32] by unfold openB; rw [if_neg r0, if_neg (by rintro (h | h); exact r1 h; exact r2 h)])
        go_wp2_with (fail)
        refine ⟨⟨40 + 1, sa ++ ⟨#[109, 97, 120, 32, 40, 32]⟩, ⟨#[32, 41]⟩ ++ sb, trivial, by simp, by omega, rfl, rfl, ?_, ?_, ?_⟩, by simp only [intOf]; omega⟩
        · rw [HAT.out]
        · show (sa ++ ⟨#[109, 97, 120, 32, 40, 32]⟩ : ByteArray).data.toList = _
          rw [HA.out, HO.out, ← HSA.out]
          simp [ByteArray.data_append]
        · show (⟨#[32, 41]⟩ ++ sb : ByteArray).data.toList = _
          rw [HBS.out, ← HSB.out]
          simp [ByteArray.data_append]
      · have HAT := hide (show atN l (m + 1) = atN l m by
          unfold atN
          by_cases h : 40 < m
          · rw [if_pos h, if_pos (by omega)]
          · rw [if_neg h, if_neg (by omega)])
        have h40 : ¬ (m : Int) = 40 := by omega
        clear hm40
        by_cases r0 : Int.tmod k 3 = 0
        · have HO := hide (show openB (Int.tmod k 3) = [40, 32] by rw [r0]; rfl)
          go_wp2_with (fail)
          refine ⟨⟨m + 1, sa ++ ⟨#[40, 32]⟩, ⟨#[32, 41]⟩ ++ sb, trivial, by simp, by omega, rfl, rfl, ?_, ?_, ?_⟩, by simp only [intOf]; omega⟩
          · rw [HAT.out]
          · show (sa ++ ⟨#[40, 32]⟩ : ByteArray).data.toList = _
            rw [HA.out, HO.out, ← HSA.out]
            simp [ByteArray.data_append]
          · show (⟨#[32, 41]⟩ ++ sb : ByteArray).data.toList = _
            rw [HBS.out, ← HSB.out]
            simp [ByteArray.data_append]
        by_cases r1 : Int.tmod k 3 = 1
        · have HO := hide (show openB (Int.tmod k 3) = [40, 32, 110, 111, 116, 32] by rw [r1]; rfl)
          go_wp2_with (fail)
          refine ⟨⟨m + 1, sa ++ ⟨#[40, 32, 110, 111, 116, 32]⟩, ⟨#[32, 41]⟩ ++ sb, trivial, by simp, by omega, rfl, rfl, ?_, ?_, ?_⟩, by simp only [intOf]; omega⟩
          · rw [HAT.out]
          · show (sa ++ ⟨#[40, 32, 110, 111, 116, 32]⟩ : ByteArray).data.toList = _
            rw [HA.out, HO.out, ← HSA.out]
            simp [ByteArray.data_append]
          · show (⟨#[32, 41]⟩ ++ sb : ByteArray).data.toList = _
            rw [HBS.out, ← HSB.out]
            simp [ByteArray.data_append]
        by_cases r2 : Int.tmod k 3 = -1
        · have HO := hide (show openB (Int.tmod k 3) = [40, 32, 110, 111, 116, 32] by rw [r2]; rfl)
          go_wp2_with (fail)
          refine ⟨⟨m + 1, sa ++ ⟨#[40, 32, 110, 111, 116, 32]⟩, ⟨#[32, 41]⟩ ++ sb, trivial, by simp, by omega, rfl, rfl, ?_, ?_, ?_⟩, by simp only [intOf]; omega⟩
          · rw [HAT.out]
          · show (sa ++ ⟨#[40, 32, 110, 111, 116, 32]⟩ : ByteArray).data.toList = _
            rw [HA.out, HO.out, ← HSA.out]
            simp [ByteArray.data_append]
          · show (⟨#[32, 41]⟩ ++ sb : ByteArray).data.toList = _
            rw [HBS.out, ← HSB.out]
            simp [ByteArray.data_append]
        have HO := hide (show openB (Int.tmod k 3) = [109, 97, 120, 32, 40, 32] by unfold openB; rw [if_neg r0, if_neg (by rintro (h | h); exact r1 h; exact r2 h)])
        go_wp2_with (fail)
        refine ⟨⟨m + 1, sa ++ ⟨#[109, 97, 120, 32, 40, 32]⟩, ⟨#[32, 41]⟩ ++ sb, trivial, by simp, by omega, rfl, rfl, ?_, ?_, ?_⟩, by simp only [intOf]; omega⟩
        · rw [HAT.out]
        · show (sa ++ ⟨#[109, 97, 120, 32, 40, 32]⟩ : ByteArray).data.toList = _
          rw [HA.out, HO.out, ← HSA.out]
          simp [ByteArray.data_append]
        · show (⟨#[32, 41]⟩ ++ sb : ByteArray).data.toList = _
          rw [HBS.out, ← HSB.out]
          simp [ByteArray.data_append]
    · obtain rfl : m = l.length := by omega
      rw [List.take_length] at HSA
      have hsl : (sa ++ ⟨#[116, 114, 117, 101]⟩ ++ sb : ByteArray).data.toList = textD (marks l) := by
        rw [textD, marks_len, ← HSA.out, ← HSB.out]; simp [ByteArray.data_append]
      have hsaz : sa.size ≤ 600 := by
        have h1 := aheadB_len (marks l)
        rw [← HSA.out, Array.length_toList, marks_len] at h1
        have h2 : sa.size = sa.data.size := rfl
        omega
      have hsbz : sb.size ≤ 200 := by
        have h1 := behindB_len l.length
        rw [← HSB.out, Array.length_toList] at h1
        have h2 : sb.size = sb.data.size := rfl
        omega
      have z1 : ¬ 9223372036854775807 < sa.size + 4 := by omega
      have z2 : ¬ 9223372036854775807 < sa.size + 4 + sb.size := by omega
      have hsz : (sa ++ ⟨#[116, 114, 117, 101]⟩ ++ sb : ByteArray).size ≤ 65536 := by
        show (sa ++ ⟨#[116, 114, 117, 101]⟩ ++ sb : ByteArray).data.size ≤ _
        rw [← Array.length_toList, hsl, textD]
        have h1 := aheadB_len (marks l)
        have h2 := behindB_len (marks l).length
        rw [marks_len] at h1 h2
        simp only [List.length_append, List.length_cons, List.length_nil, marks_len]
        omega
      have EX := hide (fun wx h1 h2 h3 => Expr_any wx _ hsz h1 h2 h3)
      by_cases hd : deep (marks l) ≤ 40
      · have hR := depth_ok (marks l) hd _ hsl
        obtain ⟨hp1, hp2, hp3, hp4⟩ := nest_print (marks l) (by rw [marks_len]; omega) hd
        have hrn := nest_rng (marks l)
        rcases hnx : nestX (marks l) with ⟨o, ⟨k, n, t⟩, tb, nm, sl, kd, ag⟩
        rw [hnx] at hR hp1 hp2 hp3 hp4 hrn
        have EX2 : Hid (∀ wx, Tab2 wx → PsTab wx → tabB ≤ wx.heap.size → Calls Tryz.prog 11 #[.string (sa ++ ⟨#[116, 114, 117, 101]⟩ ++ sb)] wx fun e w' => ∃ a2 cap2, e = .returned (.tuple #[.agg (bx o k n t tb nm sl kd (.slice a2 ag.length cap2)), .agg #[.int .i64 0, .int .i64 0]]) ∧ ExAt (Fr wx.heap.size) w' (.mk o ⟨k, n, t⟩ tb nm sl kd ag) (.slice a2 ag.length cap2) ∧ Below wx.heap.size wx w') := fun wx h1 h2 h3 => by
          refine (EX.out wx h1 h2 h3).mono ?_
          rintro e w' ⟨S, he, hat, hb⟩
          rw [hR] at he hat
          obtain ⟨a2, cap2, rfl⟩ := ExAt.slice hat
          exact ⟨a2, cap2, he, hat, hb⟩
        have PN := hide (fun wx a2 c2 P h1 h2 h3 h4 => PrintExpr_ok wx o k n t tb nm sl kd ag a2 c2 P h1 hrn hp4 h2 h3 h4 _ rfl hp1 hp2 hp3)
        have hdi : ((deep (marks l) : Nat) : Int) ≤ 40 := by omega
        obtain ⟨pt, hpt⟩ : ∃ pt, pt = exText (.mk o ⟨k, n, t⟩ tb nm sl kd ag) := ⟨_, rfl⟩
        rw [← hpt] at PN
        clear hR hp1 hp2 hp3 hp4 hrn hnx EX hd hpt
        go_wp2_with (go_at_call 11; refine (EX2.out _ (HTb.out.two.later hb1) (HPb.out.later hb1) (Nat.le_trans htb hb1.size)).mono ?_; rintro e w2 ⟨a2, cap2, rfl, hat2, hb2⟩; have HA2 := hide hat2; have HB2 := hide (hb1.trans (hb2.mono hb1.size)); clear hat2)
        obtain ⟨W3, hW3⟩ : ∃ W3 : World, W3 = ((w2.alloc (.cells (bx o k n t tb nm sl kd (.slice a2 ag.length cap2)) 34)).alloc (.cells #[.int .i64 0, .int .i64 0] 41)) := ⟨_, rfl⟩
        rw [← hW3]
        have E3 : W3.heap[w2.heap.size]? = some (.cells (bx o k n t tb nm sl kd (.slice a2 ag.length cap2)) 34 (0, 0)) := by rw [hW3]; exact alloc_keeps (heap_new rfl) _
        have F3 : W3.heap[w2.heap.size + 1]? = some (.cells #[.int .i64 0, .int .i64 0] 41 (0, 0)) := by rw [hW3]; exact heap_new (by simp)
        have K3 : Below w2.heap.size w2 W3 := by rw [hW3]; exact ((Below.refl w2.heap.size w2).alloc (Nat.le_refl _) _).alloc (by simp) _
        have B3 := hide (HB2.out.trans (K3.mono HB2.out.size))
        have X3 := hide (ExAt.keep (Q := fun _ => True) (Kept.of K3) (fun _ _ _ => trivial) _ _ HA2.out)
        have HF3 := hide F3
        obtain ⟨⟨xa0, xa1, xa2, xa3, xa4, xa5, xa6, xa7, xa8⟩, _, _⟩ := sl9 E3
        clear hW3 K3 F3 EX2 HA2 HSA HSB hsl hsz
        go_wp2_with (fail)
        go_loopw [9, 10] (fun v9 v10 wr => ∃ m : Nat, wr = W3 ∧ v10 = .int .i64 m ∧ m ≤ l.length ∧ v9 = .int .i64 (deep (marks (l.take m)))) (fun _ v10 _ => l.length - (intOf v10).toNat)
        case atStart => exact ⟨0, rfl, rfl, Nat.zero_le _, rfl⟩
        case round =>
          obtain ⟨m, rfl, rfl, hm, rfl⟩ := hrel
          by_cases hlt : m < l.length
          · obtain ⟨k, hk⟩ : ∃ k, l[m]? = some k := ⟨_, List.getElem?_eq_getElem hlt⟩
            have hi0 : (0 : Int) ≤ (m : Int) := Int.natCast_nonneg m
            have hi1 : (m : Int) < (l.length : Int) := by exact_mod_cast hlt
            obtain ⟨b, off, rfl, hc⟩ := HB.out (by intro e; rw [e] at hlt; exact absurd hlt (Nat.not_lt_zero _))
            have hcell : wr.cell? ⟨b, off + m, none⟩ = some (.int .i64 k) := by
              have h1 := hc m hlt
              rw [show l[m] = k from Option.some.inj ((List.getElem?_eq_getElem hlt).symm.trans hk)] at h1
              exact (B3.out.cell (World.block_lt_of_cell? W _ h1)).trans h1
            have HDS := hide (deep_succ l m k hk)
            have hdl := deep_le (marks (l.take m))
            rw [marks_len, List.length_take] at hdl
            obtain ⟨dm, hdm⟩ : ∃ dm, dm = deep (marks (l.take m)) := ⟨_, rfl⟩
            rw [← hdm] at HDS hdl ⊢
            clear hc hk hdm
            by_cases r1 : Int.tmod k 3 = 1
            · have HC := hide (show Ps.cost (Int.tmod k 3) = 2 by rw [r1]; rfl)
              go_wp2_with (fail)
              refine ⟨⟨m + 1, trivial, by simp, by omega, ?_⟩, by simp only [intOf]; omega⟩
              rw [HDS.out, HC.out]
              simp [Int.add_assoc]
            by_cases r2 : Int.tmod k 3 = -1
            · have HC := hide (show Ps.cost (Int.tmod k 3) = 2 by rw [r2]; rfl)
              go_wp2_with (fail)
              refine ⟨⟨m + 1, trivial, by simp, by omega, ?_⟩, by simp only [intOf]; omega⟩
              rw [HDS.out, HC.out]
              simp [Int.add_assoc]
            have HC := hide (show Ps.cost (Int.tmod k 3) = 1 by unfold Ps.cost; rw [if_neg (by rintro (h | h); exact r1 h; exact r2 h)])
            have b1 : (Int.tmod k 3 == 1) = false := by simpa using r1
            have b2 : (Int.tmod k 3 == -1) = false := by simpa using r2
            go_wp2_with (fail)
            refine ⟨⟨m + 1, trivial, by simp, by omega, ?_⟩, by simp only [intOf]; omega⟩
            rw [HDS.out, HC.out]
            simp
          · obtain rfl : m = l.length := by omega
            rw [List.take_length]
            go_wp2_with (go_at_call 18; refine (PN.out _ a2 cap2 _ X3.out (HTb.out.later B3.out) (HPb.out.later B3.out) (Nat.le_trans htb B3.out.size)).mono ?_; rintro e w4 ⟨rfl, hb4⟩; have F4 := (hb4.block _ (Array.getElem?_eq_some_iff.1 HF3.out).1).trans HF3.out; have fa0 := Joins.cell_of_block F4 0; have fa1 := Joins.cell_of_block F4 1)
            go_ret
            exact ⟨rfl, B3.out.trans (hb4.mono B3.out.size)⟩
      · obtain ⟨pp, hR, hpp⟩ := depth_no (marks l) (by omega) _ hsl
        have EX2 : Hid (∀ wx, Tab2 wx → PsTab wx → tabB ≤ wx.heap.size → Calls Tryz.prog 11 #[.string (sa ++ ⟨#[116, 114, 117, 101]⟩ ++ sb)] wx fun e w' => ∃ a2 cap2, e = .returned (.tuple #[.agg (bx 0 0 0 ⟨#[]⟩ [] [] 0 0 (.slice a2 0 cap2)), .agg #[.int .i64 241, .int .i64 pp]]) ∧ Below wx.heap.size wx w') := fun wx h1 h2 h3 => by
          refine (EX.out wx h1 h2 h3).mono ?_
          rintro e w' ⟨S, he, hat, hb⟩
          rw [hR] at he hat
          obtain ⟨a2, cap2, rfl⟩ := ExAt.slice (show ExAt _ w' (.mk 0 ⟨0, 0, ⟨#[]⟩⟩ [] [] 0 0 []) S from hat)
          exact ⟨a2, cap2, he, hb⟩
        have hdi : ¬ ((deep (marks l) : Nat) : Int) ≤ 40 := by omega
        have HPP := hide (show deep (marks l) = l.length → pp = (atN l l.length : Nat) from fun h => by
          rw [hpp (by rw [marks_len]; exact h), atN, if_pos (by omega), marks_take])
        clear hR hpp EX hd
        go_wp2_with (go_at_call 11; refine (EX2.out _ (HTb.out.two.later hb1) (HPb.out.later hb1) (Nat.le_trans htb hb1.size)).mono ?_; rintro e w2 ⟨a2, cap2, rfl, hb2⟩; have HB2 := hide (hb1.trans (hb2.mono hb1.size)))
        obtain ⟨W3, hW3⟩ : ∃ W3 : World, W3 = ((w2.alloc (.cells (bx 0 0 0 ⟨#[]⟩ [] [] 0 0 (.slice a2 0 cap2)) 34)).alloc (.cells #[.int .i64 241, .int .i64 pp] 41)) := ⟨_, rfl⟩
        rw [← hW3]
        have F3 : W3.heap[w2.heap.size + 1]? = some (.cells #[.int .i64 241, .int .i64 pp] 41 (0, 0)) := by rw [hW3]; exact heap_new (by simp)
        have K3 : Below w2.heap.size w2 W3 := by rw [hW3]; exact ((Below.refl w2.heap.size w2).alloc (Nat.le_refl _) _).alloc (by simp) _
        have B3 := hide (HB2.out.trans (K3.mono HB2.out.size))
        have fa0 := Joins.cell_of_block F3 0
        have fa1 := Joins.cell_of_block F3 1
        clear hW3 K3 F3 EX2 HSA HSB hsl hsz
        go_wp2_with (fail)
        go_loopw [9, 10] (fun v9 v10 wr => ∃ m : Nat, wr = W3 ∧ v10 = .int .i64 m ∧ m ≤ l.length ∧ v9 = .int .i64 (deep (marks (l.take m)))) (fun _ v10 _ => l.length - (intOf v10).toNat)
        case atStart => exact ⟨0, rfl, rfl, Nat.zero_le _, rfl⟩
        case round =>
          obtain ⟨m, rfl, rfl, hm, rfl⟩ := hrel
          by_cases hlt : m < l.length
          · obtain ⟨k, hk⟩ : ∃ k, l[m]? = some k := ⟨_, List.getElem?_eq_getElem hlt⟩
            have hi0 : (0 : Int) ≤ (m : Int) := Int.natCast_nonneg m
            have hi1 : (m : Int) < (l.length : Int) := by exact_mod_cast hlt
            obtain ⟨b, off, rfl, hc⟩ := HB.out (by intro e; rw [e] at hlt; exact absurd hlt (Nat.not_lt_zero _))
            have hcell : wr.cell? ⟨b, off + m, none⟩ = some (.int .i64 k) := by
              have h1 := hc m hlt
              rw [show l[m] = k from Option.some.inj ((List.getElem?_eq_getElem hlt).symm.trans hk)] at h1
              exact (B3.out.cell (World.block_lt_of_cell? W _ h1)).trans h1
            have HDS := hide (deep_succ l m k hk)
            have hdl := deep_le (marks (l.take m))
            rw [marks_len, List.length_take] at hdl
            obtain ⟨dm, hdm⟩ : ∃ dm, dm = deep (marks (l.take m)) := ⟨_, rfl⟩
            rw [← hdm] at HDS hdl ⊢
            clear hc hk hdm
            by_cases r1 : Int.tmod k 3 = 1
            · have HC := hide (show Ps.cost (Int.tmod k 3) = 2 by rw [r1]; rfl)
              go_wp2_with (fail)
              refine ⟨⟨m + 1, trivial, by simp, by omega, ?_⟩, by simp only [intOf]; omega⟩
              rw [HDS.out, HC.out]
              simp [Int.add_assoc]
            by_cases r2 : Int.tmod k 3 = -1
            · have HC := hide (show Ps.cost (Int.tmod k 3) = 2 by rw [r2]; rfl)
              go_wp2_with (fail)
              refine ⟨⟨m + 1, trivial, by simp, by omega, ?_⟩, by simp only [intOf]; omega⟩
              rw [HDS.out, HC.out]
              simp [Int.add_assoc]
            have HC := hide (show Ps.cost (Int.tmod k 3) = 1 by unfold Ps.cost; rw [if_neg (by rintro (h | h); exact r1 h; exact r2 h)])
            have b1 : (Int.tmod k 3 == 1) = false := by simpa using r1
            have b2 : (Int.tmod k 3 == -1) = false := by simpa using r2
            go_wp2_with (fail)
            refine ⟨⟨m + 1, trivial, by simp, by omega, ?_⟩, by simp only [intOf]; omega⟩
            rw [HDS.out, HC.out]
            simp
          · obtain rfl : m = l.length := by omega
            rw [List.take_length]
            by_cases hdl : deep (marks l) = l.length
            · have hpe := HPP.out hdl
              have hdi2 : ((deep (marks l) : Nat) : Int) = (l.length : Int) := by omega
              subst hpe
              have HDL := hide hdl
              clear hdl
              go_wp2_with (fail)
              go_ret
              exact ⟨rfl, B3.out⟩
            · have hdi2 : ¬ ((deep (marks l) : Nat) : Int) = (l.length : Int) := by omega
              clear hdl
              go_wp2_with (fail)
              go_ret
              exact ⟨rfl, B3.out⟩
end Go.Proofs.YtedamaccflhmfaaGreatDoor
