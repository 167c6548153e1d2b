/-
  The walk of ManifestNil: each call of a manifest that nobody made is refused, and none is opened over no file system. (Written by wip/gen/nil10.py.)
-/
import Derived.Test.YtlhnjloimhcpfaaGreatDoorYNil
namespace Go.Proofs.YtlhnjloimhcpfaaGreatDoor.manifestNil
open Go.ChangeShapes Go.WideShapes Go.ChangeAt Go.RowKit

abbrev zeroO : Obj := .cells #[.pointer none, .pointer none, .string ⟨#[]⟩, .slice none 0 0, .int .i64 0, .int .i64 0, .int .i64 0, .bool false] 79
abbrev zeroF : Obj := .cells #[.int .i64 0, .int .i64 0, .bool false, .int .i64 0, .int .i64 0, .map none, .map none, .map none, .slice none 0 0] 85
abbrev start (w : World) (d a : Value) (lo se ne : Int) : World := ((w.alloc (eO d a lo se ne)).alloc zeroO).alloc (.cells #[.pointer none, .pointer (some ⟨w.heap.size + 1, 0, none⟩)] 26)

theorem start_cells (w : World) (d a : Value) (lo se ne : Int) : (start w d a lo se ne).heap[w.heap.size]? = some (eO d a lo se ne) ∧ (start w d a lo se ne).heap[w.heap.size + 1]? = some zeroO ∧ (start w d a lo se ne).heap[w.heap.size + 1 + 1]? = some (.cells #[.pointer none, .pointer (some ⟨w.heap.size + 1, 0, none⟩)] 26) := by
  refine ⟨?_, ?_, ?_⟩
  · exact (Below.heap_alloc _ _ _ (by simp; omega)).trans ((Below.heap_alloc _ _ _ (by simp)).trans (World.alloc_heap_new w _))
  · have := World.alloc_heap_new (w.alloc (eO d a lo se ne)) zeroO
    rw [World.size_alloc] at this
    exact (Below.heap_alloc _ _ _ (by simp)).trans this
  · have := World.alloc_heap_new ((w.alloc (eO d a lo se ne)).alloc zeroO) (.cells #[.pointer none, .pointer (some ⟨w.heap.size + 1, 0, none⟩)] 26)
    rw [World.size_alloc, World.size_alloc] at this
    exact this

set_option maxRecDepth 100000 in
set_option maxHeartbeats 8000000 in
theorem walk (w : World) (y y2 : Option Addr) (m c m2 c2 : Nat) (lo se ne : Int) : Calls Tryz.prog 6 #[ev (.slice y m c) (.slice y2 m2 c2) lo se ne] w fun e w' => e = .returned (.bool true) ∧ Below w.heap.size w w' := by
  obtain ⟨S0, S1, S2⟩ := start_cells w (.slice y m c) (.slice y2 m2 c2) lo se ne
  have LV := hide ylives_any
  have SV : Hid (∀ wx : World, Calls Tryz.prog 33 #[vv (.slice none 0 0) 0 0 0, vv (.slice none 0 0) 0 0 0] wx fun e w' => e = .returned (.bool true) ∧ Below wx.heap.size wx w') := fun wx => samev_any wx none none 0 0 ⟨[], 0, 0, 0⟩ (MtsAt.nil _ _ _) (MtsAt.nil _ _ _) (by decide)
  have B0 : Below w.heap.size w (start w (.slice y m c) (.slice y2 m2 c2) lo se ne) := ((((Below.refl _ _).alloc (Nat.le_refl _) _).alloc (by simp) _).alloc (by simp; omega) _)
  have HC : Hid (∀ wx, Below (start w (.slice y m c) (.slice y2 m2 c2) lo se ne).heap.size (start w (.slice y m c) (.slice y2 m2 c2) lo se ne) wx → wx.cell? ⟨w.heap.size, 0, none⟩ = some (.slice y m c) ∧ wx.cell? ⟨w.heap.size, 1, none⟩ = some (.slice y2 m2 c2) ∧ wx.cell? ⟨w.heap.size, 2, none⟩ = some (.int .i64 lo) ∧ wx.cell? ⟨w.heap.size, 3, none⟩ = some (.int .i64 se) ∧ wx.cell? ⟨w.heap.size, 4, none⟩ = some (.int .i64 ne)) := fun wx hw => by
    have hb := (hw.block _ (Array.getElem?_eq_some_iff.1 S0).1).trans S0
    exact ⟨Joins.cell_of_block hb 0, Joins.cell_of_block hb 1, Joins.cell_of_block hb 2, Joins.cell_of_block hb 3, Joins.cell_of_block hb 4⟩
  have HN1 : Hid (∀ wx, Below (start w (.slice y m c) (.slice y2 m2 c2) lo se ne).heap.size (start w (.slice y m c) (.slice y2 m2 c2) lo se ne) wx → NoMf wx (.pointer (some ⟨w.heap.size + 1, 0, none⟩))) := fun wx hw => by
    have hb := (hw.block _ (Array.getElem?_eq_some_iff.1 S1).1).trans S1
    exact .inr ⟨_, rfl, Joins.cell_of_block hb 0⟩
  have HL : Hid (∀ wx, Below (start w (.slice y m c) (.slice y2 m2 c2) lo se ne).heap.size (start w (.slice y m c) (.slice y2 m2 c2) lo se ne) wx → wx.cell? ⟨w.heap.size + 1 + 1, 0, none⟩ = some (.pointer none) ∧ wx.cell? ⟨w.heap.size + 1 + 1, 1, none⟩ = some (.pointer (some ⟨w.heap.size + 1, 0, none⟩))) := fun wx hw => by
    have hb := (hw.block _ (Array.getElem?_eq_some_iff.1 S2).1).trans S2
    exact ⟨Joins.cell_of_block hb 0, Joins.cell_of_block hb 1⟩
  have OZ : Hid (∀ wx : World, Calls Tryz.prog 10 #[.pointer (some ⟨wx.heap.size, 0, none⟩)] (wx.alloc zeroF) fun e w' => e = .returned (.tuple #[.pointer none, .int .i64 1]) ∧ Below wx.heap.size wx w') := fun wx => by
    refine (no_mopen (.inr ⟨_, rfl, Joins.cell_of_block (World.alloc_heap_new wx zeroF) 5⟩)).mono ?_
    rintro e w' ⟨rfl, h⟩
    exact ⟨rfl, ((Below.refl _ _).alloc (Nat.le_refl _) _).trans (h.mono (by simp))⟩
  clear S0 S1 S2
  go_enter Tryz.func6, Tryz.ntmps6
  go_wp2_with (fail)
  go_loopw [4] (fun i wr => ∃ j : Nat, j ≤ 2 ∧ i = .int .i64 j ∧ Below (start w (.slice y m c) (.slice y2 m2 c2) lo se ne).heap.size (start w (.slice y m c) (.slice y2 m2 c2) lo se ne) wr) (fun i _ => 2 - (intOf i).toNat)
  case atStart => exact ⟨0, by omega, rfl, Below.refl _ _⟩
  case round =>
    obtain ⟨j, hj, rfl, BL⟩ := hrel
    match j, hj with
    | 0, _ =>
      clear LV OZ
      have KS : Hid (∀ wx, Below (start w (.slice y m c) (.slice y2 m2 c2) lo se ne).heap.size (start w (.slice y m c) (.slice y2 m2 c2) lo se ne) wx → (fun wx => wx.cell? ⟨w.heap.size + 1 + 1, 0, none⟩ = some (.pointer none) ∧ wx.cell? ⟨w.heap.size, 0, none⟩ = some (.slice y m c) ∧ wx.cell? ⟨w.heap.size, 1, none⟩ = some (.slice y2 m2 c2) ∧ wx.cell? ⟨w.heap.size, 2, none⟩ = some (.int .i64 lo) ∧ wx.cell? ⟨w.heap.size, 3, none⟩ = some (.int .i64 se) ∧ wx.cell? ⟨w.heap.size, 4, none⟩ = some (.int .i64 ne)) wx) := fun wx hx => ⟨(HL.out wx hx).1, HC.out wx hx⟩
      have HN : Hid (∀ wx, Below (start w (.slice y m c) (.slice y2 m2 c2) lo se ne).heap.size (start w (.slice y m c) (.slice y2 m2 c2) lo se ne) wx → NoMf wx (.pointer none)) := fun _ _ => .inl rfl
      have DL : Below (start w (.slice y m c) (.slice y2 m2 c2) lo se ne).heap.size (start w (.slice y m c) (.slice y2 m2 c2) lo se ne) wr.drew := BL.trans ((Below.refl _ wr).drew.mono BL.size)
      have P0 := KS.out _ DL
      clear HL HC HN1
      go_wp2_with (fail)
      refine wp_region_held_drew (S := (fun wx => wx.cell? ⟨w.heap.size + 1 + 1, 0, none⟩ = some (.pointer none) ∧ wx.cell? ⟨w.heap.size, 0, none⟩ = some (.slice y m c) ∧ wx.cell? ⟨w.heap.size, 1, none⟩ = some (.slice y2 m2 c2) ∧ wx.cell? ⟨w.heap.size, 2, none⟩ = some (.int .i64 lo) ∧ wx.cell? ⟨w.heap.size, 3, none⟩ = some (.int .i64 se) ∧ wx.cell? ⟨w.heap.size, 4, none⟩ = some (.int .i64 ne))) (by kernel_rfl) P0 (fun hHeld => ?_)
      refine takeH (oi := ?oin1) 0 18 (.slice (some ⟨w.heap.size + 1 + 1, 0, none⟩) 2 2) ?hin1 ?hdn1 ?hwn1 ?hyn1 (by kernel_rfl) (by kernel_rfl) (by kernel_rfl) ?hQn1 (by assumption) ?_
      case hin1 => simp only [List.getElem?_toArray, List.getElem?_cons_zero]; rfl
      case hdn1 => rfl
      case hwn1 => rfl
      case hyn1 => (intro w hSw; (try dsimp only at hSw); go_simp)
      case hQn1 => exact fun _ _ _ h => h
      simp only [Act.put, List.setIfInBounds_toArray, List.set_cons_zero, List.set_cons_succ]
      refine takeH (oi := ?oin2) 1 19 (.int .i64 0) ?hin2 ?hdn2 ?hwn2 ?hyn2 (by kernel_rfl) (by kernel_rfl) (by kernel_rfl) ?hQn2 (by assumption) ?_
      case hin2 => simp only [List.getElem?_toArray, List.getElem?_cons_zero, List.getElem?_cons_succ]; rfl
      case hdn2 => rfl
      case hwn2 => rfl
      case hyn2 => (intro w hSw; (try dsimp only at hSw); go_simp)
      case hQn2 => exact fun _ _ _ h => h
      simp only [Act.put, List.setIfInBounds_toArray, List.set_cons_zero, List.set_cons_succ]
      refine takeH (oi := ?oin3) 2 20 (.pointer (some ⟨w.heap.size + 1 + 1, 0, none⟩)) ?hin3 ?hdn3 ?hwn3 ?hyn3 (by kernel_rfl) (by kernel_rfl) (by kernel_rfl) ?hQn3 (by assumption) ?_
      case hin3 => simp only [List.getElem?_toArray, List.getElem?_cons_zero, List.getElem?_cons_succ]; rfl
      case hdn3 => rfl
      case hwn3 => rfl
      case hyn3 => (intro w hSw; (try dsimp only at hSw); go_simp)
      case hQn3 => exact fun _ _ _ h => h
      simp only [Act.put, List.setIfInBounds_toArray, List.set_cons_zero, List.set_cons_succ]
      refine takeH (oi := ?oin4) 3 21 (.pointer none) ?hin4 ?hdn4 ?hwn4 ?hyn4 (by kernel_rfl) (by kernel_rfl) (by kernel_rfl) ?hQn4 (by assumption) ?_
      case hin4 => simp only [List.getElem?_toArray, List.getElem?_cons_zero, List.getElem?_cons_succ]; rfl
      case hdn4 => rfl
      case hwn4 => rfl
      case hyn4 => (intro w hSw; (try dsimp only at hSw); go_simp)
      case hQn4 => exact fun _ _ _ h => h
      simp only [Act.put, List.setIfInBounds_toArray, List.set_cons_zero, List.set_cons_succ]
      refine takeH (oi := ?oin5) 4 22 (ev (.slice y m c) (.slice y2 m2 c2) lo se ne) ?hin5 ?hdn5 ?hwn5 ?hyn5 (by kernel_rfl) (by kernel_rfl) (by kernel_rfl) ?hQn5 (by assumption) ?_
      case hin5 => simp only [List.getElem?_toArray, List.getElem?_cons_zero, List.getElem?_cons_succ]; rfl
      case hdn5 => rfl
      case hwn5 => rfl
      case hyn5 => (intro w hSw; (try dsimp only at hSw); go_simp)
      case hQn5 => exact fun _ _ _ h => h
      simp only [Act.put, List.setIfInBounds_toArray, List.set_cons_zero, List.set_cons_succ]
      refine wpAnyH_ready (rs := [5]) (by kernel_rfl) (by simp) ?_
      refine AllReadyH.cons rfl (fun KK hK => ?_) AllReadyH.nil
      go_simp
      refine (no_add (HN.out _ DL) _ _ _ _ _).mono ?_
      rintro e w1 ⟨rfl, b1⟩
      have D1 : Below (start w (.slice y m c) (.slice y2 m2 c2) lo se ne).heap.size (start w (.slice y m c) (.slice y2 m2 c2) lo se ne) w1 := DL.trans (b1.mono DL.size)
      go_wp2_with (fail)
      refine hK.out _ _ (KS.out _ D1) (fun hHeld => ?_)
      clear hK KK
      refine takeH (oi := ?oin6) 6 24 (.bool false) ?hin6 ?hdn6 ?hwn6 ?hyn6 (by kernel_rfl) (by kernel_rfl) (by kernel_rfl) ?hQn6 (by assumption) ?_
      case hin6 => simp only [List.getElem?_toArray, List.getElem?_cons_zero, List.getElem?_cons_succ]; rfl
      case hdn6 => rfl
      case hwn6 => rfl
      case hyn6 => (intro w hSw; (try dsimp only at hSw); go_simp)
      case hQn6 => exact fun _ _ _ h => h
      simp only [Act.put, List.setIfInBounds_toArray, List.set_cons_zero, List.set_cons_succ]
      refine takeH (oi := ?oin7) 7 25 (.bool false) ?hin7 ?hdn7 ?hwn7 ?hyn7 (by kernel_rfl) (by kernel_rfl) (by kernel_rfl) ?hQn7 (by assumption) ?_
      case hin7 => simp only [List.getElem?_toArray, List.getElem?_cons_zero, List.getElem?_cons_succ]; rfl
      case hdn7 => rfl
      case hwn7 => rfl
      case hyn7 => (intro w hSw; (try dsimp only at hSw); go_simp)
      case hQn7 => exact fun _ _ _ h => h
      simp only [Act.put, List.setIfInBounds_toArray, List.set_cons_zero, List.set_cons_succ]
      refine takeH (oi := ?oin8) 8 26 (.slice (some ⟨w.heap.size + 1 + 1, 0, none⟩) 2 2) ?hin8 ?hdn8 ?hwn8 ?hyn8 (by kernel_rfl) (by kernel_rfl) (by kernel_rfl) ?hQn8 (by assumption) ?_
      case hin8 => simp only [List.getElem?_toArray, List.getElem?_cons_zero, List.getElem?_cons_succ]; rfl
      case hdn8 => rfl
      case hwn8 => rfl
      case hyn8 => (intro w hSw; (try dsimp only at hSw); go_simp)
      case hQn8 => exact fun _ _ _ h => h
      simp only [Act.put, List.setIfInBounds_toArray, List.set_cons_zero, List.set_cons_succ]
      refine takeH (oi := ?oin9) 9 27 (.int .i64 0) ?hin9 ?hdn9 ?hwn9 ?hyn9 (by kernel_rfl) (by kernel_rfl) (by kernel_rfl) ?hQn9 (by assumption) ?_
      case hin9 => simp only [List.getElem?_toArray, List.getElem?_cons_zero, List.getElem?_cons_succ]; rfl
      case hdn9 => rfl
      case hwn9 => rfl
      case hyn9 => (intro w hSw; (try dsimp only at hSw); go_simp)
      case hQn9 => exact fun _ _ _ h => h
      simp only [Act.put, List.setIfInBounds_toArray, List.set_cons_zero, List.set_cons_succ]
      refine takeH (oi := ?oin10) 10 28 (.pointer (some ⟨w.heap.size + 1 + 1, 0, none⟩)) ?hin10 ?hdn10 ?hwn10 ?hyn10 (by kernel_rfl) (by kernel_rfl) (by kernel_rfl) ?hQn10 (by assumption) ?_
      case hin10 => simp only [List.getElem?_toArray, List.getElem?_cons_zero, List.getElem?_cons_succ]; rfl
      case hdn10 => rfl
      case hwn10 => rfl
      case hyn10 => (intro w hSw; (try dsimp only at hSw); go_simp)
      case hQn10 => exact fun _ _ _ h => h
      simp only [Act.put, List.setIfInBounds_toArray, List.set_cons_zero, List.set_cons_succ]
      refine takeH (oi := ?oin11) 11 29 (.pointer none) ?hin11 ?hdn11 ?hwn11 ?hyn11 (by kernel_rfl) (by kernel_rfl) (by kernel_rfl) ?hQn11 (by assumption) ?_
      case hin11 => simp only [List.getElem?_toArray, List.getElem?_cons_zero, List.getElem?_cons_succ]; rfl
      case hdn11 => rfl
      case hwn11 => rfl
      case hyn11 => (intro w hSw; (try dsimp only at hSw); go_simp)
      case hQn11 => exact fun _ _ _ h => h
      simp only [Act.put, List.setIfInBounds_toArray, List.set_cons_zero, List.set_cons_succ]
      refine wpAnyH_ready (rs := [12]) (by kernel_rfl) (by simp) ?_
      refine AllReadyH.cons rfl (fun KK hK => ?_) AllReadyH.nil
      go_simp
      refine (no_file (HN.out _ D1)).mono ?_
      rintro e w2 ⟨rfl, e2⟩
      have b2 : Below w1.heap.size w1 w2 := by rw [e2]; exact Below.refl _ _
      clear e2
      have D2 : Below (start w (.slice y m c) (.slice y2 m2 c2) lo se ne).heap.size (start w (.slice y m c) (.slice y2 m2 c2) lo se ne) w2 := D1.trans (b2.mono D1.size)
      go_wp2_with (fail)
      refine hK.out _ _ (KS.out _ D2) (fun hHeld => ?_)
      clear hK KK
      refine takeH (oi := ?oin12) 13 31 (.bool false) ?hin12 ?hdn12 ?hwn12 ?hyn12 (by kernel_rfl) (by kernel_rfl) (by kernel_rfl) ?hQn12 (by assumption) ?_
      case hin12 => simp only [List.getElem?_toArray, List.getElem?_cons_zero, List.getElem?_cons_succ]; rfl
      case hdn12 => rfl
      case hwn12 => rfl
      case hyn12 => (intro w hSw; (try dsimp only at hSw); go_simp)
      case hQn12 => exact fun _ _ _ h => h
      simp only [Act.put, List.setIfInBounds_toArray, List.set_cons_zero, List.set_cons_succ]
      refine takeH (oi := ?oin13) 14 32 (.bool false) ?hin13 ?hdn13 ?hwn13 ?hyn13 (by kernel_rfl) (by kernel_rfl) (by kernel_rfl) ?hQn13 (by assumption) ?_
      case hin13 => simp only [List.getElem?_toArray, List.getElem?_cons_zero, List.getElem?_cons_succ]; rfl
      case hdn13 => rfl
      case hwn13 => rfl
      case hyn13 => (intro w hSw; (try dsimp only at hSw); go_simp)
      case hQn13 => exact fun _ _ _ h => h
      simp only [Act.put, List.setIfInBounds_toArray, List.set_cons_zero, List.set_cons_succ]
      refine takeH (oi := ?oin14) 15 33 (.bool false) ?hin14 ?hdn14 ?hwn14 ?hyn14 (by kernel_rfl) (by kernel_rfl) (by kernel_rfl) ?hQn14 (by assumption) ?_
      case hin14 => simp only [List.getElem?_toArray, List.getElem?_cons_zero, List.getElem?_cons_succ]; rfl
      case hdn14 => rfl
      case hwn14 => rfl
      case hyn14 => (intro w hSw; (try dsimp only at hSw); go_simp)
      case hQn14 => exact fun _ _ _ h => h
      simp only [Act.put, List.setIfInBounds_toArray, List.set_cons_zero, List.set_cons_succ]
      refine takeH (oi := ?oin15) 16 34 (.slice (some ⟨w.heap.size + 1 + 1, 0, none⟩) 2 2) ?hin15 ?hdn15 ?hwn15 ?hyn15 (by kernel_rfl) (by kernel_rfl) (by kernel_rfl) ?hQn15 (by assumption) ?_
      case hin15 => simp only [List.getElem?_toArray, List.getElem?_cons_zero, List.getElem?_cons_succ]; rfl
      case hdn15 => rfl
      case hwn15 => rfl
      case hyn15 => (intro w hSw; (try dsimp only at hSw); go_simp)
      case hQn15 => exact fun _ _ _ h => h
      simp only [Act.put, List.setIfInBounds_toArray, List.set_cons_zero, List.set_cons_succ]
      refine takeH (oi := ?oin16) 17 35 (.int .i64 0) ?hin16 ?hdn16 ?hwn16 ?hyn16 (by kernel_rfl) (by kernel_rfl) (by kernel_rfl) ?hQn16 (by assumption) ?_
      case hin16 => simp only [List.getElem?_toArray, List.getElem?_cons_zero, List.getElem?_cons_succ]; rfl
      case hdn16 => rfl
      case hwn16 => rfl
      case hyn16 => (intro w hSw; (try dsimp only at hSw); go_simp)
      case hQn16 => exact fun _ _ _ h => h
      simp only [Act.put, List.setIfInBounds_toArray, List.set_cons_zero, List.set_cons_succ]
      refine takeH (oi := ?oin17) 18 36 (.pointer (some ⟨w.heap.size + 1 + 1, 0, none⟩)) ?hin17 ?hdn17 ?hwn17 ?hyn17 (by kernel_rfl) (by kernel_rfl) (by kernel_rfl) ?hQn17 (by assumption) ?_
      case hin17 => simp only [List.getElem?_toArray, List.getElem?_cons_zero, List.getElem?_cons_succ]; rfl
      case hdn17 => rfl
      case hwn17 => rfl
      case hyn17 => (intro w hSw; (try dsimp only at hSw); go_simp)
      case hQn17 => exact fun _ _ _ h => h
      simp only [Act.put, List.setIfInBounds_toArray, List.set_cons_zero, List.set_cons_succ]
      refine takeH (oi := ?oin18) 19 37 (.pointer none) ?hin18 ?hdn18 ?hwn18 ?hyn18 (by kernel_rfl) (by kernel_rfl) (by kernel_rfl) ?hQn18 (by assumption) ?_
      case hin18 => simp only [List.getElem?_toArray, List.getElem?_cons_zero, List.getElem?_cons_succ]; rfl
      case hdn18 => rfl
      case hwn18 => rfl
      case hyn18 => (intro w hSw; (try dsimp only at hSw); go_simp)
      case hQn18 => exact fun _ _ _ h => h
      simp only [Act.put, List.setIfInBounds_toArray, List.set_cons_zero, List.set_cons_succ]
      refine takeH (oi := ?oin19) 21 39 (vv (.slice none 0 0) 0 0 0) ?hin19 ?hdn19 ?hwn19 ?hyn19 (by kernel_rfl) (by kernel_rfl) (by kernel_rfl) ?hQn19 (by assumption) ?_
      case hin19 => simp only [List.getElem?_toArray, List.getElem?_cons_zero, List.getElem?_cons_succ]; rfl
      case hdn19 => rfl
      case hwn19 => rfl
      case hyn19 => (intro w hSw; (try dsimp only at hSw); go_simp)
      case hQn19 => exact fun _ _ _ h => h
      simp only [Act.put, List.setIfInBounds_toArray, List.set_cons_zero, List.set_cons_succ]
      refine wpAnyH_ready (rs := [20]) (by kernel_rfl) (by simp) ?_
      refine AllReadyH.cons rfl (fun KK hK => ?_) AllReadyH.nil
      go_simp
      refine (no_version (HN.out _ D2)).mono ?_
      rintro e w3 ⟨rfl, b3⟩
      have D3 : Below (start w (.slice y m c) (.slice y2 m2 c2) lo se ne).heap.size (start w (.slice y m c) (.slice y2 m2 c2) lo se ne) w3 := D2.trans (b3.mono D2.size)
      go_wp2_with (fail)
      refine hK.out _ _ (KS.out _ D3) (fun hHeld => ?_)
      clear hK KK
      refine wpAnyH_ready (rs := [22]) (by kernel_rfl) (by simp) ?_
      refine AllReadyH.cons rfl (fun KK hK => ?_) AllReadyH.nil
      go_simp
      refine (SV.out _).mono ?_
      rintro e w4 ⟨rfl, b4⟩
      have D4 : Below (start w (.slice y m c) (.slice y2 m2 c2) lo se ne).heap.size (start w (.slice y m c) (.slice y2 m2 c2) lo se ne) w4 := D3.trans (b4.mono D3.size)
      go_wp2_with (fail)
      refine hK.out _ _ (KS.out _ D4) (fun hHeld => ?_)
      clear hK KK
      refine takeH (oi := ?oin20) 23 41 (.bool false) ?hin20 ?hdn20 ?hwn20 ?hyn20 (by kernel_rfl) (by kernel_rfl) (by kernel_rfl) ?hQn20 (by assumption) ?_
      case hin20 => simp only [List.getElem?_toArray, List.getElem?_cons_zero, List.getElem?_cons_succ]; rfl
      case hdn20 => rfl
      case hwn20 => rfl
      case hyn20 => (intro w hSw; (try dsimp only at hSw); go_simp)
      case hQn20 => exact fun _ _ _ h => h
      simp only [Act.put, List.setIfInBounds_toArray, List.set_cons_zero, List.set_cons_succ]
      refine takeH (oi := ?oin21) 24 42 (.bool false) ?hin21 ?hdn21 ?hwn21 ?hyn21 (by kernel_rfl) (by kernel_rfl) (by kernel_rfl) ?hQn21 (by assumption) ?_
      case hin21 => simp only [List.getElem?_toArray, List.getElem?_cons_zero, List.getElem?_cons_succ]; rfl
      case hdn21 => rfl
      case hwn21 => rfl
      case hyn21 => (intro w hSw; (try dsimp only at hSw); go_simp)
      case hQn21 => exact fun _ _ _ h => h
      simp only [Act.put, List.setIfInBounds_toArray, List.set_cons_zero, List.set_cons_succ]
      refine wpAnyH_done (by kernel_rfl) ?_ _
      go_wp2_with (fail)
      exact ⟨⟨1, by omega, rfl, D4⟩, by simp [intOf]⟩
    | 1, _ =>
      clear LV OZ
      have KS : Hid (∀ wx, Below (start w (.slice y m c) (.slice y2 m2 c2) lo se ne).heap.size (start w (.slice y m c) (.slice y2 m2 c2) lo se ne) wx → (fun wx => wx.cell? ⟨w.heap.size + 1 + 1, 1, none⟩ = some (.pointer (some ⟨w.heap.size + 1, 0, none⟩)) ∧ wx.cell? ⟨w.heap.size, 0, none⟩ = some (.slice y m c) ∧ wx.cell? ⟨w.heap.size, 1, none⟩ = some (.slice y2 m2 c2) ∧ wx.cell? ⟨w.heap.size, 2, none⟩ = some (.int .i64 lo) ∧ wx.cell? ⟨w.heap.size, 3, none⟩ = some (.int .i64 se) ∧ wx.cell? ⟨w.heap.size, 4, none⟩ = some (.int .i64 ne)) wx) := fun wx hx => ⟨(HL.out wx hx).2, HC.out wx hx⟩
      have HN : Hid (∀ wx, Below (start w (.slice y m c) (.slice y2 m2 c2) lo se ne).heap.size (start w (.slice y m c) (.slice y2 m2 c2) lo se ne) wx → NoMf wx (.pointer (some ⟨w.heap.size + 1, 0, none⟩))) := HN1.out
      have DL : Below (start w (.slice y m c) (.slice y2 m2 c2) lo se ne).heap.size (start w (.slice y m c) (.slice y2 m2 c2) lo se ne) wr.drew := BL.trans ((Below.refl _ wr).drew.mono BL.size)
      have P0 := KS.out _ DL
      clear HL HC HN1
      go_wp2_with (fail)
      refine wp_region_held_drew (S := (fun wx => wx.cell? ⟨w.heap.size + 1 + 1, 1, none⟩ = some (.pointer (some ⟨w.heap.size + 1, 0, none⟩)) ∧ wx.cell? ⟨w.heap.size, 0, none⟩ = some (.slice y m c) ∧ wx.cell? ⟨w.heap.size, 1, none⟩ = some (.slice y2 m2 c2) ∧ wx.cell? ⟨w.heap.size, 2, none⟩ = some (.int .i64 lo) ∧ wx.cell? ⟨w.heap.size, 3, none⟩ = some (.int .i64 se) ∧ wx.cell? ⟨w.heap.size, 4, none⟩ = some (.int .i64 ne))) (by kernel_rfl) P0 (fun hHeld => ?_)
      refine takeH (oi := ?oin22) 0 18 (.slice (some ⟨w.heap.size + 1 + 1, 0, none⟩) 2 2) ?hin22 ?hdn22 ?hwn22 ?hyn22 (by kernel_rfl) (by kernel_rfl) (by kernel_rfl) ?hQn22 (by assumption) ?_
      case hin22 => simp only [List.getElem?_toArray, List.getElem?_cons_zero]; rfl
      case hdn22 => rfl
      case hwn22 => rfl
      case hyn22 => (intro w hSw; (try dsimp only at hSw); go_simp)
      case hQn22 => exact fun _ _ _ h => h
      simp only [Act.put, List.setIfInBounds_toArray, List.set_cons_zero, List.set_cons_succ]
      refine takeH (oi := ?oin23) 1 19 (.int .i64 1) ?hin23 ?hdn23 ?hwn23 ?hyn23 (by kernel_rfl) (by kernel_rfl) (by kernel_rfl) ?hQn23 (by assumption) ?_
      case hin23 => simp only [List.getElem?_toArray, List.getElem?_cons_zero, List.getElem?_cons_succ]; rfl
      case hdn23 => rfl
      case hwn23 => rfl
      case hyn23 => (intro w hSw; (try dsimp only at hSw); go_simp)
      case hQn23 => exact fun _ _ _ h => h
      simp only [Act.put, List.setIfInBounds_toArray, List.set_cons_zero, List.set_cons_succ]
      refine takeH (oi := ?oin24) 2 20 (.pointer (some ⟨w.heap.size + 1 + 1, 1, none⟩)) ?hin24 ?hdn24 ?hwn24 ?hyn24 (by kernel_rfl) (by kernel_rfl) (by kernel_rfl) ?hQn24 (by assumption) ?_
      case hin24 => simp only [List.getElem?_toArray, List.getElem?_cons_zero, List.getElem?_cons_succ]; rfl
      case hdn24 => rfl
      case hwn24 => rfl
      case hyn24 => (intro w hSw; (try dsimp only at hSw); go_simp)
      case hQn24 => exact fun _ _ _ h => h
      simp only [Act.put, List.setIfInBounds_toArray, List.set_cons_zero, List.set_cons_succ]
      refine takeH (oi := ?oin25) 3 21 (.pointer (some ⟨w.heap.size + 1, 0, none⟩)) ?hin25 ?hdn25 ?hwn25 ?hyn25 (by kernel_rfl) (by kernel_rfl) (by kernel_rfl) ?hQn25 (by assumption) ?_
      case hin25 => simp only [List.getElem?_toArray, List.getElem?_cons_zero, List.getElem?_cons_succ]; rfl
      case hdn25 => rfl
      case hwn25 => rfl
      case hyn25 => (intro w hSw; (try dsimp only at hSw); go_simp)
      case hQn25 => exact fun _ _ _ h => h
      simp only [Act.put, List.setIfInBounds_toArray, List.set_cons_zero, List.set_cons_succ]
      refine takeH (oi := ?oin26) 4 22 (ev (.slice y m c) (.slice y2 m2 c2) lo se ne) ?hin26 ?hdn26 ?hwn26 ?hyn26 (by kernel_rfl) (by kernel_rfl) (by kernel_rfl) ?hQn26 (by assumption) ?_
      case hin26 => simp only [List.getElem?_toArray, List.getElem?_cons_zero, List.getElem?_cons_succ]; rfl
      case hdn26 => rfl
      case hwn26 => rfl
      case hyn26 => (intro w hSw; (try dsimp only at hSw); go_simp)
      case hQn26 => exact fun _ _ _ h => h
      simp only [Act.put, List.setIfInBounds_toArray, List.set_cons_zero, List.set_cons_succ]
      refine wpAnyH_ready (rs := [5]) (by kernel_rfl) (by simp) ?_
      refine AllReadyH.cons rfl (fun KK hK => ?_) AllReadyH.nil
      go_simp
      refine (no_add (HN.out _ DL) _ _ _ _ _).mono ?_
      rintro e w1 ⟨rfl, b1⟩
      have D1 : Below (start w (.slice y m c) (.slice y2 m2 c2) lo se ne).heap.size (start w (.slice y m c) (.slice y2 m2 c2) lo se ne) w1 := DL.trans (b1.mono DL.size)
      go_wp2_with (fail)
      refine hK.out _ _ (KS.out _ D1) (fun hHeld => ?_)
      clear hK KK
      refine takeH (oi := ?oin27) 6 24 (.bool false) ?hin27 ?hdn27 ?hwn27 ?hyn27 (by kernel_rfl) (by kernel_rfl) (by kernel_rfl) ?hQn27 (by assumption) ?_
      case hin27 => simp only [List.getElem?_toArray, List.getElem?_cons_zero, List.getElem?_cons_succ]; rfl
      case hdn27 => rfl
      case hwn27 => rfl
      case hyn27 => (intro w hSw; (try dsimp only at hSw); go_simp)
      case hQn27 => exact fun _ _ _ h => h
      simp only [Act.put, List.setIfInBounds_toArray, List.set_cons_zero, List.set_cons_succ]
      refine takeH (oi := ?oin28) 7 25 (.bool false) ?hin28 ?hdn28 ?hwn28 ?hyn28 (by kernel_rfl) (by kernel_rfl) (by kernel_rfl) ?hQn28 (by assumption) ?_
      case hin28 => simp only [List.getElem?_toArray, List.getElem?_cons_zero, List.getElem?_cons_succ]; rfl
      case hdn28 => rfl
      case hwn28 => rfl
      case hyn28 => (intro w hSw; (try dsimp only at hSw); go_simp)
      case hQn28 => exact fun _ _ _ h => h
      simp only [Act.put, List.setIfInBounds_toArray, List.set_cons_zero, List.set_cons_succ]
      refine takeH (oi := ?oin29) 8 26 (.slice (some ⟨w.heap.size + 1 + 1, 0, none⟩) 2 2) ?hin29 ?hdn29 ?hwn29 ?hyn29 (by kernel_rfl) (by kernel_rfl) (by kernel_rfl) ?hQn29 (by assumption) ?_
      case hin29 => simp only [List.getElem?_toArray, List.getElem?_cons_zero, List.getElem?_cons_succ]; rfl
      case hdn29 => rfl
      case hwn29 => rfl
      case hyn29 => (intro w hSw; (try dsimp only at hSw); go_simp)
      case hQn29 => exact fun _ _ _ h => h
      simp only [Act.put, List.setIfInBounds_toArray, List.set_cons_zero, List.set_cons_succ]
      refine takeH (oi := ?oin30) 9 27 (.int .i64 1) ?hin30 ?hdn30 ?hwn30 ?hyn30 (by kernel_rfl) (by kernel_rfl) (by kernel_rfl) ?hQn30 (by assumption) ?_
      case hin30 => simp only [List.getElem?_toArray, List.getElem?_cons_zero, List.getElem?_cons_succ]; rfl
      case hdn30 => rfl
      case hwn30 => rfl
      case hyn30 => (intro w hSw; (try dsimp only at hSw); go_simp)
      case hQn30 => exact fun _ _ _ h => h
      simp only [Act.put, List.setIfInBounds_toArray, List.set_cons_zero, List.set_cons_succ]
      refine takeH (oi := ?oin31) 10 28 (.pointer (some ⟨w.heap.size + 1 + 1, 1, none⟩)) ?hin31 ?hdn31 ?hwn31 ?hyn31 (by kernel_rfl) (by kernel_rfl) (by kernel_rfl) ?hQn31 (by assumption) ?_
      case hin31 => simp only [List.getElem?_toArray, List.getElem?_cons_zero, List.getElem?_cons_succ]; rfl
      case hdn31 => rfl
      case hwn31 => rfl
      case hyn31 => (intro w hSw; (try dsimp only at hSw); go_simp)
      case hQn31 => exact fun _ _ _ h => h
      simp only [Act.put, List.setIfInBounds_toArray, List.set_cons_zero, List.set_cons_succ]
      refine takeH (oi := ?oin32) 11 29 (.pointer (some ⟨w.heap.size + 1, 0, none⟩)) ?hin32 ?hdn32 ?hwn32 ?hyn32 (by kernel_rfl) (by kernel_rfl) (by kernel_rfl) ?hQn32 (by assumption) ?_
      case hin32 => simp only [List.getElem?_toArray, List.getElem?_cons_zero, List.getElem?_cons_succ]; rfl
      case hdn32 => rfl
      case hwn32 => rfl
      case hyn32 => (intro w hSw; (try dsimp only at hSw); go_simp)
      case hQn32 => exact fun _ _ _ h => h
      simp only [Act.put, List.setIfInBounds_toArray, List.set_cons_zero, List.set_cons_succ]
      refine wpAnyH_ready (rs := [12]) (by kernel_rfl) (by simp) ?_
      refine AllReadyH.cons rfl (fun KK hK => ?_) AllReadyH.nil
      go_simp
      refine (no_file (HN.out _ D1)).mono ?_
      rintro e w2 ⟨rfl, e2⟩
      have b2 : Below w1.heap.size w1 w2 := by rw [e2]; exact Below.refl _ _
      clear e2
      have D2 : Below (start w (.slice y m c) (.slice y2 m2 c2) lo se ne).heap.size (start w (.slice y m c) (.slice y2 m2 c2) lo se ne) w2 := D1.trans (b2.mono D1.size)
      go_wp2_with (fail)
      refine hK.out _ _ (KS.out _ D2) (fun hHeld => ?_)
      clear hK KK
      refine takeH (oi := ?oin33) 13 31 (.bool false) ?hin33 ?hdn33 ?hwn33 ?hyn33 (by kernel_rfl) (by kernel_rfl) (by kernel_rfl) ?hQn33 (by assumption) ?_
      case hin33 => simp only [List.getElem?_toArray, List.getElem?_cons_zero, List.getElem?_cons_succ]; rfl
      case hdn33 => rfl
      case hwn33 => rfl
      case hyn33 => (intro w hSw; (try dsimp only at hSw); go_simp)
      case hQn33 => exact fun _ _ _ h => h
      simp only [Act.put, List.setIfInBounds_toArray, List.set_cons_zero, List.set_cons_succ]
      refine takeH (oi := ?oin34) 14 32 (.bool false) ?hin34 ?hdn34 ?hwn34 ?hyn34 (by kernel_rfl) (by kernel_rfl) (by kernel_rfl) ?hQn34 (by assumption) ?_
      case hin34 => simp only [List.getElem?_toArray, List.getElem?_cons_zero, List.getElem?_cons_succ]; rfl
      case hdn34 => rfl
      case hwn34 => rfl
      case hyn34 => (intro w hSw; (try dsimp only at hSw); go_simp)
      case hQn34 => exact fun _ _ _ h => h
      simp only [Act.put, List.setIfInBounds_toArray, List.set_cons_zero, List.set_cons_succ]
      refine takeH (oi := ?oin35) 15 33 (.bool false) ?hin35 ?hdn35 ?hwn35 ?hyn35 (by kernel_rfl) (by kernel_rfl) (by kernel_rfl) ?hQn35 (by assumption) ?_
      case hin35 => simp only [List.getElem?_toArray, List.getElem?_cons_zero, List.getElem?_cons_succ]; rfl
      case hdn35 => rfl
      case hwn35 => rfl
      case hyn35 => (intro w hSw; (try dsimp only at hSw); go_simp)
      case hQn35 => exact fun _ _ _ h => h
      simp only [Act.put, List.setIfInBounds_toArray, List.set_cons_zero, List.set_cons_succ]
      refine takeH (oi := ?oin36) 16 34 (.slice (some ⟨w.heap.size + 1 + 1, 0, none⟩) 2 2) ?hin36 ?hdn36 ?hwn36 ?hyn36 (by kernel_rfl) (by kernel_rfl) (by kernel_rfl) ?hQn36 (by assumption) ?_
      case hin36 => simp only [List.getElem?_toArray, List.getElem?_cons_zero, List.getElem?_cons_succ]; rfl
      case hdn36 => rfl
      case hwn36 => rfl
      case hyn36 => (intro w hSw; (try dsimp only at hSw); go_simp)
      case hQn36 => exact fun _ _ _ h => h
      simp only [Act.put, List.setIfInBounds_toArray, List.set_cons_zero, List.set_cons_succ]
      refine takeH (oi := ?oin37) 17 35 (.int .i64 1) ?hin37 ?hdn37 ?hwn37 ?hyn37 (by kernel_rfl) (by kernel_rfl) (by kernel_rfl) ?hQn37 (by assumption) ?_
      case hin37 => simp only [List.getElem?_toArray, List.getElem?_cons_zero, List.getElem?_cons_succ]; rfl
      case hdn37 => rfl
      case hwn37 => rfl
      case hyn37 => (intro w hSw; (try dsimp only at hSw); go_simp)
      case hQn37 => exact fun _ _ _ h => h
      simp only [Act.put, List.setIfInBounds_toArray, List.set_cons_zero, List.set_cons_succ]
      refine takeH (oi := ?oin38) 18 36 (.pointer (some ⟨w.heap.size + 1 + 1, 1, none⟩)) ?hin38 ?hdn38 ?hwn38 ?hyn38 (by kernel_rfl) (by kernel_rfl) (by kernel_rfl) ?hQn38 (by assumption) ?_
      case hin38 => simp only [List.getElem?_toArray, List.getElem?_cons_zero, List.getElem?_cons_succ]; rfl
      case hdn38 => rfl
      case hwn38 => rfl
      case hyn38 => (intro w hSw; (try dsimp only at hSw); go_simp)
      case hQn38 => exact fun _ _ _ h => h
      simp only [Act.put, List.setIfInBounds_toArray, List.set_cons_zero, List.set_cons_succ]
      refine takeH (oi := ?oin39) 19 37 (.pointer (some ⟨w.heap.size + 1, 0, none⟩)) ?hin39 ?hdn39 ?hwn39 ?hyn39 (by kernel_rfl) (by kernel_rfl) (by kernel_rfl) ?hQn39 (by assumption) ?_
      case hin39 => simp only [List.getElem?_toArray, List.getElem?_cons_zero, List.getElem?_cons_succ]; rfl
      case hdn39 => rfl
      case hwn39 => rfl
      case hyn39 => (intro w hSw; (try dsimp only at hSw); go_simp)
      case hQn39 => exact fun _ _ _ h => h
      simp only [Act.put, List.setIfInBounds_toArray, List.set_cons_zero, List.set_cons_succ]
      refine takeH (oi := ?oin40) 21 39 (vv (.slice none 0 0) 0 0 0) ?hin40 ?hdn40 ?hwn40 ?hyn40 (by kernel_rfl) (by kernel_rfl) (by kernel_rfl) ?hQn40 (by assumption) ?_
      case hin40 => simp only [List.getElem?_toArray, List.getElem?_cons_zero, List.getElem?_cons_succ]; rfl
      case hdn40 => rfl
      case hwn40 => rfl
      case hyn40 => (intro w hSw; (try dsimp only at hSw); go_simp)
      case hQn40 => exact fun _ _ _ h => h
      simp only [Act.put, List.setIfInBounds_toArray, List.set_cons_zero, List.set_cons_succ]
      refine wpAnyH_ready (rs := [20]) (by kernel_rfl) (by simp) ?_
      refine AllReadyH.cons rfl (fun KK hK => ?_) AllReadyH.nil
      go_simp
      refine (no_version (HN.out _ D2)).mono ?_
      rintro e w3 ⟨rfl, b3⟩
      have D3 : Below (start w (.slice y m c) (.slice y2 m2 c2) lo se ne).heap.size (start w (.slice y m c) (.slice y2 m2 c2) lo se ne) w3 := D2.trans (b3.mono D2.size)
      go_wp2_with (fail)
      refine hK.out _ _ (KS.out _ D3) (fun hHeld => ?_)
      clear hK KK
      refine wpAnyH_ready (rs := [22]) (by kernel_rfl) (by simp) ?_
      refine AllReadyH.cons rfl (fun KK hK => ?_) AllReadyH.nil
      go_simp
      refine (SV.out _).mono ?_
      rintro e w4 ⟨rfl, b4⟩
      have D4 : Below (start w (.slice y m c) (.slice y2 m2 c2) lo se ne).heap.size (start w (.slice y m c) (.slice y2 m2 c2) lo se ne) w4 := D3.trans (b4.mono D3.size)
      go_wp2_with (fail)
      refine hK.out _ _ (KS.out _ D4) (fun hHeld => ?_)
      clear hK KK
      refine takeH (oi := ?oin41) 23 41 (.bool false) ?hin41 ?hdn41 ?hwn41 ?hyn41 (by kernel_rfl) (by kernel_rfl) (by kernel_rfl) ?hQn41 (by assumption) ?_
      case hin41 => simp only [List.getElem?_toArray, List.getElem?_cons_zero, List.getElem?_cons_succ]; rfl
      case hdn41 => rfl
      case hwn41 => rfl
      case hyn41 => (intro w hSw; (try dsimp only at hSw); go_simp)
      case hQn41 => exact fun _ _ _ h => h
      simp only [Act.put, List.setIfInBounds_toArray, List.set_cons_zero, List.set_cons_succ]
      refine takeH (oi := ?oin42) 24 42 (.bool false) ?hin42 ?hdn42 ?hwn42 ?hyn42 (by kernel_rfl) (by kernel_rfl) (by kernel_rfl) ?hQn42 (by assumption) ?_
      case hin42 => simp only [List.getElem?_toArray, List.getElem?_cons_zero, List.getElem?_cons_succ]; rfl
      case hdn42 => rfl
      case hwn42 => rfl
      case hyn42 => (intro w hSw; (try dsimp only at hSw); go_simp)
      case hQn42 => exact fun _ _ _ h => h
      simp only [Act.put, List.setIfInBounds_toArray, List.set_cons_zero, List.set_cons_succ]
      refine wpAnyH_done (by kernel_rfl) ?_ _
      go_wp2_with (fail)
      exact ⟨⟨2, by omega, rfl, D4⟩, by simp [intOf]⟩
    | 2, _ =>
      clear HN1 HL HC SV
      go_wp2_with (first
        | (go_at_call 10; have tok := BL; refine (no_mopen (.inl rfl)).mono ?_; rintro e w5 ⟨rfl, b5⟩; have B5 := BL.trans (b5.mono BL.size); clear BL b5 tok)
        | (go_at_call 10; have tok := B5; refine (OZ.out _).mono ?_; rintro e w6 ⟨rfl, b6⟩; have B6 := B5.trans (b6.mono B5.size); clear B5 b6 tok)
        | (go_at_call 11; refine (LV.out _).mono ?_; rintro e w9 ⟨rfl, b9⟩))
      go_ret
      have B1 := B0.trans (B6.mono B0.size)
      exact ⟨rfl, B1.trans (b9.mono B1.size)⟩
end Go.Proofs.YtlhnjloimhcpfaaGreatDoor.manifestNil
