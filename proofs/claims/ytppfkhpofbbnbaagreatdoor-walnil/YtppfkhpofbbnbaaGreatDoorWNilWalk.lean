/-
  The walk of WalNil: each call of a log that nobody made is refused, and no log is opened over no file system.
-/
import Derived.Test.YtppfkhpofbbnbaaGreatDoorWB
import Derived.Test.YtppfkhpofbbnbaaGreatDoorWActs
namespace Go.Proofs.YtppfkhpofbbnbaaGreatDoor.walNil
open Go.ChangeShapes Go.WideShapes Go.ChangeAt Go.RowKit Go.Maps Go.Sort Go.Shelf

abbrev actO (k n t : Int) (v : Value) : Obj := .cells #[.int .i64 k, .int .i64 n, .int .i64 t, v] 56
abbrev zeroO : Obj := .cells #[.pointer none, .int .i64 0, .int .i64 0, .bool false] 58
abbrev zeroF : Obj := .cells #[.int .i64 0, .int .i64 0, .bool false, .int .i64 0, .int .i64 0, .map none, .map none, .map none, .slice none 0 0] 66
abbrev start (w : World) (k n t : Int) (v : Value) : World := ((w.alloc (actO k n t v)).alloc zeroO).alloc (.cells #[.pointer none, .pointer (some ⟨w.heap.size + 1, 0, none⟩)] 40)

theorem start_cells (w : World) (k n t : Int) (v : Value) : (start w k n t v).heap[w.heap.size]? = some (actO k n t v) ∧ (start w k n t v).heap[w.heap.size + 1]? = some zeroO ∧ (start w k n t v).heap[w.heap.size + 1 + 1]? = some (.cells #[.pointer none, .pointer (some ⟨w.heap.size + 1, 0, none⟩)] 40) := by
  refine ⟨?_, ?_, ?_⟩
  · exact (Below.heap_alloc _ _ _ (by simp; omega)).trans ((Below.heap_alloc _ _ _ (by simp)).trans (World.alloc_heap_new w _))
  · have := World.alloc_heap_new (w.alloc (actO k n t v)) zeroO
    rw [World.size_alloc] at this
    exact (Below.heap_alloc _ _ _ (by simp)).trans this
  · have := World.alloc_heap_new ((w.alloc (actO k n t v)).alloc zeroO) (.cells #[.pointer none, .pointer (some ⟨w.heap.size + 1, 0, none⟩)] 40)
    rw [World.size_alloc, World.size_alloc] at this
    exact this

set_option maxRecDepth 100000 in
set_option maxHeartbeats 8000000 in
theorem walk (w : World) (k n t : Int) (y : Option Addr) (m c : Nat) : Calls Tryz.prog 5 #[.agg #[.int .i64 k, .int .i64 n, .int .i64 t, .slice y m c]] w fun e w' => e = .returned (.bool true) ∧ Below w.heap.size w w' := by
  obtain ⟨S0, S1, S2⟩ := start_cells w k n t (.slice y m c)
  have LV := hide wlives_any
  have B0 : Below w.heap.size w (start w k n t (.slice y m c)) := ((((Below.refl _ _).alloc (Nat.le_refl _) _).alloc (by simp) _).alloc (by simp; omega) _)
  have HC : Hid (∀ wx, Below (start w k n t (.slice y m c)).heap.size (start w k n t (.slice y m c)) wx → wx.cell? ⟨w.heap.size, 1, none⟩ = some (.int .i64 n) ∧ wx.cell? ⟨w.heap.size, 2, none⟩ = some (.int .i64 t) ∧ wx.cell? ⟨w.heap.size, 3, none⟩ = some (.slice y m c)) := fun wx hw => by
    have hb := (hw.block _ (Array.getElem?_eq_some_iff.1 S0).1).trans S0
    exact ⟨Joins.cell_of_block hb 1, Joins.cell_of_block hb 2, Joins.cell_of_block hb 3⟩
  have HN1 : Hid (∀ wx, Below (start w k n t (.slice y m c)).heap.size (start w k n t (.slice y m c)) wx → NoWal wx (.pointer (some ⟨w.heap.size + 1, 0, none⟩))) := fun wx hw => by
    have hb := (hw.block _ (Array.getElem?_eq_some_iff.1 S1).1).trans S1
    exact .inr ⟨_, rfl, Joins.cell_of_block hb 0⟩
  have HL : Hid (∀ wx, Below (start w k n t (.slice y m c)).heap.size (start w k n t (.slice y m c)) wx → wx.cell? ⟨w.heap.size + 1 + 1, 0, none⟩ = some (.pointer none) ∧ wx.cell? ⟨w.heap.size + 1 + 1, 1, none⟩ = some (.pointer (some ⟨w.heap.size + 1, 0, none⟩))) := fun wx hw => by
    have hb := (hw.block _ (Array.getElem?_eq_some_iff.1 S2).1).trans S2
    exact ⟨Joins.cell_of_block hb 0, Joins.cell_of_block hb 1⟩
  have OZ : Hid (∀ (wx : World) (n t : Int), Calls Tryz.prog 15 #[.pointer (some ⟨wx.heap.size, 0, none⟩), .int .i64 n, .int .i64 t] (wx.alloc zeroF) fun e w' => e = .returned (.tuple #[.pointer none, .slice none 0 0, .int .i64 1]) ∧ Below wx.heap.size wx w') := fun wx n t => by
    refine (wno_open (.inr ⟨_, rfl, Joins.cell_of_block (World.alloc_heap_new wx zeroF) 5⟩) n t).mono ?_
    rintro e w' ⟨rfl, h⟩
    exact ⟨rfl, ((Below.refl _ _).alloc (Nat.le_refl _) _).trans (h.mono (by simp))⟩
  clear S0 S1 S2
  go_enter Tryz.func5, Tryz.ntmps5
  go_wp2_with (fail)
  go_loopw [4] (fun i wr => ∃ j : Nat, j ≤ 2 ∧ i = .int .i64 j ∧ Below (start w k n t (.slice y m c)).heap.size (start w k n t (.slice y m c)) wr) (fun i _ => 2 - (intOf i).toNat)
  case atStart => exact ⟨0, by omega, rfl, Below.refl _ _⟩
  case round =>
    obtain ⟨j, hj, rfl, BL⟩ := hrel
    obtain ⟨c1, c2, c3⟩ := HC.out _ BL
    obtain ⟨l0, l1⟩ := HL.out _ BL
    match j, hj with
    | 0, _ =>
      have HN : Hid (∀ wx, Below (start w k n t (.slice y m c)).heap.size (start w k n t (.slice y m c)) wx → NoWal wx (.pointer none)) := fun _ _ => .inl rfl
      have nf := HN.out _ BL
      clear HN1 HL LV OZ
      go_wp2_with (first
        | (go_at_call 16; refine still (wno_append nf _) ?_)
        | (go_at_call 30; refine still (wno_roll nf) ?_)
        | (go_at_call 31; refine (wno_drop nf _).mono ?_; rintro e wn ⟨rfl, bn⟩; have BN := BL.trans (bn.mono BL.size); clear BL bn; have BL := BN; clear BN; obtain ⟨c1, c2, c3⟩ := HC.out _ BL; have nf := HN.out _ BL)
        | (go_at_call 18; refine still (wno_seq nf) ?_)
        | (go_at_call 17; refine still (wno_segment nf) ?_))
      exact ⟨⟨1, by omega, rfl, BL⟩, by simp [intOf]⟩
    | 1, _ =>
      have HN := HN1
      have nf := HN.out _ BL
      clear HN1 HL LV OZ
      go_wp2_with (first
        | (go_at_call 16; refine still (wno_append nf _) ?_)
        | (go_at_call 30; refine still (wno_roll nf) ?_)
        | (go_at_call 31; refine (wno_drop nf _).mono ?_; rintro e wn ⟨rfl, bn⟩; have BN := BL.trans (bn.mono BL.size); clear BL bn; have BL := BN; clear BN; obtain ⟨c1, c2, c3⟩ := HC.out _ BL; have nf := HN.out _ BL)
        | (go_at_call 18; refine still (wno_seq nf) ?_)
        | (go_at_call 17; refine still (wno_segment nf) ?_))
      exact ⟨⟨2, by omega, rfl, BL⟩, by simp [intOf]⟩
    | 2, _ =>
      clear HN1 HL l0 l1
      go_wp2_with (first
        | (go_at_call 15; have tok := BL; refine (wno_open (.inl rfl) _ _).mono ?_; rintro e w5 ⟨rfl, b5⟩; have B5 := BL.trans (b5.mono BL.size); clear BL b5 tok; obtain ⟨c1, c2, c3⟩ := HC.out _ B5; have y1 := fun o => keepC ((Below.refl _ w5).alloc (Nat.le_refl _) o) c1; have y2 := fun o => keepC ((Below.refl _ w5).alloc (Nat.le_refl _) o) c2)
        | (go_at_call 15; have tok := B5; refine (OZ.out _ _ _).mono ?_; rintro e w6 ⟨rfl, b6⟩; have B6 := B5.trans (b6.mono B5.size); clear B5 b6 tok)
        | (go_at_call 12; refine (LV.out _).mono ?_; rintro e w9 ⟨rfl, b9⟩))
      go_ret
      have B1 := B0.trans (B6.mono B0.size)
      exact ⟨rfl, B1.trans (b9.mono B1.size)⟩
end Go.Proofs.YtppfkhpofbbnbaaGreatDoor.walNil
