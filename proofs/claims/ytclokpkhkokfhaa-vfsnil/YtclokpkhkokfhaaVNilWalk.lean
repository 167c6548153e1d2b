/-
  The walk of VfsNil: each call of a file system that nobody made is refused.
-/
import Derived.Test.YtclokpkhkokfhaaVNil
import Derived.Test.YtclokpkhkokfhaaVActs
import Derived.Test.YtclokpkhkokfhaaVLives
namespace Go.Proofs.Ytclokpkhkokfhaa.vfsNil
open Go.ChangeShapes Go.WideShapes Go.ChangeAt Go.RowKit Go.Maps Go.Sort Go.Shelf

abbrev actO (a : Ac) : Obj := .cells #[.int .i64 a.kind, .string a.name, .string a.other, .int .i64 a.n, .int .i64 a.t, a.v] 40
abbrev zeroO : Obj := .cells #[.int .i64 0, .int .i64 0, .bool false, .int .i64 0, .int .i64 0, .map none, .map none, .map none, .slice none 0 0] 45
abbrev start (w : World) (a : Ac) : World := ((w.alloc (actO a)).alloc zeroO).alloc (.cells #[.pointer none, .pointer (some ⟨w.heap.size + 1, 0, none⟩)] 22)

theorem start_cells (w : World) (a : Ac) : (start w a).heap[w.heap.size]? = some (actO a) ∧ (start w a).heap[w.heap.size + 1]? = some zeroO ∧ (start w a).heap[w.heap.size + 1 + 1]? = some (.cells #[.pointer none, .pointer (some ⟨w.heap.size + 1, 0, none⟩)] 22) := by
  refine ⟨?_, ?_, ?_⟩
  · exact (Below.heap_alloc _ _ _ (by simp; omega)).trans ((Below.heap_alloc _ _ _ (by simp)).trans (World.alloc_heap_new w _))
  · have := World.alloc_heap_new (w.alloc (actO a)) zeroO
    rw [World.size_alloc] at this
    exact (Below.heap_alloc _ _ _ (by simp)).trans this
  · have := World.alloc_heap_new ((w.alloc (actO a)).alloc zeroO) (.cells #[.pointer none, .pointer (some ⟨w.heap.size + 1, 0, none⟩)] 22)
    rw [World.size_alloc, World.size_alloc] at this
    exact this

set_option maxRecDepth 100000 in
set_option maxHeartbeats 8000000 in
theorem walk (w : World) (a : Ac) : Calls Try.prog 4 #[.agg #[.int .i64 a.kind, .string a.name, .string a.other, .int .i64 a.n, .int .i64 a.t, a.v]] w fun e w' => e = .returned (.bool true) ∧ Below w.heap.size w w' := by
  obtain ⟨S0, S1, S2⟩ := start_cells w a
  have LV := lives_any
  have B0 : Below w.heap.size w (start w a) := ((((Below.refl _ _).alloc (Nat.le_refl _) _).alloc (by simp) _).alloc (by simp; omega) _)
  have HC : Hid (∀ wx, Below (start w a).heap.size (start w a) wx → wx.cell? ⟨w.heap.size, 1, none⟩ = some (.string a.name) ∧ wx.cell? ⟨w.heap.size, 2, none⟩ = some (.string a.other) ∧ wx.cell? ⟨w.heap.size, 3, none⟩ = some (.int .i64 a.n) ∧ wx.cell? ⟨w.heap.size, 4, none⟩ = some (.int .i64 a.t) ∧ wx.cell? ⟨w.heap.size, 5, none⟩ = some a.v) := fun wx hw => by
    have hb := (hw.block _ (Array.getElem?_eq_some_iff.1 S0).1).trans S0
    exact ⟨Joins.cell_of_block hb 1, Joins.cell_of_block hb 2, Joins.cell_of_block hb 3, Joins.cell_of_block hb 4, Joins.cell_of_block hb 5⟩
  have HN1 : Hid (∀ wx, Below (start w a).heap.size (start w a) wx → NoFs wx (.pointer (some ⟨w.heap.size + 1, 0, none⟩))) := fun wx hw => by
    have hb := (hw.block _ (Array.getElem?_eq_some_iff.1 S1).1).trans S1
    exact .inr ⟨_, rfl, Joins.cell_of_block hb 5⟩
  have HL : Hid (∀ wx, Below (start w a).heap.size (start w a) wx → wx.cell? ⟨w.heap.size + 1 + 1, 0, none⟩ = some (.pointer none) ∧ wx.cell? ⟨w.heap.size + 1 + 1, 1, none⟩ = some (.pointer (some ⟨w.heap.size + 1, 0, none⟩))) := fun wx hw => by
    have hb := (hw.block _ (Array.getElem?_eq_some_iff.1 S2).1).trans S2
    exact ⟨Joins.cell_of_block hb 0, Joins.cell_of_block hb 1⟩
  clear S0 S1 S2
  go_enter Try.func4, Try.ntmps4
  go_wp2_with (fail)
  go_loopw [4] (fun i wr => ∃ j : Nat, j ≤ 2 ∧ i = .int .i64 j ∧ Below (start w a).heap.size (start w a) wr) (fun i _ => 2 - (intOf i).toNat)
  case atStart => exact ⟨0, by omega, rfl, Below.refl _ _⟩
  case round =>
    obtain ⟨j, hj, rfl, BL⟩ := hrel
    obtain ⟨c1, c2, c3, c4, c5⟩ := HC.out _ BL
    obtain ⟨l0, l1⟩ := HL.out _ BL
    match j, hj with
    | 0, _ =>
      have HN : Hid (∀ wx, Below (start w a).heap.size (start w a) wx → NoFs wx (.pointer none)) := fun _ _ => .inl rfl
      have nf := HN.out _ BL
      clear HN1 HL LV
      go_wp2_with (first
        | (go_at_call 22; refine (no_read nf _).mono ?_; rintro e wn ⟨rfl, bn⟩; have BN := BL.trans (bn.mono BL.size); clear BL bn; have BL := BN; clear BN; obtain ⟨c1, c2, c3, c4, c5⟩ := HC.out _ BL; have nf := HN.out _ BL)
        | (go_at_call 23; refine still (no_durable nf _) ?_)
        | (go_at_call 10; refine (no_create nf _).mono ?_; rintro e wn ⟨rfl, bn⟩; have BN := BL.trans (bn.mono BL.size); clear BL bn; have BL := BN; clear BN; obtain ⟨c1, c2, c3, c4, c5⟩ := HC.out _ BL; have nf := HN.out _ BL)
        | (go_at_call 11; refine (no_append nf _ _).mono ?_; rintro e wn ⟨rfl, bn⟩; have BN := BL.trans (bn.mono BL.size); clear BL bn; have BL := BN; clear BN; obtain ⟨c1, c2, c3, c4, c5⟩ := HC.out _ BL; have nf := HN.out _ BL)
        | (go_at_call 16; refine (no_rename nf _ _).mono ?_; rintro e wn ⟨rfl, bn⟩; have BN := BL.trans (bn.mono BL.size); clear BL bn; have BL := BN; clear BN; obtain ⟨c1, c2, c3, c4, c5⟩ := HC.out _ BL; have nf := HN.out _ BL)
        | (go_at_call 24; refine (no_remove nf _).mono ?_; rintro e wn ⟨rfl, bn⟩; have BN := BL.trans (bn.mono BL.size); clear BL bn; have BL := BN; clear BN; obtain ⟨c1, c2, c3, c4, c5⟩ := HC.out _ BL; have nf := HN.out _ BL)
        | (go_at_call 15; refine (no_sync nf _).mono ?_; rintro e wn ⟨rfl, bn⟩; have BN := BL.trans (bn.mono BL.size); clear BL bn; have BL := BN; clear BN; obtain ⟨c1, c2, c3, c4, c5⟩ := HC.out _ BL; have nf := HN.out _ BL)
        | (go_at_call 12; refine still (no_syncNames nf) ?_)
        | (go_at_call 20; refine still (no_fuse nf _) ?_)
        | (go_at_call 25; refine still (no_safe nf) ?_)
        | (go_at_call 13; refine still (no_crash nf _ _) ?_)
        | (go_at_call 19; refine still (no_alter nf _ _ _) ?_)
        | (go_at_call 21; refine still (no_on nf) ?_)
        | (go_at_call 26; refine still (no_pending nf) ?_)
        | (go_at_call 27; refine still (no_steps nf) ?_)
        | (go_at_call 28; refine still (no_left nf) ?_)
        | (go_at_call 18; refine still (no_names nf) ?_))
      exact ⟨⟨1, by omega, rfl, BL⟩, by simp [intOf]⟩
    | 1, _ =>
      have HN := HN1
      have nf := HN.out _ BL
      clear HN1 HL LV
      go_wp2_with (first
        | (go_at_call 22; refine (no_read nf _).mono ?_; rintro e wn ⟨rfl, bn⟩; have BN := BL.trans (bn.mono BL.size); clear BL bn; have BL := BN; clear BN; obtain ⟨c1, c2, c3, c4, c5⟩ := HC.out _ BL; have nf := HN.out _ BL)
        | (go_at_call 23; refine still (no_durable nf _) ?_)
        | (go_at_call 10; refine (no_create nf _).mono ?_; rintro e wn ⟨rfl, bn⟩; have BN := BL.trans (bn.mono BL.size); clear BL bn; have BL := BN; clear BN; obtain ⟨c1, c2, c3, c4, c5⟩ := HC.out _ BL; have nf := HN.out _ BL)
        | (go_at_call 11; refine (no_append nf _ _).mono ?_; rintro e wn ⟨rfl, bn⟩; have BN := BL.trans (bn.mono BL.size); clear BL bn; have BL := BN; clear BN; obtain ⟨c1, c2, c3, c4, c5⟩ := HC.out _ BL; have nf := HN.out _ BL)
        | (go_at_call 16; refine (no_rename nf _ _).mono ?_; rintro e wn ⟨rfl, bn⟩; have BN := BL.trans (bn.mono BL.size); clear BL bn; have BL := BN; clear BN; obtain ⟨c1, c2, c3, c4, c5⟩ := HC.out _ BL; have nf := HN.out _ BL)
        | (go_at_call 24; refine (no_remove nf _).mono ?_; rintro e wn ⟨rfl, bn⟩; have BN := BL.trans (bn.mono BL.size); clear BL bn; have BL := BN; clear BN; obtain ⟨c1, c2, c3, c4, c5⟩ := HC.out _ BL; have nf := HN.out _ BL)
        | (go_at_call 15; refine (no_sync nf _).mono ?_; rintro e wn ⟨rfl, bn⟩; have BN := BL.trans (bn.mono BL.size); clear BL bn; have BL := BN; clear BN; obtain ⟨c1, c2, c3, c4, c5⟩ := HC.out _ BL; have nf := HN.out _ BL)
        | (go_at_call 12; refine still (no_syncNames nf) ?_)
        | (go_at_call 20; refine still (no_fuse nf _) ?_)
        | (go_at_call 25; refine still (no_safe nf) ?_)
        | (go_at_call 13; refine still (no_crash nf _ _) ?_)
        | (go_at_call 19; refine still (no_alter nf _ _ _) ?_)
        | (go_at_call 21; refine still (no_on nf) ?_)
        | (go_at_call 26; refine still (no_pending nf) ?_)
        | (go_at_call 27; refine still (no_steps nf) ?_)
        | (go_at_call 28; refine still (no_left nf) ?_)
        | (go_at_call 18; refine still (no_names nf) ?_))
      exact ⟨⟨2, by omega, rfl, BL⟩, by simp [intOf]⟩
    | 2, _ =>
      clear HC HN1 HL c1 c2 c3 c4 c5 l0 l1
      go_wp2_with (go_at_call 9; refine (LV _).mono ?_; rintro e w9 ⟨rfl, b9⟩)
      go_ret
      have B1 := B0.trans (BL.mono B0.size)
      exact ⟨rfl, B1.trans (b9.mono B1.size)⟩
end Go.Proofs.Ytclokpkhkokfhaa.vfsNil
