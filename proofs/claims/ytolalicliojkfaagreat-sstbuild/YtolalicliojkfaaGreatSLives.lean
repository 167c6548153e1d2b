/-
  The statements' own first question: the chapter's first examples hold, so it answers true; it leaves all that was there as it was.
-/
import Derived.Test.YtolalicliojkfaaGreatSEx
import Derived.Laws.StructEq
import Derived.Deep.RegionWith
namespace Go.Proofs.YtolalicliojkfaaGreat
open Go.RowKit
namespace Ss
theorem ex_x9 : getX (openT exB) [98] 9 = some ⟨[98], [120], 2, false⟩ := by kernel_rfl
end Ss
theorem ents_lit9 (w : World) (l : List Mm.Ent) (cs : Array Value) (hcs : cs.toList = ecs l) (n : Nat) (hn : n = l.length) : EntsAt (w.alloc (.cells cs 42)) (.slice (some ⟨w.heap.size, 0, none⟩) n n) l := by
  subst hn
  refine ⟨⟨_, _, rfl, fun _ => ⟨_, 0, rfl, fun j hj => ?_⟩⟩⟩
  obtain ⟨e0, e1, e2, e3⟩ := ecs_get l j hj
  have hb := World.alloc_heap_new w (.cells cs 42)
  rw [Nat.zero_add, Joins.cell_of_block hb (j * 4), Joins.cell_of_block hb (j * 4 + 1), Joins.cell_of_block hb (j * 4 + 2), Joins.cell_of_block hb (j * 4 + 3), ← Array.getElem?_toList, ← Array.getElem?_toList, ← Array.getElem?_toList, ← Array.getElem?_toList, hcs]
  exact ⟨e0, e1, e2, e3⟩
theorem sexample_any (w : World) : Calls Tryz.prog 12 #[] w fun e w' => ∃ B, e = .returned (.slice (some ⟨B, 0, none⟩) 3 3) ∧ EntsAt w' (.slice (some ⟨B, 0, none⟩) 3 3) Ss.ex ∧ Below w.heap.size w w' := by
  have E0 := hide (ents_lit9 w Ss.ex #[str [97], str [120], .int .i64 1, .bool false, str [98], str [120], .int .i64 2, .bool false, str [99], str [120], .int .i64 3, .bool false] rfl 3 rfl)
  go_enter Tryz.func12, Tryz.ntmps12
  go_wp2_with (fail)
  go_ret
  exact ⟨_, rfl, E0.out, (Below.refl _ _).alloc (Nat.le_refl _) _⟩

/-- Building and opening the example: the two calls, in any world. -/
theorem exbuild_any (w : World) (B : Nat) (h : EntsAt w (.slice (some ⟨B, 0, none⟩) 3 3) Ss.ex) :
    Calls Tryz.prog 7 #[.slice (some ⟨B, 0, none⟩) 3 3, .int .i64 2, .int .i64 10] w fun e w' => ∃ g cap, e = .returned (.tuple #[.slice (some ⟨g, 0, none⟩) Ss.exB.length cap, .int .i64 0]) ∧ Ss.exB.length ≤ cap ∧ BytesIn w' (.slice (some ⟨g, 0, none⟩) Ss.exB.length cap) Ss.exB ∧ Below w.heap.size w w' := by
  refine (sbuild_ok w _ 3 3 Ss.ex h rfl (by decide) (by decide) (by decide +kernel) 2 10 Ss.ex_check).mono ?_
  rintro e w' ⟨v, rfl, o, b⟩
  have hne : Ss.exB ≠ [] := by intro e; have := Ss.ex_open; rw [e] at this; exact absurd this (by decide +kernel)
  obtain ⟨g, cap, rfl⟩ := own_some o hne
  exact ⟨g, cap, rfl, (own_cap o).1, bytes_of_own o (by have := Ss.ex_len; show Ss.exB.length ≤ _; omega), b⟩
theorem exopen_any (w : World) (g cap : Nat) (h : BytesIn w (.slice (some ⟨g, 0, none⟩) Ss.exB.length cap) Ss.exB) (hc : Ss.exB.length ≤ cap) :
    Calls Tryz.prog 13 #[.slice (some ⟨g, 0, none⟩) Ss.exB.length cap] w fun e w' => ∃ T, e = .returned (.tuple #[.pointer (some ⟨T, 0, none⟩), .int .i64 0]) ∧ TabAt w' w.heap.size T (Ss.openT Ss.exB) 0 ∧ Below w.heap.size w w' := by
  refine (open_any w _ cap _ Ss.exB rfl h hc (by have := Ss.ex_len; omega)).mono ?_
  rintro e w' ⟨p, E, rfl, H, b⟩
  rcases H with ⟨_, rfl, T, rfl, ht⟩ | ⟨h1, _, _⟩
  · exact ⟨T, rfl, ht, b⟩
  · rw [Ss.ex_open] at h1; cases h1

set_option maxRecDepth 100000 in
set_option maxHeartbeats 8000000 in
theorem slives_any (w : World) : Calls Tryz.prog 4 #[] w fun e w' => e = .returned (.bool true) ∧ Below w.heap.size w w' := by
  have EX := hide sexample_any
  have BU := hide exbuild_any
  have OP := hide exopen_any
  have OKT := hide (Ss.tabOk_of_open Ss.ex_open (by have := Ss.ex_len; omega))
  obtain ⟨p1, p2, p3⟩ := Ss.ex_parts
  have LN : Hid (∀ wx base T, TabAt wx base T (Ss.openT Ss.exB) 0 → Calls Tryz.prog 14 #[.pointer (some ⟨T, 0, none⟩)] wx fun e w' => e = .returned (.int .i64 3) ∧ w' = wx) := fun wx base T h => by have := slen_any wx base T 0 _ h; rw [p1] at this; exact this
  have BL : Hid (∀ wx base T, TabAt wx base T (Ss.openT Ss.exB) 0 → Calls Tryz.prog 15 #[.pointer (some ⟨T, 0, none⟩)] wx fun e w' => e = .returned (.int .i64 2) ∧ w' = wx) := fun wx base T h => by have := sblocks_any wx base T 0 _ h; rw [p2] at this; exact this
  have LS : Hid (∀ wx base T, TabAt wx base T (Ss.openT Ss.exB) 0 → Calls Tryz.prog 16 #[.pointer (some ⟨T, 0, none⟩)] wx fun e w' => e = .returned (str [99]) ∧ Below wx.heap.size wx w') := fun wx base T h => by have := slast_any wx base T 0 _ h OKT.out.some (by have := OKT.out.most; omega); rw [p3] at this; exact this
  have RD : Hid (∀ wx base T (n : Nat), TabAt wx base T (Ss.openT Ss.exB) n → Calls Tryz.prog 17 #[.pointer (some ⟨T, 0, none⟩)] wx fun e w' => e = .returned (.int .i64 (n : Int)) ∧ w' = wx) := fun wx base T n h => sreads_any wx base T n _ h
  have GT : Hid (∀ wx base T, TabAt wx base T (Ss.openT Ss.exB) 0 → Calls Tryz.prog 18 #[.pointer (some ⟨T, 0, none⟩), str [98], .int .i64 9] wx fun e w' => e = .returned (.tuple #[entV ⟨[98], [120], 2, false⟩, .bool true, .int .i64 0]) ∧ Turned T 1 wx w') := fun wx base T h => by
    refine (sget_any wx base T 0 _ h OKT.out [98] 9 (by decide) (by decide)).mono ?_
    rintro e w' ⟨h1, h2⟩
    rw [Ss.ex_x9, Ss.ex_n9.2] at h1
    rw [Ss.ex_n9.1] at h2
    exact ⟨h1, h2⟩
  clear p1 p2 p3
  go_enter Tryz.func4, Tryz.ntmps4
  go_wp2_with (first
    | (go_at_call 12; refine (EX.out _).mono ?_; rintro r w1 ⟨B, rfl, e1, b1⟩)
    | (go_at_call 7; refine (BU.out _ B e1).mono ?_; rintro r w2 ⟨g, cap, rfl, hc, y2, b2⟩; have B2 := b1.trans (b2.mono b1.size); clear BU e1)
    | (go_at_call 13; refine (OP.out _ g cap y2 hc).mono ?_; rintro r w3 ⟨T, rfl, t3, b3⟩; have B3 := B2.trans (b3.mono B2.size); have t3h := hide t3; have lT := t3.low; clear OP y2)
    | (go_at_call 14; refine (LN.out _ _ _ t3).mono ?_; rintro r w4 ⟨rfl, rfl⟩; clear LN)
    | (go_at_call 15; refine (BL.out _ _ _ t3).mono ?_; rintro r w4 ⟨rfl, rfl⟩; clear BL)
    | (go_at_call 16; refine (LS.out _ _ _ t3).mono ?_; rintro r w5 ⟨rfl, b5⟩; have t5 := t3.later b5; have B5 := B3.trans (b5.mono B3.size); clear LS)
    | (go_at_call 17; have tk := t5; refine (RD.out _ _ _ 0 t5).mono ?_; rintro r w6 ⟨rfl, rfl⟩)
    | (go_at_call 18; refine (GT.out _ _ _ t5).mono ?_; rintro r w7 ⟨rfl, u7⟩; have t7 := u7.tab t5; have B7 := B5.grown u7.1 B5.size (fun k hk => by cases hk; have := B2.size; omega); clear GT t5))
  obtain ⟨W8, hW8⟩ : ∃ W8, W8 = w7.alloc (.cells #[str [98], str [120], .int .i64 2, .bool false] 42) := ⟨_, rfl⟩
  have a8 : Below w7.heap.size w7 W8 := by rw [hW8]; exact (Below.refl _ _).alloc (Nat.le_refl _) _
  have P8 : W8.heap[w7.heap.size]? = some (eO ⟨[98], [120], 2, false⟩) := by rw [hW8]; exact World.alloc_heap_new w7 _
  have t8 := t7.later a8
  have B8 := B7.trans (a8.mono B7.size)
  rw [show w7.alloc (.cells #[.string ⟨#[98]⟩, .string ⟨#[120]⟩, .int .i64 2, .bool false] 42) = W8 from hW8.symm]
  obtain ⟨X, hX⟩ : ∃ X, X = w7.heap.size := ⟨_, rfl⟩
  rw [← hX] at P8 ⊢
  have KC : Hid (∀ wx, Below W8.heap.size W8 wx → wx.cell? ⟨X, 0, none⟩ = some (str [98]) ∧ wx.cell? ⟨X, 1, none⟩ = some (str [120]) ∧ wx.cell? ⟨X, 2, none⟩ = some (.int .i64 2) ∧ wx.cell? ⟨X, 3, none⟩ = some (.bool false)) := fun wx hw => by
    have hb := keepB hw P8
    exact ⟨Joins.cell_of_block hb 0, Joins.cell_of_block hb 1, Joins.cell_of_block hb 2, Joins.cell_of_block hb 3⟩
  have P1 := KC.out W8.drew (Below.refl _ _).drew
  have EC : Hid (∀ wx B, EntsAt wx (.slice (some ⟨B, 0, none⟩) 3 3) Ss.ex → wx.cell? ⟨B, 4, none⟩ = some (str [98]) ∧ wx.cell? ⟨B, 5, none⟩ = some (str [120]) ∧ wx.cell? ⟨B, 6, none⟩ = some (.int .i64 2) ∧ wx.cell? ⟨B, 7, none⟩ = some (.bool false)) := fun wx B h => by
    have := h.cells 1 (by decide)
    exact this
  clear t7 a8 P8 hW8 hX B7 tk t3 t3h lT u7 B2 B3 B5 b1 b2 b3 b5 hc
  obtain ⟨z0, z1, z2, z3⟩ := P1
  obtain ⟨x0, x1, x2, x3⟩ := KC.out W8 (Below.refl _ _)
  go_region_with (first
      | (go_at_call 12; refine (EX.out _).mono ?_; rintro r w9 ⟨B9, rfl, e9, b9⟩; have D9 := (Below.refl W8.heap.size W8).drew.trans b9; obtain ⟨k0, k1, k2, k3⟩ := KC.out _ D9; obtain ⟨y0, y1, y2, y3⟩ := EC.out _ _ e9; have t9 := t8.later D9)
      | (go_at_call 17; refine (RD.out _ _ _ 1 t9).mono ?_; rintro r w10 ⟨rfl, rfl⟩))
  all_goals
    go_wp2_with (fail)
    go_ret
    exact ⟨rfl, B8.trans (D9.mono B8.size)⟩
end Go.Proofs.YtolalicliojkfaaGreat
