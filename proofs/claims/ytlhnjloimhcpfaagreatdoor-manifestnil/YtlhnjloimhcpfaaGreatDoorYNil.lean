/-
  A manifest that is nil, or that nobody made, and no file system: each call is refused.
-/
import Derived.Test.YtlhnjloimhcpfaaGreatDoorYLives
import Derived.Test.YtlhnjloimhcpfaaGreatDoorVNil
namespace Go.Proofs.YtlhnjloimhcpfaaGreatDoor
open Go.RowKit

section
variable {w : World} {r : Value}
set_option maxRecDepth 100000 in
theorem no_version (h : NoMf w r) : Calls Tryz.prog 16 #[r] w fun e w' => e = .returned (vv (.slice none 0 0) 0 0 0) ∧ Below w.heap.size w w' := by
  have B0 : Below w.heap.size w (w.alloc (vO (.slice none 0 0) 0 0 0)) := (Below.refl _ _).alloc (Nat.le_refl _) _
  have p0 := World.alloc_heap_new w (vO (.slice none 0 0) 0 0 0)
  have MD := hide (made_no (h.later B0))
  obtain ⟨y0, y1, y2, y3, u0, u1, u2, u3, lt⟩ := slot4 p0
  clear h p0
  go_enter Tryz.func16, Tryz.ntmps16
  go_wp2_with (go_at_call 51; refine still MD.out ?_; clear MD)
  refine bodyPost_ret (v := vv (.slice none 0 0) 0 0 0) (by simp [results, Tryz.results16, go_sem, y0, y1, y2, y3]) rfl ?_
  exact ⟨rfl, B0⟩

theorem no_add (h : NoMf w r) (d a : Value) (lo se ne : Int) : Calls Tryz.prog 12 #[r, ev d a lo se ne] w fun e w' => e = .returned (.int .i64 1) ∧ Below w.heap.size w w' := by
  have B0 : Below w.heap.size w (w.alloc (eO d a lo se ne)) := (Below.refl _ _).alloc (Nat.le_refl _) _
  have MD := made_no (h.later B0)
  clear h
  go_enter Tryz.func12, Tryz.ntmps12
  go_wp2_with (go_at_call 51; refine still MD ?_; clear MD)
  go_ret
  exact ⟨rfl, B0⟩

set_option maxRecDepth 100000 in
theorem no_mread (h : NoFs w r) : Calls Tryz.prog 47 #[r] w fun e w' => e = .returned (.tuple #[vv (.slice none 0 0) 0 0 0, .int .i64 0, .int .i64 1]) ∧ Below w.heap.size w w' := by
  have B0 : Below w.heap.size w (w.alloc (vO (.slice none 0 0) 0 0 0)) := (Below.refl _ _).alloc (Nat.le_refl _) _
  have P0 := hide (World.alloc_heap_new w (vO (.slice none 0 0) 0 0 0))
  have RD := hide (no_read (h.later B0))
  clear h
  go_enter Tryz.func47, Tryz.ntmps47
  go_wp2_with (go_at_call 93; refine (RD.out _).mono ?_; rintro e w1 ⟨rfl, b1⟩; have p1 := (b1.block _ (by simp)).trans P0.out; obtain ⟨y0, y1, y2, y3, u0, u1, u2, u3, lt1⟩ := slot4 p1; have HP1 := hide p1; clear RD p1)
  obtain ⟨P5, G5⟩ := store4 HP1.out (.slice none 0 0) (.int .i64 0) (.int .i64 0) (.int .i64 0)
  have D1 := B0.trans (b1.mono B0.size)
  have B5 : Below w.heap.size w _ := D1.grown G5 D1.size (fun k hk => by cases hk; exact Nat.le_refl _)
  generalize ((((w1.setCell ⟨w.heap.size, 0, none⟩ (.slice none 0 0)).setCell ⟨w.heap.size, 1, none⟩ (.int .i64 0)).setCell ⟨w.heap.size, 2, none⟩ (.int .i64 0)).setCell ⟨w.heap.size, 3, none⟩ (.int .i64 0)) = W5 at P5 B5 ⊢
  obtain ⟨q0, q1, q2, q3, _⟩ := slot4 P5
  refine bodyPost_ret (v := .tuple #[vv (.slice none 0 0) 0 0 0, .int .i64 0, .int .i64 1]) (by simp [results, Tryz.results47, go_sem, q0, q1, q2, q3]) rfl ?_
  exact ⟨rfl, B5⟩
set_option maxRecDepth 100000 in
theorem no_mopen (h : NoFs w r) : Calls Tryz.prog 10 #[r] w fun e w' => e = .returned (.tuple #[.pointer none, .int .i64 1]) ∧ Below w.heap.size w w' := by
  have RD := hide (no_mread h)
  clear h
  go_enter Tryz.func10, Tryz.ntmps10
  go_wp2_with (go_at_call 47; refine RD.out.mono ?_; rintro e w1 ⟨rfl, b1⟩; clear RD)
  go_ret2
  exact ⟨rfl, b1.trans ((Below.refl _ _).alloc b1.size _)⟩
end
end Go.Proofs.YtlhnjloimhcpfaaGreatDoor
