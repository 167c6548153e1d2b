/-
  The statements' own first question: the chapter's first examples hold, so it answers true; it leaves all that was there as it was.
-/
import Derived.Test.YtlhnjloimhcpfaaGreatDoorVFs
namespace Go.Proofs.YtlhnjloimhcpfaaGreatDoor
open Go.RowKit Go.Maps Go.Sort

namespace Liv
def a : Vf.Bs := [97]
def z70 : Vf.Bs := List.replicate 70 0
def z31 : Vf.Bs := List.replicate 31 0
def s1 : Vf.St := Vf.create (Vf.new 100) a
def s2 : Vf.St := Vf.append s1 a z70
def s3 : Vf.St := Vf.append s2 a z31
def s4 : Vf.St := Vf.sync s3 a
def s5 : Vf.St := Vf.crash s4 0 0
theorem e1 : Vf.createE (Vf.new 100) a = 0 := by decide +kernel
theorem e2 : Vf.appendE s1 a z70 = 0 := by decide +kernel
theorem e3 : Vf.left s2 = 30 := by decide +kernel
theorem e4 : Vf.appendE s2 a z31 = 8 := by decide +kernel
theorem e5 : s3.pending.length = 3 := by decide +kernel
theorem e6 : Vf.syncE s3 a = 0 := by decide +kernel
theorem e7 : s4.pending.length = 1 := by decide +kernel
theorem e8 : (namesOf s5).length = 0 := by decide +kernel
theorem k1 : s1.steps + z70.length ≤ 90000000 := by decide +kernel
theorem k2 : s2.steps + z31.length ≤ 90000000 := by decide +kernel
theorem k2' : s2.steps ≤ 90000000 := by decide +kernel
theorem k3 : s3.steps ≤ 90000000 := by decide +kernel
theorem k4 : s4.steps ≤ 90000000 := by decide +kernel
theorem k5 : s5.steps ≤ 90000000 := by decide +kernel
end Liv

/-- A new list of n bytes 0 is free. -/
theorem zeros_free {base lim : Nat} (u : World) (n : Nat) (h : lim ≤ u.heap.size) (hn : n ≤ 1000000) : Free base lim (u.alloc (.cells (zeros n) 5)) (.slice (some ⟨u.heap.size, 0, none⟩) n n) (List.replicate n 0) := by
  refine ⟨BytesIn.block (B := u.heap.size) (World.alloc_heap_new u _) _ (by rw [List.length_replicate]; omega) (fun j hj => ?_) n n (by simp), fun a m c e _ => ?_, fun a m c e _ => ?_⟩
  · rw [List.length_replicate] at hj
    simp [zeros, hj]
  · cases e; exact .inr h
  · cases e; simp

theorem new_fs (w : World) (room : Nat) (h : room ≤ 1073741824) : Calls Tryz.prog 9 #[.int .i64 (room : Int)] w fun e w' => ∃ b, e = .returned (.tuple #[.pointer (some ⟨b, 0, none⟩), .int .i64 0]) ∧ FsIn w.heap.size w'.heap.size w' b (Vf.new room) ∧ Below w.heap.size w w' := by
  refine (new_any w room h).mono ?_
  rintro e w' ⟨rfl, h1, h2⟩
  exact ⟨_, rfl, ⟨⟨_, h1, fun i hi => hi⟩, Vf.Inv.new h, h2.size, Nat.le_refl _⟩, h2⟩

end Go.Proofs.YtlhnjloimhcpfaaGreatDoor
