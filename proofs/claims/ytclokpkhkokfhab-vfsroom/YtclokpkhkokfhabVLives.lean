/-
  The statements' own first question: the chapter's first examples hold, so it answers true; it leaves all that was there as it was.
-/
import Derived.Test.YtclokpkhkokfhabVFs
namespace Go.Proofs.Ytclokpkhkokfhab
open Go.RowKit Go.Maps Go.Sort

namespace Liv
def a : Vf.Bs := [97]
def z70 : Vf.Bs := List.replicate 70 0
def z31 : Vf.Bs := List.replicate 31 0
def s1 : Vf.St := Vf.create (Vf.new 100) a
def s2 : Vf.St := Vf.append s1 a z70
def s3 : Vf.St := Vf.append s2 a z31
def s4 : Vf.St := Vf.sync s3 a
def s5 : Vf.St := Vf.crash s4 0 0
theorem e1 : Vf.createE (Vf.new 100) a = 0 := by decide +kernel
theorem e2 : Vf.appendE s1 a z70 = 0 := by decide +kernel
theorem e3 : Vf.left s2 = 30 := by decide +kernel
theorem e4 : Vf.appendE s2 a z31 = 8 := by decide +kernel
theorem e5 : s3.pending.length = 3 := by decide +kernel
theorem e6 : Vf.syncE s3 a = 0 := by decide +kernel
theorem e7 : s4.pending.length = 1 := by decide +kernel
theorem e8 : (namesOf s5).length = 0 := by decide +kernel
theorem k1 : s1.steps + z70.length ≤ 90000000 := by decide +kernel
theorem k2 : s2.steps + z31.length ≤ 90000000 := by decide +kernel
theorem k2' : s2.steps ≤ 90000000 := by decide +kernel
theorem k3 : s3.steps ≤ 90000000 := by decide +kernel
theorem k4 : s4.steps ≤ 90000000 := by decide +kernel
theorem k5 : s5.steps ≤ 90000000 := by decide +kernel
end Liv

/-- A new list of n bytes 0 is free. -/
theorem zeros_free {base lim : Nat} (u : World) (n : Nat) (h : lim ≤ u.heap.size) (hn : n ≤ 1000000) : Free base lim (u.alloc (.cells (zeros n) 5)) (.slice (some ⟨u.heap.size, 0, none⟩) n n) (List.replicate n 0) := by
  refine ⟨BytesIn.block (B := u.heap.size) (World.alloc_heap_new u _) _ (by rw [List.length_replicate]; omega) (fun j hj => ?_) n n (by simp), fun a m c e _ => ?_, fun a m c e _ => ?_⟩
  · rw [List.length_replicate] at hj
    simp [zeros, hj]
  · cases e; exact .inr h
  · cases e; simp

theorem new_fs (w : World) (room : Nat) (h : room ≤ 1073741824) : Calls Try.prog 6 #[.int .i64 (room : Int)] w fun e w' => ∃ b, e = .returned (.tuple #[.pointer (some ⟨b, 0, none⟩), .int .i64 0]) ∧ FsIn w.heap.size w'.heap.size w' b (Vf.new room) ∧ Below w.heap.size w w' := by
  refine (new_any w room h).mono ?_
  rintro e w' ⟨rfl, h1, h2⟩
  exact ⟨_, rfl, ⟨⟨_, h1, fun i hi => hi⟩, Vf.Inv.new h, h2.size, Nat.le_refl _⟩, h2⟩

set_option maxHeartbeats 2000000 in
theorem lives_any (w : World) : Calls Try.prog 4 #[] w fun e w' => e = .returned (.bool true) ∧ Below w.heap.size w w' := by
  have NW : Hid (Calls Try.prog 6 #[.int .i64 100] w fun e w' => ∃ b, e = .returned (.tuple #[.pointer (some ⟨b, 0, none⟩), .int .i64 0]) ∧ FsIn w.heap.size w'.heap.size w' b (Vf.new 100) ∧ Below w.heap.size w w') := new_fs w 100 (by decide)
  have C1 : Hid (∀ lim wx b, FsIn w.heap.size lim wx b (Vf.new 100) → Calls Try.prog 8 #[.pointer (some ⟨b, 0, none⟩), .string ⟨#[97]⟩] wx fun e w' => e = .returned (.int .i64 0) ∧ FsIn w.heap.size w'.heap.size w' b Liv.s1 ∧ Below w.heap.size wx w') := fun lim wx b h => by
    have := create_fs h (by decide) Liv.a (by decide)
    rw [Liv.e1] at this
    exact this
  have A1 : Hid (∀ wx lim b, FsIn w.heap.size lim wx b Liv.s1 → Calls Try.prog 9 #[.pointer (some ⟨b, 0, none⟩), .string ⟨#[97]⟩, .slice (some ⟨wx.heap.size, 0, none⟩) 70 70] (wx.alloc (.cells (zeros 70) 5)) fun e w' => e = .returned (.int .i64 0) ∧ FsIn w.heap.size w'.heap.size w' b Liv.s2 ∧ Below w.heap.size wx w') := fun wx lim b h => by
    have h' := h.later ((Below.refl _ _).alloc (Nat.le_refl _) (.cells (zeros 70) 5))
    have := append_fs h' Liv.a (by decide) _ Liv.z70 Liv.k1 (zeros_free wx 70 h.lim (by decide))
    rw [Liv.e2] at this
    refine this.mono ?_
    rintro e w' ⟨rfl, h1, h2⟩
    exact ⟨rfl, h1, ((Below.refl _ _).alloc h.low _).trans h2⟩
  have LF : Hid (∀ wx lim b, FsIn w.heap.size lim wx b Liv.s2 → Calls Try.prog 17 #[.pointer (some ⟨b, 0, none⟩)] wx fun e w' => e = .returned (.int .i64 30) ∧ FsIn w.heap.size lim w' b Liv.s2 ∧ Below wx.heap.size wx w') := fun wx lim b h => by
    have := left_fs h Liv.k2'
    rw [Liv.e3] at this
    exact this
  have A2 : Hid (∀ wx lim b, FsIn w.heap.size lim wx b Liv.s2 → Calls Try.prog 9 #[.pointer (some ⟨b, 0, none⟩), .string ⟨#[97]⟩, .slice (some ⟨wx.heap.size, 0, none⟩) 31 31] (wx.alloc (.cells (zeros 31) 5)) fun e w' => e = .returned (.int .i64 8) ∧ FsIn w.heap.size w'.heap.size w' b Liv.s3 ∧ Below w.heap.size wx w') := fun wx lim b h => by
    have h' := h.later ((Below.refl _ _).alloc (Nat.le_refl _) (.cells (zeros 31) 5))
    have := append_fs h' Liv.a (by decide) _ Liv.z31 Liv.k2 (zeros_free wx 31 h.lim (by decide))
    rw [Liv.e4] at this
    refine this.mono ?_
    rintro e w' ⟨rfl, h1, h2⟩
    exact ⟨rfl, h1, ((Below.refl _ _).alloc h.low _).trans h2⟩
  have P1 : Hid (∀ wx lim b, FsIn w.heap.size lim wx b Liv.s3 → Calls Try.prog 18 #[.pointer (some ⟨b, 0, none⟩)] wx fun e w' => e = .returned (.int .i64 3) ∧ w' = wx) := fun wx lim b h => by
    have := pending_fs h
    rw [Liv.e5] at this
    exact this
  have SY : Hid (∀ wx lim b, FsIn w.heap.size lim wx b Liv.s3 → Calls Try.prog 12 #[.pointer (some ⟨b, 0, none⟩), .string ⟨#[97]⟩] wx fun e w' => e = .returned (.int .i64 0) ∧ FsIn w.heap.size w'.heap.size w' b Liv.s4 ∧ Below w.heap.size wx w') := fun wx lim b h => by
    have := sync_fs h Liv.k3 Liv.a (by decide)
    rw [Liv.e6] at this
    exact this
  have P2 : Hid (∀ wx lim b, FsIn w.heap.size lim wx b Liv.s4 → Calls Try.prog 18 #[.pointer (some ⟨b, 0, none⟩)] wx fun e w' => e = .returned (.int .i64 1) ∧ w' = wx) := fun wx lim b h => by
    have := pending_fs h
    rw [Liv.e7] at this
    exact this
  have CR : Hid (∀ wx lim b, FsIn w.heap.size lim wx b Liv.s4 → Calls Try.prog 14 #[.pointer (some ⟨b, 0, none⟩), .int .i64 0, .int .i64 0] wx fun e w' => e = .returned (.int .i64 0) ∧ FsIn w.heap.size w'.heap.size w' b Liv.s5 ∧ Below w.heap.size wx w') := fun wx lim b h => crash_fs h Liv.k4 0 0
  have NM : Hid (∀ wx lim b, FsIn w.heap.size lim wx b Liv.s5 → Calls Try.prog 15 #[.pointer (some ⟨b, 0, none⟩)] wx fun e w' => ∃ a c, e = .returned (.slice a 0 c) ∧ Below wx.heap.size wx w') := fun wx lim b h => by
    have := names_fs h Liv.k5
    rw [Liv.e8] at this
    refine this.mono ?_
    rintro e w' ⟨v, rfl, h1, _, h2⟩
    obtain ⟨a, c, rfl⟩ := row_shape h1
    exact ⟨a, c, rfl, h2⟩
  have MK1 := make_bytes 70 (by decide) 70 rfl
  have MK2 := make_bytes 31 (by decide) 31 rfl
  go_enter Try.func4, Try.ntmps4
  go_wp2_with (first
    | (go_at_call 6; refine NW.out.mono ?_; rintro e w1 ⟨b, rfl, f1, b1⟩; clear NW)
    | (go_at_call 8; refine (C1.out _ _ _ f1).mono ?_; rintro e w2 ⟨rfl, f2, b2⟩; have B2 := b1.trans b2; clear C1 f1 b2)
    | (go_at_call 9; have tok := f2; refine (A1.out _ _ _ f2).mono ?_; rintro e w3 ⟨rfl, f3, b3⟩; have B3 := B2.trans b3; clear A1 f2 b3 tok)
    | (go_at_call 17; refine (LF.out _ _ _ f3).mono ?_; rintro e w4 ⟨rfl, f4, b4⟩; have B4 := B3.trans (b4.mono B3.size); clear LF f3 b4)
    | (go_at_call 9; have tok := f4; refine (A2.out _ _ _ f4).mono ?_; rintro e w5 ⟨rfl, f5, b5⟩; have B5 := B4.trans b5; clear A2 f4 b5 tok)
    | (go_at_call 18; have tok := P1; refine still (P1.out _ _ _ f5) ?_; clear P1 tok)
    | (go_at_call 12; refine (SY.out _ _ _ f5).mono ?_; rintro e w6 ⟨rfl, f6, b6⟩; have B6 := B5.trans b6; clear SY f5 b6)
    | (go_at_call 18; have tok := f6; refine still (P2.out _ _ _ f6) ?_; clear P2 tok)
    | (go_at_call 14; refine (CR.out _ _ _ f6).mono ?_; rintro e w7 ⟨rfl, f7, b7⟩; have B7 := B6.trans b7; clear CR f6 b7)
    | (go_at_call 15; refine (NM.out _ _ _ f7).mono ?_; rintro e w8 ⟨a8, c8, rfl, b8⟩; have B8 := B7.trans (b8.mono B7.size); clear NM f7 b8))
  go_ret
  exact ⟨rfl, B8⟩
end Go.Proofs.Ytclokpkhkokfhab
