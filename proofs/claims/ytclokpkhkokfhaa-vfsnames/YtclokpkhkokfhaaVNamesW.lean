/-
  The walk of VfsNames: the chapter's examples, one behind the other.
-/
import Derived.Test.YtclokpkhkokfhaaVNamesP
namespace Go.Proofs.Ytclokpkhkokfhaa.vfsNames
open Go.ChangeShapes Go.WideShapes Go.ChangeAt Go.RowKit Go.Maps Go.Sort Go.Shelf

set_option maxRecDepth 100000 in
set_option maxHeartbeats 16000000 in
theorem walk (w : World) : Calls Try.prog 3 #[] w fun e w' => e = .returned (.bool true) ∧ Below w.heap.size w w' := by
  have kc := fun (w : World) (C : Array Value) (n c : Nat) => Lib.run_convert_bytes_const (P := Try.prog) w 29 5 C n c Try.underlying29 Try.underlying5
  have LV := lives_any
  have NW : Hid (Calls Try.prog 8 #[.int .i64 100] w fun e w' => ∃ b, e = .returned (.tuple #[.pointer (some ⟨b, 0, none⟩), .int .i64 0]) ∧ FsIn w.heap.size w'.heap.size w' b t0 ∧ Below w.heap.size w w') := new_fs w 100 (by decide)
  have NX : Hid (∀ wx, Calls Try.prog 8 #[.int .i64 (-1)] wx fun e w' => e = .returned (.tuple #[.pointer none, .int .i64 2]) ∧ w' = wx) := fun wx => new_bad wx (-1) (by omega)
  have X1 : Hid (∀ wx lim b, FsIn w.heap.size lim wx b t0 → Calls Try.prog 10 #[.pointer (some ⟨b, 0, none⟩), .string ⟨#[97]⟩] wx fun e w' => e = .returned (.int .i64 0) ∧ FsIn w.heap.size w'.heap.size w' b t1 ∧ Below w.heap.size wx w') := fun wx lim b h => by
    have := create_fs h (by have := h0; omega) [97] (by decide)
    rw [e1] at this
    exact this
  have X2 : Hid (∀ wx lim b, FsIn w.heap.size lim wx b t1 → Calls Try.prog 11 #[.pointer (some ⟨b, 0, none⟩), .string ⟨#[97]⟩, .slice (some ⟨wx.heap.size, 0, none⟩) 2 2] (wx.alloc (.cells #[.int .u8 120, .int .u8 121] 5 (2, 3))) fun e w' => e = .returned (.int .i64 0) ∧ FsIn w.heap.size w'.heap.size w' b t2 ∧ Below w.heap.size wx w') := fun wx lim b h => by
    have h' := h.later ((Below.refl _ _).alloc (Nat.le_refl _) (.cells #[.int .u8 120, .int .u8 121] 5 (2, 3)))
    have := append_fs h' [97] (by decide) _ [120, 121] (by have := h1; show _ + 2 ≤ _; omega) (const_free wx [120, 121] 2 3 h.lim (by decide) rfl)
    rw [e2] at this
    refine this.mono ?_
    rintro e w' ⟨rfl, h1, h2⟩
    exact ⟨rfl, h1, ((Below.refl _ _).alloc h.low _).trans h2⟩
  have X3 : Hid (∀ wx lim b, FsIn w.heap.size lim wx b t2 → Calls Try.prog 12 #[.pointer (some ⟨b, 0, none⟩)] wx fun e w' => e = .returned (.int .i64 0) ∧ FsIn w.heap.size w'.heap.size w' b t3 ∧ Below w.heap.size wx w') := fun wx lim b h => by
    have := syncNames_fs h (by have := h2; omega)
    rw [e3] at this
    exact this
  have X4 : Hid (∀ wx lim b, FsIn w.heap.size lim wx b t3 → Calls Try.prog 13 #[.pointer (some ⟨b, 0, none⟩), .int .i64 0, .int .i64 1] wx fun e w' => e = .returned (.int .i64 0) ∧ FsIn w.heap.size w'.heap.size w' b t4 ∧ Below w.heap.size wx w') := fun wx lim b h => by
    exact crash_fs h (by have := h3; omega) 0 1
  have X5 : Hid (∀ wx lim b, FsIn w.heap.size lim wx b t4 → Calls Try.prog 14 #[.pointer (some ⟨b, 0, none⟩), .string ⟨#[97]⟩] wx fun e w' => e = .returned (.string ⟨#[120]⟩) ∧ FsIn w.heap.size lim w' b t4 ∧ Below wx.heap.size wx w') := fun wx lim b h => by
    have := read_text h (by have := h4; omega) [97] (by decide) r5.1
    rw [r5.2] at this
    exact this
  have X6 : Hid (∀ wx lim b, FsIn w.heap.size lim wx b t4 → Calls Try.prog 10 #[.pointer (some ⟨b, 0, none⟩), .string ⟨#[98]⟩] wx fun e w' => e = .returned (.int .i64 0) ∧ FsIn w.heap.size w'.heap.size w' b t5 ∧ Below w.heap.size wx w') := fun wx lim b h => by
    have := create_fs h (by have := h4; omega) [98] (by decide)
    rw [e5] at this
    exact this
  have X7 : Hid (∀ wx lim b, FsIn w.heap.size lim wx b t5 → Calls Try.prog 11 #[.pointer (some ⟨b, 0, none⟩), .string ⟨#[98]⟩, .slice (some ⟨wx.heap.size, 0, none⟩) 1 1] (wx.alloc (.cells #[.int .u8 122] 5 (1, 2))) fun e w' => e = .returned (.int .i64 0) ∧ FsIn w.heap.size w'.heap.size w' b t6 ∧ Below w.heap.size wx w') := fun wx lim b h => by
    have h' := h.later ((Below.refl _ _).alloc (Nat.le_refl _) (.cells #[.int .u8 122] 5 (1, 2)))
    have := append_fs h' [98] (by decide) _ [122] (by have := h5; show _ + 1 ≤ _; omega) (const_free wx [122] 1 2 h.lim (by decide) rfl)
    rw [e6] at this
    refine this.mono ?_
    rintro e w' ⟨rfl, h1, h2⟩
    exact ⟨rfl, h1, ((Below.refl _ _).alloc h.low _).trans h2⟩
  have X8 : Hid (∀ wx lim b, FsIn w.heap.size lim wx b t6 → Calls Try.prog 15 #[.pointer (some ⟨b, 0, none⟩), .string ⟨#[98]⟩] wx fun e w' => e = .returned (.int .i64 0) ∧ FsIn w.heap.size w'.heap.size w' b t7 ∧ Below w.heap.size wx w') := fun wx lim b h => by
    have := sync_fs h (by have := h6; omega) [98] (by decide)
    rw [e7] at this
    exact this
  have X9 : Hid (∀ wx lim b, FsIn w.heap.size lim wx b t7 → Calls Try.prog 12 #[.pointer (some ⟨b, 0, none⟩)] wx fun e w' => e = .returned (.int .i64 0) ∧ FsIn w.heap.size w'.heap.size w' b t8 ∧ Below w.heap.size wx w') := fun wx lim b h => by
    have := syncNames_fs h (by have := h7; omega)
    rw [e8] at this
    exact this
  have X10 : Hid (∀ wx lim b, FsIn w.heap.size lim wx b t8 → Calls Try.prog 16 #[.pointer (some ⟨b, 0, none⟩), .string ⟨#[98]⟩, .string ⟨#[97]⟩] wx fun e w' => e = .returned (.int .i64 0) ∧ FsIn w.heap.size w'.heap.size w' b t9 ∧ Below w.heap.size wx w') := fun wx lim b h => by
    have := rename_fs h (by have := h8; omega) [98] [97] (by decide) (by decide)
    rw [e9] at this
    exact this
  have X11 : Hid (∀ wx lim b, FsIn w.heap.size lim wx b t9 → Calls Try.prog 13 #[.pointer (some ⟨b, 0, none⟩), .int .i64 0, .int .i64 0] wx fun e w' => e = .returned (.int .i64 0) ∧ FsIn w.heap.size w'.heap.size w' b t10 ∧ Below w.heap.size wx w') := fun wx lim b h => by
    exact crash_fs h (by have := h9; omega) 0 0
  have X12 : Hid (∀ wx lim b, FsIn w.heap.size lim wx b t10 → Calls Try.prog 18 #[.pointer (some ⟨b, 0, none⟩)] wx fun e w' => ∃ a c, e = .returned (.slice a 2 c) ∧ TextsAt w' (.slice a 2 c) [[97], [98]] ∧ FsIn w.heap.size lim w' b t10 ∧ Below wx.heap.size wx w') := fun wx lim b h => by
    have := names_fs h (by have := h10; omega)
    rw [r12] at this
    refine this.mono ?_
    rintro e w' ⟨v, rfl, h1, h2, h3⟩
    obtain ⟨a, c, rfl⟩ := row_shape h1
    exact ⟨a, c, rfl, texts_of_own h1, h2, h3⟩
  have Y12 : Hid (∀ wx a c, TextsAt wx (.slice a 2 c) [[97], [98]] → Calls Try.prog 17 #[.slice a 2 c, .slice (some ⟨wx.heap.size, 0, none⟩) 2 2] (wx.alloc (.cells #[.string ⟨#[97]⟩, .string ⟨#[98]⟩] 9)) fun e w' => e = .returned (.bool true) ∧ Below wx.heap.size wx w') := fun wx a c h => by
    have h2 := h.later ((Below.refl _ _).alloc (Nat.le_refl _) (.cells #[.string ⟨#[97]⟩, .string ⟨#[98]⟩] 9))
    have := sameTexts_any _ _ _ _ _ h2 (texts_new wx [[97], [98]]) (by decide)
    rw [decide_eq_true rfl] at this
    refine this.mono ?_
    rintro e w' ⟨rfl, b1⟩
    exact ⟨rfl, ((Below.refl _ _).alloc (Nat.le_refl _) _).trans (b1.mono (by simp))⟩
  have X13 : Hid (∀ wx lim b, FsIn w.heap.size lim wx b t10 → Calls Try.prog 16 #[.pointer (some ⟨b, 0, none⟩), .string ⟨#[98]⟩, .string ⟨#[97]⟩] wx fun e w' => e = .returned (.int .i64 0) ∧ FsIn w.heap.size w'.heap.size w' b t11 ∧ Below w.heap.size wx w') := fun wx lim b h => by
    have := rename_fs h (by have := h10; omega) [98] [97] (by decide) (by decide)
    rw [e11] at this
    exact this
  have X14 : Hid (∀ wx lim b, FsIn w.heap.size lim wx b t11 → Calls Try.prog 12 #[.pointer (some ⟨b, 0, none⟩)] wx fun e w' => e = .returned (.int .i64 0) ∧ FsIn w.heap.size w'.heap.size w' b t12 ∧ Below w.heap.size wx w') := fun wx lim b h => by
    have := syncNames_fs h (by have := h11; omega)
    rw [e12] at this
    exact this
  have X15 : Hid (∀ wx lim b, FsIn w.heap.size lim wx b t12 → Calls Try.prog 13 #[.pointer (some ⟨b, 0, none⟩), .int .i64 0, .int .i64 0] wx fun e w' => e = .returned (.int .i64 0) ∧ FsIn w.heap.size w'.heap.size w' b t13 ∧ Below w.heap.size wx w') := fun wx lim b h => by
    exact crash_fs h (by have := h12; omega) 0 0
  have X16 : Hid (∀ wx lim b, FsIn w.heap.size lim wx b t13 → Calls Try.prog 18 #[.pointer (some ⟨b, 0, none⟩)] wx fun e w' => ∃ a c, e = .returned (.slice a 1 c) ∧ TextsAt w' (.slice a 1 c) [[97]] ∧ FsIn w.heap.size lim w' b t13 ∧ Below wx.heap.size wx w') := fun wx lim b h => by
    have := names_fs h (by have := h13; omega)
    rw [r16] at this
    refine this.mono ?_
    rintro e w' ⟨v, rfl, h1, h2, h3⟩
    obtain ⟨a, c, rfl⟩ := row_shape h1
    exact ⟨a, c, rfl, texts_of_own h1, h2, h3⟩
  have Y16 : Hid (∀ wx a c, TextsAt wx (.slice a 1 c) [[97]] → Calls Try.prog 17 #[.slice a 1 c, .slice (some ⟨wx.heap.size, 0, none⟩) 1 1] (wx.alloc (.cells #[.string ⟨#[97]⟩] 9)) fun e w' => e = .returned (.bool true) ∧ Below wx.heap.size wx w') := fun wx a c h => by
    have h2 := h.later ((Below.refl _ _).alloc (Nat.le_refl _) (.cells #[.string ⟨#[97]⟩] 9))
    have := sameTexts_any _ _ _ _ _ h2 (texts_new wx [[97]]) (by decide)
    rw [decide_eq_true rfl] at this
    refine this.mono ?_
    rintro e w' ⟨rfl, b1⟩
    exact ⟨rfl, ((Below.refl _ _).alloc (Nat.le_refl _) _).trans (b1.mono (by simp))⟩
  have X17 : Hid (∀ wx lim b, FsIn w.heap.size lim wx b t13 → Calls Try.prog 14 #[.pointer (some ⟨b, 0, none⟩), .string ⟨#[97]⟩] wx fun e w' => e = .returned (.string ⟨#[122]⟩) ∧ FsIn w.heap.size lim w' b t13 ∧ Below wx.heap.size wx w') := fun wx lim b h => by
    have := read_text h (by have := h13; omega) [97] (by decide) r17.1
    rw [r17.2] at this
    exact this
  have X18 : Hid (∀ wx lim b, FsIn w.heap.size lim wx b t13 → Calls Try.prog 19 #[.pointer (some ⟨b, 0, none⟩), .string ⟨#[97]⟩, .int .i64 0, .int .u8 1] wx fun e w' => e = .returned (.int .i64 0) ∧ FsIn w.heap.size w'.heap.size w' b t14 ∧ Below w.heap.size wx w') := fun wx lim b h => by
    have := alter_fs h (by have := h13; omega) [97] (by decide) 0 1
    rw [e14] at this
    exact this
  have X19 : Hid (∀ wx lim b, FsIn w.heap.size lim wx b t14 → Calls Try.prog 14 #[.pointer (some ⟨b, 0, none⟩), .string ⟨#[97]⟩] wx fun e w' => e = .returned (.string ⟨#[123]⟩) ∧ FsIn w.heap.size lim w' b t14 ∧ Below wx.heap.size wx w') := fun wx lim b h => by
    have := read_text h (by have := h14; omega) [97] (by decide) r19.1
    rw [r19.2] at this
    exact this
  have X20 : Hid (∀ wx lim b, FsIn w.heap.size lim wx b t14 → Calls Try.prog 19 #[.pointer (some ⟨b, 0, none⟩), .string ⟨#[97]⟩, .int .i64 1, .int .u8 1] wx fun e w' => e = .returned (.int .i64 2) ∧ FsIn w.heap.size w'.heap.size w' b t15 ∧ Below w.heap.size wx w') := fun wx lim b h => by
    have := alter_fs h (by have := h14; omega) [97] (by decide) 1 1
    rw [e15] at this
    exact this
  have X21 : Hid (∀ wx lim b, FsIn w.heap.size lim wx b t15 → Calls Try.prog 19 #[.pointer (some ⟨b, 0, none⟩), .string ⟨#[99]⟩, .int .i64 0, .int .u8 1] wx fun e w' => e = .returned (.int .i64 4) ∧ FsIn w.heap.size w'.heap.size w' b t16 ∧ Below w.heap.size wx w') := fun wx lim b h => by
    have := alter_fs h (by have := h15; omega) [99] (by decide) 0 1
    rw [e16] at this
    exact this
  have X22 : Hid (∀ wx lim b, FsIn w.heap.size lim wx b t16 → Calls Try.prog 20 #[.pointer (some ⟨b, 0, none⟩), .int .i64 1] wx fun e w' => e = .returned (.int .i64 0) ∧ FsIn w.heap.size w'.heap.size w' b t17 ∧ Below w.heap.size wx w') := fun wx lim b h => by
    have := fuse_fs h 1 (by decide)
    rw [e17] at this
    exact this
  have X23 : Hid (∀ wx lim b, FsIn w.heap.size lim wx b t17 → Calls Try.prog 10 #[.pointer (some ⟨b, 0, none⟩), .string ⟨#[99]⟩] wx fun e w' => e = .returned (.int .i64 0) ∧ FsIn w.heap.size w'.heap.size w' b t18 ∧ Below w.heap.size wx w') := fun wx lim b h => by
    have := create_fs h (by have := h17; omega) [99] (by decide)
    rw [e18] at this
    exact this
  have X24 : Hid (∀ wx lim b, FsIn w.heap.size lim wx b t18 → Calls Try.prog 12 #[.pointer (some ⟨b, 0, none⟩)] wx fun e w' => e = .returned (.int .i64 7) ∧ FsIn w.heap.size w'.heap.size w' b t19 ∧ Below w.heap.size wx w') := fun wx lim b h => by
    have := syncNames_fs h (by have := h18; omega)
    rw [e19] at this
    exact this
  have X25 : Hid (∀ wx lim b, FsIn w.heap.size lim wx b t19 → Calls Try.prog 21 #[.pointer (some ⟨b, 0, none⟩)] wx fun e w' => e = .returned (.bool false) ∧ w' = wx) := fun wx lim b h => by
    have := on_fs h
    rw [r25] at this
    exact this
  have X26 : Hid (∀ wx lim b, FsIn w.heap.size lim wx b t19 → Calls Try.prog 13 #[.pointer (some ⟨b, 0, none⟩), .int .i64 9, .int .i64 9] wx fun e w' => e = .returned (.int .i64 0) ∧ FsIn w.heap.size w'.heap.size w' b t20 ∧ Below w.heap.size wx w') := fun wx lim b h => by
    exact crash_fs h (by have := h19; omega) 9 9
  have X27 : Hid (∀ wx lim b, FsIn w.heap.size lim wx b t20 → Calls Try.prog 18 #[.pointer (some ⟨b, 0, none⟩)] wx fun e w' => ∃ a c, e = .returned (.slice a 2 c) ∧ TextsAt w' (.slice a 2 c) [[97], [99]] ∧ FsIn w.heap.size lim w' b t20 ∧ Below wx.heap.size wx w') := fun wx lim b h => by
    have := names_fs h (by have := h20; omega)
    rw [r27] at this
    refine this.mono ?_
    rintro e w' ⟨v, rfl, h1, h2, h3⟩
    obtain ⟨a, c, rfl⟩ := row_shape h1
    exact ⟨a, c, rfl, texts_of_own h1, h2, h3⟩
  have Y27 : Hid (∀ wx a c, TextsAt wx (.slice a 2 c) [[97], [99]] → Calls Try.prog 17 #[.slice a 2 c, .slice (some ⟨wx.heap.size, 0, none⟩) 2 2] (wx.alloc (.cells #[.string ⟨#[97]⟩, .string ⟨#[99]⟩] 9)) fun e w' => e = .returned (.bool true) ∧ Below wx.heap.size wx w') := fun wx a c h => by
    have h2 := h.later ((Below.refl _ _).alloc (Nat.le_refl _) (.cells #[.string ⟨#[97]⟩, .string ⟨#[99]⟩] 9))
    have := sameTexts_any _ _ _ _ _ h2 (texts_new wx [[97], [99]]) (by decide)
    rw [decide_eq_true rfl] at this
    refine this.mono ?_
    rintro e w' ⟨rfl, b1⟩
    exact ⟨rfl, ((Below.refl _ _).alloc (Nat.le_refl _) _).trans (b1.mono (by simp))⟩
  go_enter Try.func3, Try.ntmps3
  go_wp2_with (first
    | (go_at_call 8; have tok := NW; refine NW.out.mono ?_; rintro e w0 ⟨b, rfl, f0, b0⟩; clear NW tok)
    | (go_at_call 9; refine (LV _).mono ?_; rintro e u0 ⟨rfl, c0⟩; have f0 := f0.later c0; have B0 := b0.trans (c0.mono b0.size); clear LV c0 b0)
    | (go_at_call 10; have tok := f0; refine (X1.out _ _ _ f0).mono ?_; rintro e w1 ⟨rfl, f1, b1⟩; have B1 := B0.trans b1; clear X1 f0 b1 tok B0)
    | (go_at_call 11; have tok := f1; refine (X2.out _ _ _ f1).mono ?_; rintro e w2 ⟨rfl, f2, b2⟩; have B2 := B1.trans b2; clear X2 f1 b2 tok B1)
    | (go_at_call 12; have tok := f2; refine (X3.out _ _ _ f2).mono ?_; rintro e w3 ⟨rfl, f3, b3⟩; have B3 := B2.trans b3; clear X3 f2 b3 tok B2)
    | (go_at_call 13; have tok := f3; refine (X4.out _ _ _ f3).mono ?_; rintro e w4 ⟨rfl, f4, b4⟩; have B4 := B3.trans b4; clear X4 f3 b4 tok B3)
    | (go_at_call 14; have tok := f4; refine (X5.out _ _ _ f4).mono ?_; rintro e w5 ⟨rfl, f5, b5⟩; have B5 := B4.trans (b5.mono B4.size); clear X5 f4 b5 tok B4)
    | (go_at_call 10; have tok := f5; refine (X6.out _ _ _ f5).mono ?_; rintro e w6 ⟨rfl, f6, b6⟩; have B6 := B5.trans b6; clear X6 f5 b6 tok B5)
    | (go_at_call 11; have tok := f6; refine (X7.out _ _ _ f6).mono ?_; rintro e w7 ⟨rfl, f7, b7⟩; have B7 := B6.trans b7; clear X7 f6 b7 tok B6)
    | (go_at_call 15; have tok := f7; refine (X8.out _ _ _ f7).mono ?_; rintro e w8 ⟨rfl, f8, b8⟩; have B8 := B7.trans b8; clear X8 f7 b8 tok B7)
    | (go_at_call 12; have tok := f8; refine (X9.out _ _ _ f8).mono ?_; rintro e w9 ⟨rfl, f9, b9⟩; have B9 := B8.trans b9; clear X9 f8 b9 tok B8)
    | (go_at_call 16; have tok := f9; refine (X10.out _ _ _ f9).mono ?_; rintro e w10 ⟨rfl, f10, b10⟩; have B10 := B9.trans b10; clear X10 f9 b10 tok B9)
    | (go_at_call 13; have tok := f10; refine (X11.out _ _ _ f10).mono ?_; rintro e w11 ⟨rfl, f11, b11⟩; have B11 := B10.trans b11; clear X11 f10 b11 tok B10)
    | (go_at_call 18; have tok := f11; refine (X12.out _ _ _ f11).mono ?_; rintro e w12 ⟨na12, nc12, rfl, x12, f12, b12⟩; have B12 := B11.trans (b12.mono B11.size); clear X12 f11 b12 tok B11)
    | (go_at_call 17; have tok := x12; refine (Y12.out _ _ _ x12).mono ?_; rintro e v12 ⟨rfl, d12⟩; have f12 := f12.later d12; have B12 := B12.trans (d12.mono B12.size); clear Y12 x12 tok d12)
    | (go_at_call 16; have tok := f12; refine (X13.out _ _ _ f12).mono ?_; rintro e w13 ⟨rfl, f13, b13⟩; have B13 := B12.trans b13; clear X13 f12 b13 tok B12)
    | (go_at_call 12; have tok := f13; refine (X14.out _ _ _ f13).mono ?_; rintro e w14 ⟨rfl, f14, b14⟩; have B14 := B13.trans b14; clear X14 f13 b14 tok B13)
    | (go_at_call 13; have tok := f14; refine (X15.out _ _ _ f14).mono ?_; rintro e w15 ⟨rfl, f15, b15⟩; have B15 := B14.trans b15; clear X15 f14 b15 tok B14)
    | (go_at_call 18; have tok := f15; refine (X16.out _ _ _ f15).mono ?_; rintro e w16 ⟨na16, nc16, rfl, x16, f16, b16⟩; have B16 := B15.trans (b16.mono B15.size); clear X16 f15 b16 tok B15)
    | (go_at_call 17; have tok := x16; refine (Y16.out _ _ _ x16).mono ?_; rintro e v16 ⟨rfl, d16⟩; have f16 := f16.later d16; have B16 := B16.trans (d16.mono B16.size); clear Y16 x16 tok d16)
    | (go_at_call 14; have tok := f16; refine (X17.out _ _ _ f16).mono ?_; rintro e w17 ⟨rfl, f17, b17⟩; have B17 := B16.trans (b17.mono B16.size); clear X17 f16 b17 tok B16)
    | (go_at_call 19; have tok := f17; refine (X18.out _ _ _ f17).mono ?_; rintro e w18 ⟨rfl, f18, b18⟩; have B18 := B17.trans b18; clear X18 f17 b18 tok B17)
    | (go_at_call 14; have tok := f18; refine (X19.out _ _ _ f18).mono ?_; rintro e w19 ⟨rfl, f19, b19⟩; have B19 := B18.trans (b19.mono B18.size); clear X19 f18 b19 tok B18)
    | (go_at_call 19; have tok := f19; refine (X20.out _ _ _ f19).mono ?_; rintro e w20 ⟨rfl, f20, b20⟩; have B20 := B19.trans b20; clear X20 f19 b20 tok B19)
    | (go_at_call 19; have tok := f20; refine (X21.out _ _ _ f20).mono ?_; rintro e w21 ⟨rfl, f21, b21⟩; have B21 := B20.trans b21; clear X21 f20 b21 tok B20)
    | (go_at_call 20; have tok := f21; refine (X22.out _ _ _ f21).mono ?_; rintro e w22 ⟨rfl, f22, b22⟩; have B22 := B21.trans b22; clear X22 f21 b22 tok B21)
    | (go_at_call 10; have tok := f22; refine (X23.out _ _ _ f22).mono ?_; rintro e w23 ⟨rfl, f23, b23⟩; have B23 := B22.trans b23; clear X23 f22 b23 tok B22)
    | (go_at_call 12; have tok := f23; refine (X24.out _ _ _ f23).mono ?_; rintro e w24 ⟨rfl, f24, b24⟩; have B24 := B23.trans b24; clear X24 f23 b24 tok B23)
    | (go_at_call 21; refine still (X25.out _ _ _ f24) ?_; have f25 := f24; have B25 := B24; clear X25 f24 B24)
    | (go_at_call 13; have tok := f25; refine (X26.out _ _ _ f25).mono ?_; rintro e w26 ⟨rfl, f26, b26⟩; have B26 := B25.trans b26; clear X26 f25 b26 tok B25)
    | (go_at_call 18; have tok := f26; refine (X27.out _ _ _ f26).mono ?_; rintro e w27 ⟨na27, nc27, rfl, x27, f27, b27⟩; have B27 := B26.trans (b27.mono B26.size); clear X27 f26 b27 tok B26)
    | (go_at_call 17; have tok := x27; refine (Y27.out _ _ _ x27).mono ?_; rintro e v27 ⟨rfl, d27⟩; have f27 := f27.later d27; have B27 := B27.trans (d27.mono B27.size); clear Y27 x27 tok d27)
    | (go_at_call 8; have tok := NX; refine still (NX.out _) ?_; clear NX tok))
  go_ret
  exact ⟨rfl, B27⟩
end Go.Proofs.Ytclokpkhkokfhaa.vfsNames
