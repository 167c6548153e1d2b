/-
  The walks of VfsMoves, one for each way that it can go.
-/
import Derived.Test.YtclokpkhkokfhaaVMovesW
namespace Go.Proofs.Ytclokpkhkokfhaa.vfsMoves
open Go.ChangeShapes Go.WideShapes Go.ChangeAt Go.RowKit Go.Maps Go.Sort Go.Shelf

set_option maxRecDepth 100000 in
set_option maxHeartbeats 8000000 in
theorem walk0 (w : World) (v0 v1 : Value) (old now : Vf.Bs) (p : Pre w v0 v1 old now) (F K T : Nat) (hF : F ≤ 9223372036854775807) (g0 : Vf.createE (s5 old F) Vf.Mov.nw ≠ 0) :
    Calls Try.prog 6 #[v0, v1, .int .i64 (F : Int), .int .i64 (K : Int), .int .i64 (T : Int)] w fun e w' => e = .returned (.bool true) ∧ Below w.heap.size w w' := by
  obtain ⟨x0, d0, rfl⟩ := p.shape0
  obtain ⟨x1, d1, rfl⟩ := p.shape1
  have RD : Hid (Vf.findE (Vf.crash (Vf.create (s5 old F) Vf.Mov.nw) K T) Vf.Mov.cur = 0 ∧ (Vf.read (Vf.crash (Vf.create (s5 old F) Vf.Mov.nw) K T) Vf.Mov.cur = old ∨ Vf.read (Vf.crash (Vf.create (s5 old F) Vf.Mov.nw) K T) Vf.Mov.cur = now)) := part_0 p.o F hF g0 K T
  obtain ⟨l, hl⟩ : ∃ l, l = Vf.read (Vf.crash (Vf.create (s5 old F) Vf.Mov.nw) K T) Vf.Mov.cur := ⟨_, rfl⟩
  have i1 : ¬ (old.length : Int) > 400 := by have := p.o; omega
  have i2 : ¬ (now.length : Int) > 400 := by have := p.n; omega
  have i3 : ¬ (K : Int) < 0 := by omega
  have i4 : ¬ (T : Int) < 0 := by omega
  have i5 : ¬ (F : Int) < 0 := by omega
  have LV := lives_any
  have NW := new_20
  have PP : Hid _ := p
  have C1 := c1 w
  have C2 := c2 w old p.o
  have C3 := c3 w old p.o
  have C4 := c4 w old p.o
  have C5 := c5 w old p.o F hF
  obtain ⟨E0, hE0⟩ : ∃ E, E = Vf.createE (s5 old F) Vf.Mov.nw := ⟨_, rfl⟩
  have D0 : Hid (∀ wx lim b, FsIn w.heap.size lim wx b (s5 old F) → Calls Try.prog 10 #[.pointer (some ⟨b, 0, none⟩), .string ⟨#[110, 101, 119]⟩] wx fun e w' => e = .returned (.int .i64 E0) ∧ FsIn w.heap.size w'.heap.size w' b (Vf.create (s5 old F) Vf.Mov.nw) ∧ Below w.heap.size wx w') := fun wx lim b h => by
    rw [hE0]
    exact create_fs h (steps5 old p.o F 0 _ (by exact Nat.le_refl _)) Vf.Mov.nw (by decide)
  rw [← hE0] at g0
  have CR : Hid (∀ wx lim b, FsIn w.heap.size lim wx b (Vf.create (s5 old F) Vf.Mov.nw) → Calls Try.prog 13 #[.pointer (some ⟨b, 0, none⟩), .int .i64 (K : Int), .int .i64 (T : Int)] wx fun e w' => e = .returned (.int .i64 0) ∧ FsIn w.heap.size w'.heap.size w' b (Vf.crash (Vf.create (s5 old F) Vf.Mov.nw) K T) ∧ Below w.heap.size wx w') := fun wx lim b h => crash_fs h (by have := stepsZ old now p.o p.n F 1; exact this) K T
  have RF : Hid (∀ wx lim b, FsIn w.heap.size lim wx b (Vf.crash (Vf.create (s5 old F) Vf.Mov.nw) K T) → Calls Try.prog 22 #[.pointer (some ⟨b, 0, none⟩), .string ⟨#[99, 117, 114, 114, 101, 110, 116]⟩] wx fun e w' => ∃ a c, e = .returned (.tuple #[.slice a l.length c, .int .i64 0]) ∧ BytesIn w' (.slice a l.length c) l ∧ Below wx.heap.size wx w') := fun wx lim b h => by
    have := read_fs h (by rw [Vf.crash_steps]; have := stepsZ old now p.o p.n F 1; exact this) Vf.Mov.cur (by decide)
    rw [RD.out.1, ← hl] at this
    refine this.mono ?_
    rintro e w' ⟨v', rfl, o, _, h2⟩
    obtain ⟨a, c, rfl⟩ := row_shape o
    exact ⟨a, c, rfl, bytes_of_own o (by have := p.o; have := p.n; rcases RD.out.2 with e | e <;> rw [hl, e] <;> omega), h2⟩
  have S1 : Hid (∀ wx a c, BytesIn wx (.slice a l.length c) l → Below w.heap.size w wx → Calls Try.prog 30 #[.slice a l.length c, .slice x1 now.length d1] wx fun e w' => e = .returned (.bool (decide (l = now))) ∧ Below wx.heap.size wx w') := fun wx a c h hw => same_any wx _ _ _ _ h (p.b1.later hw)
  have HL : Hid (l = old ∨ l = now) := by show _ ∨ _; rw [hl]; exact RD.out.2
  have S2 : Hid (∀ wx a c, BytesIn wx (.slice a l.length c) l → Below w.heap.size w wx → Calls Try.prog 30 #[.slice a l.length c, .slice x0 old.length d0] wx fun e w' => e = .returned (.bool (decide (l = old))) ∧ Below wx.heap.size wx w') := fun wx a c h hw => same_any wx _ _ _ _ h (p.b0.later hw)
  have q0 : (E0 == 0) = false := by simpa using g0
  clear RD hl p hE0 g0
  by_cases hn : l = now
  · have hd : decide (l = now) = true := decide_eq_true hn
    rw [hd] at S1
    clear hd HL hn S2
    go_enter Try.func6, Try.ntmps6
    go_wp2_with (first
      | (go_at_call 9; refine (LV _).mono ?_; rintro e w1 ⟨rfl, b1⟩; clear LV)
      | (go_at_call 8; refine (NW _ _ b1).mono ?_; rintro e w2 ⟨b, rfl, f2, b2⟩; have B2 := b1.trans (b2.mono b1.size); clear NW b2 b1)
      | (go_at_call 10; have tok := C1; refine (C1 _ _ _ f2).mono ?_; rintro e w3 ⟨rfl, f3, b3⟩; have B3 := B2.trans b3; clear C1 f2 b3 tok B2)
      | (go_at_call 11; have tok := C2; refine (C2 _ _ _ _ f3 (PP.out.free0 f3 B3)).mono ?_; rintro e w4 ⟨rfl, f4, b4⟩; have B4 := B3.trans b4; clear C2 f3 b4 tok B3)
      | (go_at_call 15; have tok := C3; refine (C3 _ _ _ f4).mono ?_; rintro e w5 ⟨rfl, f5, b5⟩; have B5 := B4.trans b5; clear C3 f4 b5 tok B4)
      | (go_at_call 12; have tok := C4; refine (C4 _ _ _ f5).mono ?_; rintro e w6 ⟨rfl, f6, b6⟩; have B6 := B5.trans b6; clear C4 f5 b6 tok B5)
      | (go_at_call 20; refine (C5 _ _ _ f6).mono ?_; rintro e w7 ⟨rfl, f7, b7⟩; have B7 := B6.trans b7; clear C5 f6 b7 B6)
      | (go_at_call 10; have tok := f7; refine (D0.out _ _ _ f7).mono ?_; rintro e w8 ⟨rfl, f8, b8⟩; have B8 := B7.trans b8; clear D0 f7 b8 tok B7)
      | (go_at_call 13; refine (CR.out _ _ _ f8).mono ?_; rintro e w9 ⟨rfl, f9, b9⟩; have B9 := B8.trans b9; clear CR f8 b9 B8)
      | (go_at_call 22; refine (RF.out _ _ _ f9).mono ?_; rintro e w10 ⟨ra, rc, rfl, v10, b10⟩; have B10 := B9.trans (b10.mono B9.size); clear RF f9 b10 B9)
      | (go_at_call 30; refine (S1.out _ _ _ v10 B10).mono ?_; rintro e w11 ⟨rfl, b11⟩; have B11 := B10.trans (b11.mono B10.size); clear S1 b11 B10))
    go_ret
    exact ⟨rfl, B11⟩
  · have hd : decide (l = now) = false := decide_eq_false hn
    have he : decide (l = old) = true := decide_eq_true (HL.out.resolve_right hn)
    rw [hd] at S1
    rw [he] at S2
    clear hd he HL hn
    go_enter Try.func6, Try.ntmps6
    go_wp2_with (first
      | (go_at_call 9; refine (LV _).mono ?_; rintro e w1 ⟨rfl, b1⟩; clear LV)
      | (go_at_call 8; refine (NW _ _ b1).mono ?_; rintro e w2 ⟨b, rfl, f2, b2⟩; have B2 := b1.trans (b2.mono b1.size); clear NW b2 b1)
      | (go_at_call 10; have tok := C1; refine (C1 _ _ _ f2).mono ?_; rintro e w3 ⟨rfl, f3, b3⟩; have B3 := B2.trans b3; clear C1 f2 b3 tok B2)
      | (go_at_call 11; have tok := C2; refine (C2 _ _ _ _ f3 (PP.out.free0 f3 B3)).mono ?_; rintro e w4 ⟨rfl, f4, b4⟩; have B4 := B3.trans b4; clear C2 f3 b4 tok B3)
      | (go_at_call 15; have tok := C3; refine (C3 _ _ _ f4).mono ?_; rintro e w5 ⟨rfl, f5, b5⟩; have B5 := B4.trans b5; clear C3 f4 b5 tok B4)
      | (go_at_call 12; have tok := C4; refine (C4 _ _ _ f5).mono ?_; rintro e w6 ⟨rfl, f6, b6⟩; have B6 := B5.trans b6; clear C4 f5 b6 tok B5)
      | (go_at_call 20; refine (C5 _ _ _ f6).mono ?_; rintro e w7 ⟨rfl, f7, b7⟩; have B7 := B6.trans b7; clear C5 f6 b7 B6)
      | (go_at_call 10; have tok := f7; refine (D0.out _ _ _ f7).mono ?_; rintro e w8 ⟨rfl, f8, b8⟩; have B8 := B7.trans b8; clear D0 f7 b8 tok B7)
      | (go_at_call 13; refine (CR.out _ _ _ f8).mono ?_; rintro e w9 ⟨rfl, f9, b9⟩; have B9 := B8.trans b9; clear CR f8 b9 B8)
      | (go_at_call 22; refine (RF.out _ _ _ f9).mono ?_; rintro e w10 ⟨ra, rc, rfl, v10, b10⟩; have B10 := B9.trans (b10.mono B9.size); clear RF f9 b10 B9)
      | (go_at_call 30; have tok := S1; refine (S1.out _ _ _ v10 B10).mono ?_; rintro e w11 ⟨rfl, b11⟩; have B11 := B10.trans (b11.mono B10.size); have v11 := v10.later b11; clear S1 b11 B10 tok)
      | (go_at_call 30; have tok := B11; refine (S2.out _ _ _ v11 B11).mono ?_; rintro e w12 ⟨rfl, b12⟩; have B12 := B11.trans (b12.mono B11.size); clear S2 b12 B11 tok))
    go_ret
    exact ⟨rfl, B12⟩

set_option maxRecDepth 100000 in
set_option maxHeartbeats 8000000 in
theorem walk1 (w : World) (v0 v1 : Value) (old now : Vf.Bs) (p : Pre w v0 v1 old now) (F K T : Nat) (hF : F ≤ 9223372036854775807) (g0 : Vf.createE (s5 old F) Vf.Mov.nw = 0) (g1 : Vf.appendE (Vf.create (s5 old F) Vf.Mov.nw) Vf.Mov.nw now ≠ 0) :
    Calls Try.prog 6 #[v0, v1, .int .i64 (F : Int), .int .i64 (K : Int), .int .i64 (T : Int)] w fun e w' => e = .returned (.bool true) ∧ Below w.heap.size w w' := by
  obtain ⟨x0, d0, rfl⟩ := p.shape0
  obtain ⟨x1, d1, rfl⟩ := p.shape1
  have RD : Hid (Vf.findE (Vf.crash (Vf.append (Vf.create (s5 old F) Vf.Mov.nw) Vf.Mov.nw now) K T) Vf.Mov.cur = 0 ∧ (Vf.read (Vf.crash (Vf.append (Vf.create (s5 old F) Vf.Mov.nw) Vf.Mov.nw now) K T) Vf.Mov.cur = old ∨ Vf.read (Vf.crash (Vf.append (Vf.create (s5 old F) Vf.Mov.nw) Vf.Mov.nw now) K T) Vf.Mov.cur = now)) := part_1 p.o F hF g0 g1 K T
  obtain ⟨l, hl⟩ : ∃ l, l = Vf.read (Vf.crash (Vf.append (Vf.create (s5 old F) Vf.Mov.nw) Vf.Mov.nw now) K T) Vf.Mov.cur := ⟨_, rfl⟩
  have i1 : ¬ (old.length : Int) > 400 := by have := p.o; omega
  have i2 : ¬ (now.length : Int) > 400 := by have := p.n; omega
  have i3 : ¬ (K : Int) < 0 := by omega
  have i4 : ¬ (T : Int) < 0 := by omega
  have i5 : ¬ (F : Int) < 0 := by omega
  have LV := lives_any
  have NW := new_20
  have PP : Hid _ := p
  have C1 := c1 w
  have C2 := c2 w old p.o
  have C3 := c3 w old p.o
  have C4 := c4 w old p.o
  have C5 := c5 w old p.o F hF
  obtain ⟨E0, hE0⟩ : ∃ E, E = Vf.createE (s5 old F) Vf.Mov.nw := ⟨_, rfl⟩
  have D0 : Hid (∀ wx lim b, FsIn w.heap.size lim wx b (s5 old F) → Calls Try.prog 10 #[.pointer (some ⟨b, 0, none⟩), .string ⟨#[110, 101, 119]⟩] wx fun e w' => e = .returned (.int .i64 E0) ∧ FsIn w.heap.size w'.heap.size w' b (Vf.create (s5 old F) Vf.Mov.nw) ∧ Below w.heap.size wx w') := fun wx lim b h => by
    rw [hE0]
    exact create_fs h (steps5 old p.o F 0 _ (by exact Nat.le_refl _)) Vf.Mov.nw (by decide)
  rw [← hE0] at g0
  obtain ⟨E1, hE1⟩ : ∃ E, E = Vf.appendE (Vf.create (s5 old F) Vf.Mov.nw) Vf.Mov.nw now := ⟨_, rfl⟩
  have D1 : Hid (∀ wx lim b, FsIn w.heap.size lim wx b (Vf.create (s5 old F) Vf.Mov.nw) → Below w.heap.size w wx → Calls Try.prog 11 #[.pointer (some ⟨b, 0, none⟩), .string ⟨#[110, 101, 119]⟩, .slice x1 now.length d1] wx fun e w' => e = .returned (.int .i64 E1) ∧ FsIn w.heap.size w'.heap.size w' b (Vf.append (Vf.create (s5 old F) Vf.Mov.nw) Vf.Mov.nw now) ∧ Below w.heap.size wx w') := fun wx lim b h hw => by
    rw [hE1]
    exact append_fs h Vf.Mov.nw (by decide) _ now (by have := p.n; have := stepsA old now p.o p.n F; omega) (p.free1 h hw)
  rw [← hE1] at g1
  have CR : Hid (∀ wx lim b, FsIn w.heap.size lim wx b (Vf.append (Vf.create (s5 old F) Vf.Mov.nw) Vf.Mov.nw now) → Calls Try.prog 13 #[.pointer (some ⟨b, 0, none⟩), .int .i64 (K : Int), .int .i64 (T : Int)] wx fun e w' => e = .returned (.int .i64 0) ∧ FsIn w.heap.size w'.heap.size w' b (Vf.crash (Vf.append (Vf.create (s5 old F) Vf.Mov.nw) Vf.Mov.nw now) K T) ∧ Below w.heap.size wx w') := fun wx lim b h => crash_fs h (by have := stepsZ old now p.o p.n F 2; exact this) K T
  have RF : Hid (∀ wx lim b, FsIn w.heap.size lim wx b (Vf.crash (Vf.append (Vf.create (s5 old F) Vf.Mov.nw) Vf.Mov.nw now) K T) → Calls Try.prog 22 #[.pointer (some ⟨b, 0, none⟩), .string ⟨#[99, 117, 114, 114, 101, 110, 116]⟩] wx fun e w' => ∃ a c, e = .returned (.tuple #[.slice a l.length c, .int .i64 0]) ∧ BytesIn w' (.slice a l.length c) l ∧ Below wx.heap.size wx w') := fun wx lim b h => by
    have := read_fs h (by rw [Vf.crash_steps]; have := stepsZ old now p.o p.n F 2; exact this) Vf.Mov.cur (by decide)
    rw [RD.out.1, ← hl] at this
    refine this.mono ?_
    rintro e w' ⟨v', rfl, o, _, h2⟩
    obtain ⟨a, c, rfl⟩ := row_shape o
    exact ⟨a, c, rfl, bytes_of_own o (by have := p.o; have := p.n; rcases RD.out.2 with e | e <;> rw [hl, e] <;> omega), h2⟩
  have S1 : Hid (∀ wx a c, BytesIn wx (.slice a l.length c) l → Below w.heap.size w wx → Calls Try.prog 30 #[.slice a l.length c, .slice x1 now.length d1] wx fun e w' => e = .returned (.bool (decide (l = now))) ∧ Below wx.heap.size wx w') := fun wx a c h hw => same_any wx _ _ _ _ h (p.b1.later hw)
  have HL : Hid (l = old ∨ l = now) := by show _ ∨ _; rw [hl]; exact RD.out.2
  have S2 : Hid (∀ wx a c, BytesIn wx (.slice a l.length c) l → Below w.heap.size w wx → Calls Try.prog 30 #[.slice a l.length c, .slice x0 old.length d0] wx fun e w' => e = .returned (.bool (decide (l = old))) ∧ Below wx.heap.size wx w') := fun wx a c h hw => same_any wx _ _ _ _ h (p.b0.later hw)
  have q0 : (E0 == 0) = true := by simpa using g0
  have q1 : (E1 == 0) = false := by simpa using g1
  clear RD hl p hE0 hE1 g0 g1
  by_cases hn : l = now
  · have hd : decide (l = now) = true := decide_eq_true hn
    rw [hd] at S1
    clear hd HL hn S2
    go_enter Try.func6, Try.ntmps6
    go_wp2_with (first
      | (go_at_call 9; refine (LV _).mono ?_; rintro e w1 ⟨rfl, b1⟩; clear LV)
      | (go_at_call 8; refine (NW _ _ b1).mono ?_; rintro e w2 ⟨b, rfl, f2, b2⟩; have B2 := b1.trans (b2.mono b1.size); clear NW b2 b1)
      | (go_at_call 10; have tok := C1; refine (C1 _ _ _ f2).mono ?_; rintro e w3 ⟨rfl, f3, b3⟩; have B3 := B2.trans b3; clear C1 f2 b3 tok B2)
      | (go_at_call 11; have tok := C2; refine (C2 _ _ _ _ f3 (PP.out.free0 f3 B3)).mono ?_; rintro e w4 ⟨rfl, f4, b4⟩; have B4 := B3.trans b4; clear C2 f3 b4 tok B3)
      | (go_at_call 15; have tok := C3; refine (C3 _ _ _ f4).mono ?_; rintro e w5 ⟨rfl, f5, b5⟩; have B5 := B4.trans b5; clear C3 f4 b5 tok B4)
      | (go_at_call 12; have tok := C4; refine (C4 _ _ _ f5).mono ?_; rintro e w6 ⟨rfl, f6, b6⟩; have B6 := B5.trans b6; clear C4 f5 b6 tok B5)
      | (go_at_call 20; refine (C5 _ _ _ f6).mono ?_; rintro e w7 ⟨rfl, f7, b7⟩; have B7 := B6.trans b7; clear C5 f6 b7 B6)
      | (go_at_call 10; have tok := f7; refine (D0.out _ _ _ f7).mono ?_; rintro e w8 ⟨rfl, f8, b8⟩; have B8 := B7.trans b8; clear D0 f7 b8 tok B7)
      | (go_at_call 11; have tok := f8; refine (D1.out _ _ _ f8 B8).mono ?_; rintro e w9 ⟨rfl, f9, b9⟩; have B9 := B8.trans b9; clear D1 f8 b9 tok B8)
      | (go_at_call 13; refine (CR.out _ _ _ f9).mono ?_; rintro e w10 ⟨rfl, f10, b10⟩; have B10 := B9.trans b10; clear CR f9 b10 B9)
      | (go_at_call 22; refine (RF.out _ _ _ f10).mono ?_; rintro e w11 ⟨ra, rc, rfl, v11, b11⟩; have B11 := B10.trans (b11.mono B10.size); clear RF f10 b11 B10)
      | (go_at_call 30; refine (S1.out _ _ _ v11 B11).mono ?_; rintro e w12 ⟨rfl, b12⟩; have B12 := B11.trans (b12.mono B11.size); clear S1 b12 B11))
    go_ret
    exact ⟨rfl, B12⟩
  · have hd : decide (l = now) = false := decide_eq_false hn
    have he : decide (l = old) = true := decide_eq_true (HL.out.resolve_right hn)
    rw [hd] at S1
    rw [he] at S2
    clear hd he HL hn
    go_enter Try.func6, Try.ntmps6
    go_wp2_with (first
      | (go_at_call 9; refine (LV _).mono ?_; rintro e w1 ⟨rfl, b1⟩; clear LV)
      | (go_at_call 8; refine (NW _ _ b1).mono ?_; rintro e w2 ⟨b, rfl, f2, b2⟩; have B2 := b1.trans (b2.mono b1.size); clear NW b2 b1)
      | (go_at_call 10; have tok := C1; refine (C1 _ _ _ f2).mono ?_; rintro e w3 ⟨rfl, f3, b3⟩; have B3 := B2.trans b3; clear C1 f2 b3 tok B2)
      | (go_at_call 11; have tok := C2; refine (C2 _ _ _ _ f3 (PP.out.free0 f3 B3)).mono ?_; rintro e w4 ⟨rfl, f4, b4⟩; have B4 := B3.trans b4; clear C2 f3 b4 tok B3)
      | (go_at_call 15; have tok := C3; refine (C3 _ _ _ f4).mono ?_; rintro e w5 ⟨rfl, f5, b5⟩; have B5 := B4.trans b5; clear C3 f4 b5 tok B4)
      | (go_at_call 12; have tok := C4; refine (C4 _ _ _ f5).mono ?_; rintro e w6 ⟨rfl, f6, b6⟩; have B6 := B5.trans b6; clear C4 f5 b6 tok B5)
      | (go_at_call 20; refine (C5 _ _ _ f6).mono ?_; rintro e w7 ⟨rfl, f7, b7⟩; have B7 := B6.trans b7; clear C5 f6 b7 B6)
      | (go_at_call 10; have tok := f7; refine (D0.out _ _ _ f7).mono ?_; rintro e w8 ⟨rfl, f8, b8⟩; have B8 := B7.trans b8; clear D0 f7 b8 tok B7)
      | (go_at_call 11; have tok := f8; refine (D1.out _ _ _ f8 B8).mono ?_; rintro e w9 ⟨rfl, f9, b9⟩; have B9 := B8.trans b9; clear D1 f8 b9 tok B8)
      | (go_at_call 13; refine (CR.out _ _ _ f9).mono ?_; rintro e w10 ⟨rfl, f10, b10⟩; have B10 := B9.trans b10; clear CR f9 b10 B9)
      | (go_at_call 22; refine (RF.out _ _ _ f10).mono ?_; rintro e w11 ⟨ra, rc, rfl, v11, b11⟩; have B11 := B10.trans (b11.mono B10.size); clear RF f10 b11 B10)
      | (go_at_call 30; have tok := S1; refine (S1.out _ _ _ v11 B11).mono ?_; rintro e w12 ⟨rfl, b12⟩; have B12 := B11.trans (b12.mono B11.size); have v12 := v11.later b12; clear S1 b12 B11 tok)
      | (go_at_call 30; have tok := B12; refine (S2.out _ _ _ v12 B12).mono ?_; rintro e w13 ⟨rfl, b13⟩; have B13 := B12.trans (b13.mono B12.size); clear S2 b13 B12 tok))
    go_ret
    exact ⟨rfl, B13⟩

set_option maxRecDepth 100000 in
set_option maxHeartbeats 8000000 in
theorem walk2 (w : World) (v0 v1 : Value) (old now : Vf.Bs) (p : Pre w v0 v1 old now) (F K T : Nat) (hF : F ≤ 9223372036854775807) (g0 : Vf.createE (s5 old F) Vf.Mov.nw = 0) (g1 : Vf.appendE (Vf.create (s5 old F) Vf.Mov.nw) Vf.Mov.nw now = 0) (g2 : Vf.syncE (Vf.append (Vf.create (s5 old F) Vf.Mov.nw) Vf.Mov.nw now) Vf.Mov.nw ≠ 0) :
    Calls Try.prog 6 #[v0, v1, .int .i64 (F : Int), .int .i64 (K : Int), .int .i64 (T : Int)] w fun e w' => e = .returned (.bool true) ∧ Below w.heap.size w w' := by
  obtain ⟨x0, d0, rfl⟩ := p.shape0
  obtain ⟨x1, d1, rfl⟩ := p.shape1
  have RD : Hid (Vf.findE (Vf.crash (Vf.sync (Vf.append (Vf.create (s5 old F) Vf.Mov.nw) Vf.Mov.nw now) Vf.Mov.nw) K T) Vf.Mov.cur = 0 ∧ (Vf.read (Vf.crash (Vf.sync (Vf.append (Vf.create (s5 old F) Vf.Mov.nw) Vf.Mov.nw now) Vf.Mov.nw) K T) Vf.Mov.cur = old ∨ Vf.read (Vf.crash (Vf.sync (Vf.append (Vf.create (s5 old F) Vf.Mov.nw) Vf.Mov.nw now) Vf.Mov.nw) K T) Vf.Mov.cur = now)) := part_2 p.o F hF g0 g1 g2 K T
  obtain ⟨l, hl⟩ : ∃ l, l = Vf.read (Vf.crash (Vf.sync (Vf.append (Vf.create (s5 old F) Vf.Mov.nw) Vf.Mov.nw now) Vf.Mov.nw) K T) Vf.Mov.cur := ⟨_, rfl⟩
  have i1 : ¬ (old.length : Int) > 400 := by have := p.o; omega
  have i2 : ¬ (now.length : Int) > 400 := by have := p.n; omega
  have i3 : ¬ (K : Int) < 0 := by omega
  have i4 : ¬ (T : Int) < 0 := by omega
  have i5 : ¬ (F : Int) < 0 := by omega
  have LV := lives_any
  have NW := new_20
  have PP : Hid _ := p
  have C1 := c1 w
  have C2 := c2 w old p.o
  have C3 := c3 w old p.o
  have C4 := c4 w old p.o
  have C5 := c5 w old p.o F hF
  obtain ⟨E0, hE0⟩ : ∃ E, E = Vf.createE (s5 old F) Vf.Mov.nw := ⟨_, rfl⟩
  have D0 : Hid (∀ wx lim b, FsIn w.heap.size lim wx b (s5 old F) → Calls Try.prog 10 #[.pointer (some ⟨b, 0, none⟩), .string ⟨#[110, 101, 119]⟩] wx fun e w' => e = .returned (.int .i64 E0) ∧ FsIn w.heap.size w'.heap.size w' b (Vf.create (s5 old F) Vf.Mov.nw) ∧ Below w.heap.size wx w') := fun wx lim b h => by
    rw [hE0]
    exact create_fs h (steps5 old p.o F 0 _ (by exact Nat.le_refl _)) Vf.Mov.nw (by decide)
  rw [← hE0] at g0
  obtain ⟨E1, hE1⟩ : ∃ E, E = Vf.appendE (Vf.create (s5 old F) Vf.Mov.nw) Vf.Mov.nw now := ⟨_, rfl⟩
  have D1 : Hid (∀ wx lim b, FsIn w.heap.size lim wx b (Vf.create (s5 old F) Vf.Mov.nw) → Below w.heap.size w wx → Calls Try.prog 11 #[.pointer (some ⟨b, 0, none⟩), .string ⟨#[110, 101, 119]⟩, .slice x1 now.length d1] wx fun e w' => e = .returned (.int .i64 E1) ∧ FsIn w.heap.size w'.heap.size w' b (Vf.append (Vf.create (s5 old F) Vf.Mov.nw) Vf.Mov.nw now) ∧ Below w.heap.size wx w') := fun wx lim b h hw => by
    rw [hE1]
    exact append_fs h Vf.Mov.nw (by decide) _ now (by have := p.n; have := stepsA old now p.o p.n F; omega) (p.free1 h hw)
  rw [← hE1] at g1
  obtain ⟨E2, hE2⟩ : ∃ E, E = Vf.syncE (Vf.append (Vf.create (s5 old F) Vf.Mov.nw) Vf.Mov.nw now) Vf.Mov.nw := ⟨_, rfl⟩
  have D2 : Hid (∀ wx lim b, FsIn w.heap.size lim wx b (Vf.append (Vf.create (s5 old F) Vf.Mov.nw) Vf.Mov.nw now) → Calls Try.prog 15 #[.pointer (some ⟨b, 0, none⟩), .string ⟨#[110, 101, 119]⟩] wx fun e w' => e = .returned (.int .i64 E2) ∧ FsIn w.heap.size w'.heap.size w' b (Vf.sync (Vf.append (Vf.create (s5 old F) Vf.Mov.nw) Vf.Mov.nw now) Vf.Mov.nw) ∧ Below w.heap.size wx w') := fun wx lim b h => by
    rw [hE2]
    exact sync_fs h (by have := stepsB old now p.o p.n F; omega) Vf.Mov.nw (by decide)
  rw [← hE2] at g2
  have CR : Hid (∀ wx lim b, FsIn w.heap.size lim wx b (Vf.sync (Vf.append (Vf.create (s5 old F) Vf.Mov.nw) Vf.Mov.nw now) Vf.Mov.nw) → Calls Try.prog 13 #[.pointer (some ⟨b, 0, none⟩), .int .i64 (K : Int), .int .i64 (T : Int)] wx fun e w' => e = .returned (.int .i64 0) ∧ FsIn w.heap.size w'.heap.size w' b (Vf.crash (Vf.sync (Vf.append (Vf.create (s5 old F) Vf.Mov.nw) Vf.Mov.nw now) Vf.Mov.nw) K T) ∧ Below w.heap.size wx w') := fun wx lim b h => crash_fs h (by have := stepsZ old now p.o p.n F 3; exact this) K T
  have RF : Hid (∀ wx lim b, FsIn w.heap.size lim wx b (Vf.crash (Vf.sync (Vf.append (Vf.create (s5 old F) Vf.Mov.nw) Vf.Mov.nw now) Vf.Mov.nw) K T) → Calls Try.prog 22 #[.pointer (some ⟨b, 0, none⟩), .string ⟨#[99, 117, 114, 114, 101, 110, 116]⟩] wx fun e w' => ∃ a c, e = .returned (.tuple #[.slice a l.length c, .int .i64 0]) ∧ BytesIn w' (.slice a l.length c) l ∧ Below wx.heap.size wx w') := fun wx lim b h => by
    have := read_fs h (by rw [Vf.crash_steps]; have := stepsZ old now p.o p.n F 3; exact this) Vf.Mov.cur (by decide)
    rw [RD.out.1, ← hl] at this
    refine this.mono ?_
    rintro e w' ⟨v', rfl, o, _, h2⟩
    obtain ⟨a, c, rfl⟩ := row_shape o
    exact ⟨a, c, rfl, bytes_of_own o (by have := p.o; have := p.n; rcases RD.out.2 with e | e <;> rw [hl, e] <;> omega), h2⟩
  have S1 : Hid (∀ wx a c, BytesIn wx (.slice a l.length c) l → Below w.heap.size w wx → Calls Try.prog 30 #[.slice a l.length c, .slice x1 now.length d1] wx fun e w' => e = .returned (.bool (decide (l = now))) ∧ Below wx.heap.size wx w') := fun wx a c h hw => same_any wx _ _ _ _ h (p.b1.later hw)
  have HL : Hid (l = old ∨ l = now) := by show _ ∨ _; rw [hl]; exact RD.out.2
  have S2 : Hid (∀ wx a c, BytesIn wx (.slice a l.length c) l → Below w.heap.size w wx → Calls Try.prog 30 #[.slice a l.length c, .slice x0 old.length d0] wx fun e w' => e = .returned (.bool (decide (l = old))) ∧ Below wx.heap.size wx w') := fun wx a c h hw => same_any wx _ _ _ _ h (p.b0.later hw)
  have q0 : (E0 == 0) = true := by simpa using g0
  have q1 : (E1 == 0) = true := by simpa using g1
  have q2 : (E2 == 0) = false := by simpa using g2
  clear RD hl p hE0 hE1 hE2 g0 g1 g2
  by_cases hn : l = now
  · have hd : decide (l = now) = true := decide_eq_true hn
    rw [hd] at S1
    clear hd HL hn S2
    go_enter Try.func6, Try.ntmps6
    go_wp2_with (first
      | (go_at_call 9; refine (LV _).mono ?_; rintro e w1 ⟨rfl, b1⟩; clear LV)
      | (go_at_call 8; refine (NW _ _ b1).mono ?_; rintro e w2 ⟨b, rfl, f2, b2⟩; have B2 := b1.trans (b2.mono b1.size); clear NW b2 b1)
      | (go_at_call 10; have tok := C1; refine (C1 _ _ _ f2).mono ?_; rintro e w3 ⟨rfl, f3, b3⟩; have B3 := B2.trans b3; clear C1 f2 b3 tok B2)
      | (go_at_call 11; have tok := C2; refine (C2 _ _ _ _ f3 (PP.out.free0 f3 B3)).mono ?_; rintro e w4 ⟨rfl, f4, b4⟩; have B4 := B3.trans b4; clear C2 f3 b4 tok B3)
      | (go_at_call 15; have tok := C3; refine (C3 _ _ _ f4).mono ?_; rintro e w5 ⟨rfl, f5, b5⟩; have B5 := B4.trans b5; clear C3 f4 b5 tok B4)
      | (go_at_call 12; have tok := C4; refine (C4 _ _ _ f5).mono ?_; rintro e w6 ⟨rfl, f6, b6⟩; have B6 := B5.trans b6; clear C4 f5 b6 tok B5)
      | (go_at_call 20; refine (C5 _ _ _ f6).mono ?_; rintro e w7 ⟨rfl, f7, b7⟩; have B7 := B6.trans b7; clear C5 f6 b7 B6)
      | (go_at_call 10; have tok := f7; refine (D0.out _ _ _ f7).mono ?_; rintro e w8 ⟨rfl, f8, b8⟩; have B8 := B7.trans b8; clear D0 f7 b8 tok B7)
      | (go_at_call 11; have tok := f8; refine (D1.out _ _ _ f8 B8).mono ?_; rintro e w9 ⟨rfl, f9, b9⟩; have B9 := B8.trans b9; clear D1 f8 b9 tok B8)
      | (go_at_call 15; have tok := f9; refine (D2.out _ _ _ f9).mono ?_; rintro e w10 ⟨rfl, f10, b10⟩; have B10 := B9.trans b10; clear D2 f9 b10 tok B9)
      | (go_at_call 13; refine (CR.out _ _ _ f10).mono ?_; rintro e w11 ⟨rfl, f11, b11⟩; have B11 := B10.trans b11; clear CR f10 b11 B10)
      | (go_at_call 22; refine (RF.out _ _ _ f11).mono ?_; rintro e w12 ⟨ra, rc, rfl, v12, b12⟩; have B12 := B11.trans (b12.mono B11.size); clear RF f11 b12 B11)
      | (go_at_call 30; refine (S1.out _ _ _ v12 B12).mono ?_; rintro e w13 ⟨rfl, b13⟩; have B13 := B12.trans (b13.mono B12.size); clear S1 b13 B12))
    go_ret
    exact ⟨rfl, B13⟩
  · have hd : decide (l = now) = false := decide_eq_false hn
    have he : decide (l = old) = true := decide_eq_true (HL.out.resolve_right hn)
    rw [hd] at S1
    rw [he] at S2
    clear hd he HL hn
    go_enter Try.func6, Try.ntmps6
    go_wp2_with (first
      | (go_at_call 9; refine (LV _).mono ?_; rintro e w1 ⟨rfl, b1⟩; clear LV)
      | (go_at_call 8; refine (NW _ _ b1).mono ?_; rintro e w2 ⟨b, rfl, f2, b2⟩; have B2 := b1.trans (b2.mono b1.size); clear NW b2 b1)
      | (go_at_call 10; have tok := C1; refine (C1 _ _ _ f2).mono ?_; rintro e w3 ⟨rfl, f3, b3⟩; have B3 := B2.trans b3; clear C1 f2 b3 tok B2)
      | (go_at_call 11; have tok := C2; refine (C2 _ _ _ _ f3 (PP.out.free0 f3 B3)).mono ?_; rintro e w4 ⟨rfl, f4, b4⟩; have B4 := B3.trans b4; clear C2 f3 b4 tok B3)
      | (go_at_call 15; have tok := C3; refine (C3 _ _ _ f4).mono ?_; rintro e w5 ⟨rfl, f5, b5⟩; have B5 := B4.trans b5; clear C3 f4 b5 tok B4)
      | (go_at_call 12; have tok := C4; refine (C4 _ _ _ f5).mono ?_; rintro e w6 ⟨rfl, f6, b6⟩; have B6 := B5.trans b6; clear C4 f5 b6 tok B5)
      | (go_at_call 20; refine (C5 _ _ _ f6).mono ?_; rintro e w7 ⟨rfl, f7, b7⟩; have B7 := B6.trans b7; clear C5 f6 b7 B6)
      | (go_at_call 10; have tok := f7; refine (D0.out _ _ _ f7).mono ?_; rintro e w8 ⟨rfl, f8, b8⟩; have B8 := B7.trans b8; clear D0 f7 b8 tok B7)
      | (go_at_call 11; have tok := f8; refine (D1.out _ _ _ f8 B8).mono ?_; rintro e w9 ⟨rfl, f9, b9⟩; have B9 := B8.trans b9; clear D1 f8 b9 tok B8)
      | (go_at_call 15; have tok := f9; refine (D2.out _ _ _ f9).mono ?_; rintro e w10 ⟨rfl, f10, b10⟩; have B10 := B9.trans b10; clear D2 f9 b10 tok B9)
      | (go_at_call 13; refine (CR.out _ _ _ f10).mono ?_; rintro e w11 ⟨rfl, f11, b11⟩; have B11 := B10.trans b11; clear CR f10 b11 B10)
      | (go_at_call 22; refine (RF.out _ _ _ f11).mono ?_; rintro e w12 ⟨ra, rc, rfl, v12, b12⟩; have B12 := B11.trans (b12.mono B11.size); clear RF f11 b12 B11)
      | (go_at_call 30; have tok := S1; refine (S1.out _ _ _ v12 B12).mono ?_; rintro e w13 ⟨rfl, b13⟩; have B13 := B12.trans (b13.mono B12.size); have v13 := v12.later b13; clear S1 b13 B12 tok)
      | (go_at_call 30; have tok := B13; refine (S2.out _ _ _ v13 B13).mono ?_; rintro e w14 ⟨rfl, b14⟩; have B14 := B13.trans (b14.mono B13.size); clear S2 b14 B13 tok))
    go_ret
    exact ⟨rfl, B14⟩

set_option maxRecDepth 100000 in
set_option maxHeartbeats 8000000 in
theorem walk3 (w : World) (v0 v1 : Value) (old now : Vf.Bs) (p : Pre w v0 v1 old now) (F K T : Nat) (hF : F ≤ 9223372036854775807) (g0 : Vf.createE (s5 old F) Vf.Mov.nw = 0) (g1 : Vf.appendE (Vf.create (s5 old F) Vf.Mov.nw) Vf.Mov.nw now = 0) (g2 : Vf.syncE (Vf.append (Vf.create (s5 old F) Vf.Mov.nw) Vf.Mov.nw now) Vf.Mov.nw = 0) (g3 : Vf.renameE (Vf.sync (Vf.append (Vf.create (s5 old F) Vf.Mov.nw) Vf.Mov.nw now) Vf.Mov.nw) Vf.Mov.nw Vf.Mov.cur ≠ 0) :
    Calls Try.prog 6 #[v0, v1, .int .i64 (F : Int), .int .i64 (K : Int), .int .i64 (T : Int)] w fun e w' => e = .returned (.bool true) ∧ Below w.heap.size w w' := by
  obtain ⟨x0, d0, rfl⟩ := p.shape0
  obtain ⟨x1, d1, rfl⟩ := p.shape1
  have RD : Hid (Vf.findE (Vf.crash (Vf.rename (Vf.sync (Vf.append (Vf.create (s5 old F) Vf.Mov.nw) Vf.Mov.nw now) Vf.Mov.nw) Vf.Mov.nw Vf.Mov.cur) K T) Vf.Mov.cur = 0 ∧ (Vf.read (Vf.crash (Vf.rename (Vf.sync (Vf.append (Vf.create (s5 old F) Vf.Mov.nw) Vf.Mov.nw now) Vf.Mov.nw) Vf.Mov.nw Vf.Mov.cur) K T) Vf.Mov.cur = old ∨ Vf.read (Vf.crash (Vf.rename (Vf.sync (Vf.append (Vf.create (s5 old F) Vf.Mov.nw) Vf.Mov.nw now) Vf.Mov.nw) Vf.Mov.nw Vf.Mov.cur) K T) Vf.Mov.cur = now)) := part_3 p.o F hF g0 g1 g2 g3 K T
  obtain ⟨l, hl⟩ : ∃ l, l = Vf.read (Vf.crash (Vf.rename (Vf.sync (Vf.append (Vf.create (s5 old F) Vf.Mov.nw) Vf.Mov.nw now) Vf.Mov.nw) Vf.Mov.nw Vf.Mov.cur) K T) Vf.Mov.cur := ⟨_, rfl⟩
  have i1 : ¬ (old.length : Int) > 400 := by have := p.o; omega
  have i2 : ¬ (now.length : Int) > 400 := by have := p.n; omega
  have i3 : ¬ (K : Int) < 0 := by omega
  have i4 : ¬ (T : Int) < 0 := by omega
  have i5 : ¬ (F : Int) < 0 := by omega
  have LV := lives_any
  have NW := new_20
  have PP : Hid _ := p
  have C1 := c1 w
  have C2 := c2 w old p.o
  have C3 := c3 w old p.o
  have C4 := c4 w old p.o
  have C5 := c5 w old p.o F hF
  obtain ⟨E0, hE0⟩ : ∃ E, E = Vf.createE (s5 old F) Vf.Mov.nw := ⟨_, rfl⟩
  have D0 : Hid (∀ wx lim b, FsIn w.heap.size lim wx b (s5 old F) → Calls Try.prog 10 #[.pointer (some ⟨b, 0, none⟩), .string ⟨#[110, 101, 119]⟩] wx fun e w' => e = .returned (.int .i64 E0) ∧ FsIn w.heap.size w'.heap.size w' b (Vf.create (s5 old F) Vf.Mov.nw) ∧ Below w.heap.size wx w') := fun wx lim b h => by
    rw [hE0]
    exact create_fs h (steps5 old p.o F 0 _ (by exact Nat.le_refl _)) Vf.Mov.nw (by decide)
  rw [← hE0] at g0
  obtain ⟨E1, hE1⟩ : ∃ E, E = Vf.appendE (Vf.create (s5 old F) Vf.Mov.nw) Vf.Mov.nw now := ⟨_, rfl⟩
  have D1 : Hid (∀ wx lim b, FsIn w.heap.size lim wx b (Vf.create (s5 old F) Vf.Mov.nw) → Below w.heap.size w wx → Calls Try.prog 11 #[.pointer (some ⟨b, 0, none⟩), .string ⟨#[110, 101, 119]⟩, .slice x1 now.length d1] wx fun e w' => e = .returned (.int .i64 E1) ∧ FsIn w.heap.size w'.heap.size w' b (Vf.append (Vf.create (s5 old F) Vf.Mov.nw) Vf.Mov.nw now) ∧ Below w.heap.size wx w') := fun wx lim b h hw => by
    rw [hE1]
    exact append_fs h Vf.Mov.nw (by decide) _ now (by have := p.n; have := stepsA old now p.o p.n F; omega) (p.free1 h hw)
  rw [← hE1] at g1
  obtain ⟨E2, hE2⟩ : ∃ E, E = Vf.syncE (Vf.append (Vf.create (s5 old F) Vf.Mov.nw) Vf.Mov.nw now) Vf.Mov.nw := ⟨_, rfl⟩
  have D2 : Hid (∀ wx lim b, FsIn w.heap.size lim wx b (Vf.append (Vf.create (s5 old F) Vf.Mov.nw) Vf.Mov.nw now) → Calls Try.prog 15 #[.pointer (some ⟨b, 0, none⟩), .string ⟨#[110, 101, 119]⟩] wx fun e w' => e = .returned (.int .i64 E2) ∧ FsIn w.heap.size w'.heap.size w' b (Vf.sync (Vf.append (Vf.create (s5 old F) Vf.Mov.nw) Vf.Mov.nw now) Vf.Mov.nw) ∧ Below w.heap.size wx w') := fun wx lim b h => by
    rw [hE2]
    exact sync_fs h (by have := stepsB old now p.o p.n F; omega) Vf.Mov.nw (by decide)
  rw [← hE2] at g2
  obtain ⟨E3, hE3⟩ : ∃ E, E = Vf.renameE (Vf.sync (Vf.append (Vf.create (s5 old F) Vf.Mov.nw) Vf.Mov.nw now) Vf.Mov.nw) Vf.Mov.nw Vf.Mov.cur := ⟨_, rfl⟩
  have D3 : Hid (∀ wx lim b, FsIn w.heap.size lim wx b (Vf.sync (Vf.append (Vf.create (s5 old F) Vf.Mov.nw) Vf.Mov.nw now) Vf.Mov.nw) → Calls Try.prog 16 #[.pointer (some ⟨b, 0, none⟩), .string ⟨#[110, 101, 119]⟩, .string ⟨#[99, 117, 114, 114, 101, 110, 116]⟩] wx fun e w' => e = .returned (.int .i64 E3) ∧ FsIn w.heap.size w'.heap.size w' b (Vf.rename (Vf.sync (Vf.append (Vf.create (s5 old F) Vf.Mov.nw) Vf.Mov.nw now) Vf.Mov.nw) Vf.Mov.nw Vf.Mov.cur) ∧ Below w.heap.size wx w') := fun wx lim b h => by
    rw [hE3]
    exact rename_fs h (by have := stepsC old now p.o p.n F; omega) Vf.Mov.nw Vf.Mov.cur (by decide) (by decide)
  rw [← hE3] at g3
  have CR : Hid (∀ wx lim b, FsIn w.heap.size lim wx b (Vf.rename (Vf.sync (Vf.append (Vf.create (s5 old F) Vf.Mov.nw) Vf.Mov.nw now) Vf.Mov.nw) Vf.Mov.nw Vf.Mov.cur) → Calls Try.prog 13 #[.pointer (some ⟨b, 0, none⟩), .int .i64 (K : Int), .int .i64 (T : Int)] wx fun e w' => e = .returned (.int .i64 0) ∧ FsIn w.heap.size w'.heap.size w' b (Vf.crash (Vf.rename (Vf.sync (Vf.append (Vf.create (s5 old F) Vf.Mov.nw) Vf.Mov.nw now) Vf.Mov.nw) Vf.Mov.nw Vf.Mov.cur) K T) ∧ Below w.heap.size wx w') := fun wx lim b h => crash_fs h (by have := stepsZ old now p.o p.n F 4; exact this) K T
  have RF : Hid (∀ wx lim b, FsIn w.heap.size lim wx b (Vf.crash (Vf.rename (Vf.sync (Vf.append (Vf.create (s5 old F) Vf.Mov.nw) Vf.Mov.nw now) Vf.Mov.nw) Vf.Mov.nw Vf.Mov.cur) K T) → Calls Try.prog 22 #[.pointer (some ⟨b, 0, none⟩), .string ⟨#[99, 117, 114, 114, 101, 110, 116]⟩] wx fun e w' => ∃ a c, e = .returned (.tuple #[.slice a l.length c, .int .i64 0]) ∧ BytesIn w' (.slice a l.length c) l ∧ Below wx.heap.size wx w') := fun wx lim b h => by
    have := read_fs h (by rw [Vf.crash_steps]; have := stepsZ old now p.o p.n F 4; exact this) Vf.Mov.cur (by decide)
    rw [RD.out.1, ← hl] at this
    refine this.mono ?_
    rintro e w' ⟨v', rfl, o, _, h2⟩
    obtain ⟨a, c, rfl⟩ := row_shape o
    exact ⟨a, c, rfl, bytes_of_own o (by have := p.o; have := p.n; rcases RD.out.2 with e | e <;> rw [hl, e] <;> omega), h2⟩
  have S1 : Hid (∀ wx a c, BytesIn wx (.slice a l.length c) l → Below w.heap.size w wx → Calls Try.prog 30 #[.slice a l.length c, .slice x1 now.length d1] wx fun e w' => e = .returned (.bool (decide (l = now))) ∧ Below wx.heap.size wx w') := fun wx a c h hw => same_any wx _ _ _ _ h (p.b1.later hw)
  have HL : Hid (l = old ∨ l = now) := by show _ ∨ _; rw [hl]; exact RD.out.2
  have S2 : Hid (∀ wx a c, BytesIn wx (.slice a l.length c) l → Below w.heap.size w wx → Calls Try.prog 30 #[.slice a l.length c, .slice x0 old.length d0] wx fun e w' => e = .returned (.bool (decide (l = old))) ∧ Below wx.heap.size wx w') := fun wx a c h hw => same_any wx _ _ _ _ h (p.b0.later hw)
  have q0 : (E0 == 0) = true := by simpa using g0
  have q1 : (E1 == 0) = true := by simpa using g1
  have q2 : (E2 == 0) = true := by simpa using g2
  have q3 : (E3 == 0) = false := by simpa using g3
  clear RD hl p hE0 hE1 hE2 hE3 g0 g1 g2 g3
  by_cases hn : l = now
  · have hd : decide (l = now) = true := decide_eq_true hn
    rw [hd] at S1
    clear hd HL hn S2
    go_enter Try.func6, Try.ntmps6
    go_wp2_with (first
      | (go_at_call 9; refine (LV _).mono ?_; rintro e w1 ⟨rfl, b1⟩; clear LV)
      | (go_at_call 8; refine (NW _ _ b1).mono ?_; rintro e w2 ⟨b, rfl, f2, b2⟩; have B2 := b1.trans (b2.mono b1.size); clear NW b2 b1)
      | (go_at_call 10; have tok := C1; refine (C1 _ _ _ f2).mono ?_; rintro e w3 ⟨rfl, f3, b3⟩; have B3 := B2.trans b3; clear C1 f2 b3 tok B2)
      | (go_at_call 11; have tok := C2; refine (C2 _ _ _ _ f3 (PP.out.free0 f3 B3)).mono ?_; rintro e w4 ⟨rfl, f4, b4⟩; have B4 := B3.trans b4; clear C2 f3 b4 tok B3)
      | (go_at_call 15; have tok := C3; refine (C3 _ _ _ f4).mono ?_; rintro e w5 ⟨rfl, f5, b5⟩; have B5 := B4.trans b5; clear C3 f4 b5 tok B4)
      | (go_at_call 12; have tok := C4; refine (C4 _ _ _ f5).mono ?_; rintro e w6 ⟨rfl, f6, b6⟩; have B6 := B5.trans b6; clear C4 f5 b6 tok B5)
      | (go_at_call 20; refine (C5 _ _ _ f6).mono ?_; rintro e w7 ⟨rfl, f7, b7⟩; have B7 := B6.trans b7; clear C5 f6 b7 B6)
      | (go_at_call 10; have tok := f7; refine (D0.out _ _ _ f7).mono ?_; rintro e w8 ⟨rfl, f8, b8⟩; have B8 := B7.trans b8; clear D0 f7 b8 tok B7)
      | (go_at_call 11; have tok := f8; refine (D1.out _ _ _ f8 B8).mono ?_; rintro e w9 ⟨rfl, f9, b9⟩; have B9 := B8.trans b9; clear D1 f8 b9 tok B8)
      | (go_at_call 15; have tok := f9; refine (D2.out _ _ _ f9).mono ?_; rintro e w10 ⟨rfl, f10, b10⟩; have B10 := B9.trans b10; clear D2 f9 b10 tok B9)
      | (go_at_call 16; have tok := f10; refine (D3.out _ _ _ f10).mono ?_; rintro e w11 ⟨rfl, f11, b11⟩; have B11 := B10.trans b11; clear D3 f10 b11 tok B10)
      | (go_at_call 13; refine (CR.out _ _ _ f11).mono ?_; rintro e w12 ⟨rfl, f12, b12⟩; have B12 := B11.trans b12; clear CR f11 b12 B11)
      | (go_at_call 22; refine (RF.out _ _ _ f12).mono ?_; rintro e w13 ⟨ra, rc, rfl, v13, b13⟩; have B13 := B12.trans (b13.mono B12.size); clear RF f12 b13 B12)
      | (go_at_call 30; refine (S1.out _ _ _ v13 B13).mono ?_; rintro e w14 ⟨rfl, b14⟩; have B14 := B13.trans (b14.mono B13.size); clear S1 b14 B13))
    go_ret
    exact ⟨rfl, B14⟩
  · have hd : decide (l = now) = false := decide_eq_false hn
    have he : decide (l = old) = true := decide_eq_true (HL.out.resolve_right hn)
    rw [hd] at S1
    rw [he] at S2
    clear hd he HL hn
    go_enter Try.func6, Try.ntmps6
    go_wp2_with (first
      | (go_at_call 9; refine (LV _).mono ?_; rintro e w1 ⟨rfl, b1⟩; clear LV)
      | (go_at_call 8; refine (NW _ _ b1).mono ?_; rintro e w2 ⟨b, rfl, f2, b2⟩; have B2 := b1.trans (b2.mono b1.size); clear NW b2 b1)
      | (go_at_call 10; have tok := C1; refine (C1 _ _ _ f2).mono ?_; rintro e w3 ⟨rfl, f3, b3⟩; have B3 := B2.trans b3; clear C1 f2 b3 tok B2)
      | (go_at_call 11; have tok := C2; refine (C2 _ _ _ _ f3 (PP.out.free0 f3 B3)).mono ?_; rintro e w4 ⟨rfl, f4, b4⟩; have B4 := B3.trans b4; clear C2 f3 b4 tok B3)
      | (go_at_call 15; have tok := C3; refine (C3 _ _ _ f4).mono ?_; rintro e w5 ⟨rfl, f5, b5⟩; have B5 := B4.trans b5; clear C3 f4 b5 tok B4)
      | (go_at_call 12; have tok := C4; refine (C4 _ _ _ f5).mono ?_; rintro e w6 ⟨rfl, f6, b6⟩; have B6 := B5.trans b6; clear C4 f5 b6 tok B5)
      | (go_at_call 20; refine (C5 _ _ _ f6).mono ?_; rintro e w7 ⟨rfl, f7, b7⟩; have B7 := B6.trans b7; clear C5 f6 b7 B6)
      | (go_at_call 10; have tok := f7; refine (D0.out _ _ _ f7).mono ?_; rintro e w8 ⟨rfl, f8, b8⟩; have B8 := B7.trans b8; clear D0 f7 b8 tok B7)
      | (go_at_call 11; have tok := f8; refine (D1.out _ _ _ f8 B8).mono ?_; rintro e w9 ⟨rfl, f9, b9⟩; have B9 := B8.trans b9; clear D1 f8 b9 tok B8)
      | (go_at_call 15; have tok := f9; refine (D2.out _ _ _ f9).mono ?_; rintro e w10 ⟨rfl, f10, b10⟩; have B10 := B9.trans b10; clear D2 f9 b10 tok B9)
      | (go_at_call 16; have tok := f10; refine (D3.out _ _ _ f10).mono ?_; rintro e w11 ⟨rfl, f11, b11⟩; have B11 := B10.trans b11; clear D3 f10 b11 tok B10)
      | (go_at_call 13; refine (CR.out _ _ _ f11).mono ?_; rintro e w12 ⟨rfl, f12, b12⟩; have B12 := B11.trans b12; clear CR f11 b12 B11)
      | (go_at_call 22; refine (RF.out _ _ _ f12).mono ?_; rintro e w13 ⟨ra, rc, rfl, v13, b13⟩; have B13 := B12.trans (b13.mono B12.size); clear RF f12 b13 B12)
      | (go_at_call 30; have tok := S1; refine (S1.out _ _ _ v13 B13).mono ?_; rintro e w14 ⟨rfl, b14⟩; have B14 := B13.trans (b14.mono B13.size); have v14 := v13.later b14; clear S1 b14 B13 tok)
      | (go_at_call 30; have tok := B14; refine (S2.out _ _ _ v14 B14).mono ?_; rintro e w15 ⟨rfl, b15⟩; have B15 := B14.trans (b15.mono B14.size); clear S2 b15 B14 tok))
    go_ret
    exact ⟨rfl, B15⟩

set_option maxRecDepth 100000 in
set_option maxHeartbeats 8000000 in
theorem walk4 (w : World) (v0 v1 : Value) (old now : Vf.Bs) (p : Pre w v0 v1 old now) (F K T : Nat) (hF : F ≤ 9223372036854775807) (g0 : Vf.createE (s5 old F) Vf.Mov.nw = 0) (g1 : Vf.appendE (Vf.create (s5 old F) Vf.Mov.nw) Vf.Mov.nw now = 0) (g2 : Vf.syncE (Vf.append (Vf.create (s5 old F) Vf.Mov.nw) Vf.Mov.nw now) Vf.Mov.nw = 0) (g3 : Vf.renameE (Vf.sync (Vf.append (Vf.create (s5 old F) Vf.Mov.nw) Vf.Mov.nw now) Vf.Mov.nw) Vf.Mov.nw Vf.Mov.cur = 0) (g4 : Vf.syncNamesE (Vf.rename (Vf.sync (Vf.append (Vf.create (s5 old F) Vf.Mov.nw) Vf.Mov.nw now) Vf.Mov.nw) Vf.Mov.nw Vf.Mov.cur) ≠ 0) :
    Calls Try.prog 6 #[v0, v1, .int .i64 (F : Int), .int .i64 (K : Int), .int .i64 (T : Int)] w fun e w' => e = .returned (.bool true) ∧ Below w.heap.size w w' := by
  obtain ⟨x0, d0, rfl⟩ := p.shape0
  obtain ⟨x1, d1, rfl⟩ := p.shape1
  have RD : Hid (Vf.findE (Vf.crash (Vf.syncNames (Vf.rename (Vf.sync (Vf.append (Vf.create (s5 old F) Vf.Mov.nw) Vf.Mov.nw now) Vf.Mov.nw) Vf.Mov.nw Vf.Mov.cur)) K T) Vf.Mov.cur = 0 ∧ (Vf.read (Vf.crash (Vf.syncNames (Vf.rename (Vf.sync (Vf.append (Vf.create (s5 old F) Vf.Mov.nw) Vf.Mov.nw now) Vf.Mov.nw) Vf.Mov.nw Vf.Mov.cur)) K T) Vf.Mov.cur = old ∨ Vf.read (Vf.crash (Vf.syncNames (Vf.rename (Vf.sync (Vf.append (Vf.create (s5 old F) Vf.Mov.nw) Vf.Mov.nw now) Vf.Mov.nw) Vf.Mov.nw Vf.Mov.cur)) K T) Vf.Mov.cur = now)) := part_4 p.o F hF g0 g1 g2 g3 g4 K T
  obtain ⟨l, hl⟩ : ∃ l, l = Vf.read (Vf.crash (Vf.syncNames (Vf.rename (Vf.sync (Vf.append (Vf.create (s5 old F) Vf.Mov.nw) Vf.Mov.nw now) Vf.Mov.nw) Vf.Mov.nw Vf.Mov.cur)) K T) Vf.Mov.cur := ⟨_, rfl⟩
  have i1 : ¬ (old.length : Int) > 400 := by have := p.o; omega
  have i2 : ¬ (now.length : Int) > 400 := by have := p.n; omega
  have i3 : ¬ (K : Int) < 0 := by omega
  have i4 : ¬ (T : Int) < 0 := by omega
  have i5 : ¬ (F : Int) < 0 := by omega
  have LV := lives_any
  have NW := new_20
  have PP : Hid _ := p
  have C1 := c1 w
  have C2 := c2 w old p.o
  have C3 := c3 w old p.o
  have C4 := c4 w old p.o
  have C5 := c5 w old p.o F hF
  obtain ⟨E0, hE0⟩ : ∃ E, E = Vf.createE (s5 old F) Vf.Mov.nw := ⟨_, rfl⟩
  have D0 : Hid (∀ wx lim b, FsIn w.heap.size lim wx b (s5 old F) → Calls Try.prog 10 #[.pointer (some ⟨b, 0, none⟩), .string ⟨#[110, 101, 119]⟩] wx fun e w' => e = .returned (.int .i64 E0) ∧ FsIn w.heap.size w'.heap.size w' b (Vf.create (s5 old F) Vf.Mov.nw) ∧ Below w.heap.size wx w') := fun wx lim b h => by
    rw [hE0]
    exact create_fs h (steps5 old p.o F 0 _ (by exact Nat.le_refl _)) Vf.Mov.nw (by decide)
  rw [← hE0] at g0
  obtain ⟨E1, hE1⟩ : ∃ E, E = Vf.appendE (Vf.create (s5 old F) Vf.Mov.nw) Vf.Mov.nw now := ⟨_, rfl⟩
  have D1 : Hid (∀ wx lim b, FsIn w.heap.size lim wx b (Vf.create (s5 old F) Vf.Mov.nw) → Below w.heap.size w wx → Calls Try.prog 11 #[.pointer (some ⟨b, 0, none⟩), .string ⟨#[110, 101, 119]⟩, .slice x1 now.length d1] wx fun e w' => e = .returned (.int .i64 E1) ∧ FsIn w.heap.size w'.heap.size w' b (Vf.append (Vf.create (s5 old F) Vf.Mov.nw) Vf.Mov.nw now) ∧ Below w.heap.size wx w') := fun wx lim b h hw => by
    rw [hE1]
    exact append_fs h Vf.Mov.nw (by decide) _ now (by have := p.n; have := stepsA old now p.o p.n F; omega) (p.free1 h hw)
  rw [← hE1] at g1
  obtain ⟨E2, hE2⟩ : ∃ E, E = Vf.syncE (Vf.append (Vf.create (s5 old F) Vf.Mov.nw) Vf.Mov.nw now) Vf.Mov.nw := ⟨_, rfl⟩
  have D2 : Hid (∀ wx lim b, FsIn w.heap.size lim wx b (Vf.append (Vf.create (s5 old F) Vf.Mov.nw) Vf.Mov.nw now) → Calls Try.prog 15 #[.pointer (some ⟨b, 0, none⟩), .string ⟨#[110, 101, 119]⟩] wx fun e w' => e = .returned (.int .i64 E2) ∧ FsIn w.heap.size w'.heap.size w' b (Vf.sync (Vf.append (Vf.create (s5 old F) Vf.Mov.nw) Vf.Mov.nw now) Vf.Mov.nw) ∧ Below w.heap.size wx w') := fun wx lim b h => by
    rw [hE2]
    exact sync_fs h (by have := stepsB old now p.o p.n F; omega) Vf.Mov.nw (by decide)
  rw [← hE2] at g2
  obtain ⟨E3, hE3⟩ : ∃ E, E = Vf.renameE (Vf.sync (Vf.append (Vf.create (s5 old F) Vf.Mov.nw) Vf.Mov.nw now) Vf.Mov.nw) Vf.Mov.nw Vf.Mov.cur := ⟨_, rfl⟩
  have D3 : Hid (∀ wx lim b, FsIn w.heap.size lim wx b (Vf.sync (Vf.append (Vf.create (s5 old F) Vf.Mov.nw) Vf.Mov.nw now) Vf.Mov.nw) → Calls Try.prog 16 #[.pointer (some ⟨b, 0, none⟩), .string ⟨#[110, 101, 119]⟩, .string ⟨#[99, 117, 114, 114, 101, 110, 116]⟩] wx fun e w' => e = .returned (.int .i64 E3) ∧ FsIn w.heap.size w'.heap.size w' b (Vf.rename (Vf.sync (Vf.append (Vf.create (s5 old F) Vf.Mov.nw) Vf.Mov.nw now) Vf.Mov.nw) Vf.Mov.nw Vf.Mov.cur) ∧ Below w.heap.size wx w') := fun wx lim b h => by
    rw [hE3]
    exact rename_fs h (by have := stepsC old now p.o p.n F; omega) Vf.Mov.nw Vf.Mov.cur (by decide) (by decide)
  rw [← hE3] at g3
  obtain ⟨E4, hE4⟩ : ∃ E, E = Vf.syncNamesE (Vf.rename (Vf.sync (Vf.append (Vf.create (s5 old F) Vf.Mov.nw) Vf.Mov.nw now) Vf.Mov.nw) Vf.Mov.nw Vf.Mov.cur) := ⟨_, rfl⟩
  have D4 : Hid (∀ wx lim b, FsIn w.heap.size lim wx b (Vf.rename (Vf.sync (Vf.append (Vf.create (s5 old F) Vf.Mov.nw) Vf.Mov.nw now) Vf.Mov.nw) Vf.Mov.nw Vf.Mov.cur) → Calls Try.prog 12 #[.pointer (some ⟨b, 0, none⟩)] wx fun e w' => e = .returned (.int .i64 E4) ∧ FsIn w.heap.size w'.heap.size w' b (Vf.syncNames (Vf.rename (Vf.sync (Vf.append (Vf.create (s5 old F) Vf.Mov.nw) Vf.Mov.nw now) Vf.Mov.nw) Vf.Mov.nw Vf.Mov.cur)) ∧ Below w.heap.size wx w') := fun wx lim b h => by
    rw [hE4]
    exact syncNames_fs h (by have := stepsD old now p.o p.n F; omega)
  rw [← hE4] at g4
  have CR : Hid (∀ wx lim b, FsIn w.heap.size lim wx b (Vf.syncNames (Vf.rename (Vf.sync (Vf.append (Vf.create (s5 old F) Vf.Mov.nw) Vf.Mov.nw now) Vf.Mov.nw) Vf.Mov.nw Vf.Mov.cur)) → Calls Try.prog 13 #[.pointer (some ⟨b, 0, none⟩), .int .i64 (K : Int), .int .i64 (T : Int)] wx fun e w' => e = .returned (.int .i64 0) ∧ FsIn w.heap.size w'.heap.size w' b (Vf.crash (Vf.syncNames (Vf.rename (Vf.sync (Vf.append (Vf.create (s5 old F) Vf.Mov.nw) Vf.Mov.nw now) Vf.Mov.nw) Vf.Mov.nw Vf.Mov.cur)) K T) ∧ Below w.heap.size wx w') := fun wx lim b h => crash_fs h (by have := stepsZ old now p.o p.n F 5; exact this) K T
  have RF : Hid (∀ wx lim b, FsIn w.heap.size lim wx b (Vf.crash (Vf.syncNames (Vf.rename (Vf.sync (Vf.append (Vf.create (s5 old F) Vf.Mov.nw) Vf.Mov.nw now) Vf.Mov.nw) Vf.Mov.nw Vf.Mov.cur)) K T) → Calls Try.prog 22 #[.pointer (some ⟨b, 0, none⟩), .string ⟨#[99, 117, 114, 114, 101, 110, 116]⟩] wx fun e w' => ∃ a c, e = .returned (.tuple #[.slice a l.length c, .int .i64 0]) ∧ BytesIn w' (.slice a l.length c) l ∧ Below wx.heap.size wx w') := fun wx lim b h => by
    have := read_fs h (by rw [Vf.crash_steps]; have := stepsZ old now p.o p.n F 5; exact this) Vf.Mov.cur (by decide)
    rw [RD.out.1, ← hl] at this
    refine this.mono ?_
    rintro e w' ⟨v', rfl, o, _, h2⟩
    obtain ⟨a, c, rfl⟩ := row_shape o
    exact ⟨a, c, rfl, bytes_of_own o (by have := p.o; have := p.n; rcases RD.out.2 with e | e <;> rw [hl, e] <;> omega), h2⟩
  have S1 : Hid (∀ wx a c, BytesIn wx (.slice a l.length c) l → Below w.heap.size w wx → Calls Try.prog 30 #[.slice a l.length c, .slice x1 now.length d1] wx fun e w' => e = .returned (.bool (decide (l = now))) ∧ Below wx.heap.size wx w') := fun wx a c h hw => same_any wx _ _ _ _ h (p.b1.later hw)
  have HL : Hid (l = old ∨ l = now) := by show _ ∨ _; rw [hl]; exact RD.out.2
  have S2 : Hid (∀ wx a c, BytesIn wx (.slice a l.length c) l → Below w.heap.size w wx → Calls Try.prog 30 #[.slice a l.length c, .slice x0 old.length d0] wx fun e w' => e = .returned (.bool (decide (l = old))) ∧ Below wx.heap.size wx w') := fun wx a c h hw => same_any wx _ _ _ _ h (p.b0.later hw)
  have q0 : (E0 == 0) = true := by simpa using g0
  have q1 : (E1 == 0) = true := by simpa using g1
  have q2 : (E2 == 0) = true := by simpa using g2
  have q3 : (E3 == 0) = true := by simpa using g3
  have q4 : (E4 == 0) = false := by simpa using g4
  clear RD hl p hE0 hE1 hE2 hE3 hE4 g0 g1 g2 g3 g4
  by_cases hn : l = now
  · have hd : decide (l = now) = true := decide_eq_true hn
    rw [hd] at S1
    clear hd HL hn S2
    go_enter Try.func6, Try.ntmps6
    go_wp2_with (first
      | (go_at_call 9; refine (LV _).mono ?_; rintro e w1 ⟨rfl, b1⟩; clear LV)
      | (go_at_call 8; refine (NW _ _ b1).mono ?_; rintro e w2 ⟨b, rfl, f2, b2⟩; have B2 := b1.trans (b2.mono b1.size); clear NW b2 b1)
      | (go_at_call 10; have tok := C1; refine (C1 _ _ _ f2).mono ?_; rintro e w3 ⟨rfl, f3, b3⟩; have B3 := B2.trans b3; clear C1 f2 b3 tok B2)
      | (go_at_call 11; have tok := C2; refine (C2 _ _ _ _ f3 (PP.out.free0 f3 B3)).mono ?_; rintro e w4 ⟨rfl, f4, b4⟩; have B4 := B3.trans b4; clear C2 f3 b4 tok B3)
      | (go_at_call 15; have tok := C3; refine (C3 _ _ _ f4).mono ?_; rintro e w5 ⟨rfl, f5, b5⟩; have B5 := B4.trans b5; clear C3 f4 b5 tok B4)
      | (go_at_call 12; have tok := C4; refine (C4 _ _ _ f5).mono ?_; rintro e w6 ⟨rfl, f6, b6⟩; have B6 := B5.trans b6; clear C4 f5 b6 tok B5)
      | (go_at_call 20; refine (C5 _ _ _ f6).mono ?_; rintro e w7 ⟨rfl, f7, b7⟩; have B7 := B6.trans b7; clear C5 f6 b7 B6)
      | (go_at_call 10; have tok := f7; refine (D0.out _ _ _ f7).mono ?_; rintro e w8 ⟨rfl, f8, b8⟩; have B8 := B7.trans b8; clear D0 f7 b8 tok B7)
      | (go_at_call 11; have tok := f8; refine (D1.out _ _ _ f8 B8).mono ?_; rintro e w9 ⟨rfl, f9, b9⟩; have B9 := B8.trans b9; clear D1 f8 b9 tok B8)
      | (go_at_call 15; have tok := f9; refine (D2.out _ _ _ f9).mono ?_; rintro e w10 ⟨rfl, f10, b10⟩; have B10 := B9.trans b10; clear D2 f9 b10 tok B9)
      | (go_at_call 16; have tok := f10; refine (D3.out _ _ _ f10).mono ?_; rintro e w11 ⟨rfl, f11, b11⟩; have B11 := B10.trans b11; clear D3 f10 b11 tok B10)
      | (go_at_call 12; have tok := f11; refine (D4.out _ _ _ f11).mono ?_; rintro e w12 ⟨rfl, f12, b12⟩; have B12 := B11.trans b12; clear D4 f11 b12 tok B11)
      | (go_at_call 13; refine (CR.out _ _ _ f12).mono ?_; rintro e w13 ⟨rfl, f13, b13⟩; have B13 := B12.trans b13; clear CR f12 b13 B12)
      | (go_at_call 22; refine (RF.out _ _ _ f13).mono ?_; rintro e w14 ⟨ra, rc, rfl, v14, b14⟩; have B14 := B13.trans (b14.mono B13.size); clear RF f13 b14 B13)
      | (go_at_call 30; refine (S1.out _ _ _ v14 B14).mono ?_; rintro e w15 ⟨rfl, b15⟩; have B15 := B14.trans (b15.mono B14.size); clear S1 b15 B14))
    go_ret
    exact ⟨rfl, B15⟩
  · have hd : decide (l = now) = false := decide_eq_false hn
    have he : decide (l = old) = true := decide_eq_true (HL.out.resolve_right hn)
    rw [hd] at S1
    rw [he] at S2
    clear hd he HL hn
    go_enter Try.func6, Try.ntmps6
    go_wp2_with (first
      | (go_at_call 9; refine (LV _).mono ?_; rintro e w1 ⟨rfl, b1⟩; clear LV)
      | (go_at_call 8; refine (NW _ _ b1).mono ?_; rintro e w2 ⟨b, rfl, f2, b2⟩; have B2 := b1.trans (b2.mono b1.size); clear NW b2 b1)
      | (go_at_call 10; have tok := C1; refine (C1 _ _ _ f2).mono ?_; rintro e w3 ⟨rfl, f3, b3⟩; have B3 := B2.trans b3; clear C1 f2 b3 tok B2)
      | (go_at_call 11; have tok := C2; refine (C2 _ _ _ _ f3 (PP.out.free0 f3 B3)).mono ?_; rintro e w4 ⟨rfl, f4, b4⟩; have B4 := B3.trans b4; clear C2 f3 b4 tok B3)
      | (go_at_call 15; have tok := C3; refine (C3 _ _ _ f4).mono ?_; rintro e w5 ⟨rfl, f5, b5⟩; have B5 := B4.trans b5; clear C3 f4 b5 tok B4)
      | (go_at_call 12; have tok := C4; refine (C4 _ _ _ f5).mono ?_; rintro e w6 ⟨rfl, f6, b6⟩; have B6 := B5.trans b6; clear C4 f5 b6 tok B5)
      | (go_at_call 20; refine (C5 _ _ _ f6).mono ?_; rintro e w7 ⟨rfl, f7, b7⟩; have B7 := B6.trans b7; clear C5 f6 b7 B6)
      | (go_at_call 10; have tok := f7; refine (D0.out _ _ _ f7).mono ?_; rintro e w8 ⟨rfl, f8, b8⟩; have B8 := B7.trans b8; clear D0 f7 b8 tok B7)
      | (go_at_call 11; have tok := f8; refine (D1.out _ _ _ f8 B8).mono ?_; rintro e w9 ⟨rfl, f9, b9⟩; have B9 := B8.trans b9; clear D1 f8 b9 tok B8)
      | (go_at_call 15; have tok := f9; refine (D2.out _ _ _ f9).mono ?_; rintro e w10 ⟨rfl, f10, b10⟩; have B10 := B9.trans b10; clear D2 f9 b10 tok B9)
      | (go_at_call 16; have tok := f10; refine (D3.out _ _ _ f10).mono ?_; rintro e w11 ⟨rfl, f11, b11⟩; have B11 := B10.trans b11; clear D3 f10 b11 tok B10)
      | (go_at_call 12; have tok := f11; refine (D4.out _ _ _ f11).mono ?_; rintro e w12 ⟨rfl, f12, b12⟩; have B12 := B11.trans b12; clear D4 f11 b12 tok B11)
      | (go_at_call 13; refine (CR.out _ _ _ f12).mono ?_; rintro e w13 ⟨rfl, f13, b13⟩; have B13 := B12.trans b13; clear CR f12 b13 B12)
      | (go_at_call 22; refine (RF.out _ _ _ f13).mono ?_; rintro e w14 ⟨ra, rc, rfl, v14, b14⟩; have B14 := B13.trans (b14.mono B13.size); clear RF f13 b14 B13)
      | (go_at_call 30; have tok := S1; refine (S1.out _ _ _ v14 B14).mono ?_; rintro e w15 ⟨rfl, b15⟩; have B15 := B14.trans (b15.mono B14.size); have v15 := v14.later b15; clear S1 b15 B14 tok)
      | (go_at_call 30; have tok := B15; refine (S2.out _ _ _ v15 B15).mono ?_; rintro e w16 ⟨rfl, b16⟩; have B16 := B15.trans (b16.mono B15.size); clear S2 b16 B15 tok))
    go_ret
    exact ⟨rfl, B16⟩

set_option maxRecDepth 100000 in
set_option maxHeartbeats 8000000 in
theorem walk5 (w : World) (v0 v1 : Value) (old now : Vf.Bs) (p : Pre w v0 v1 old now) (F K T : Nat) (hF : F ≤ 9223372036854775807) (g0 : Vf.createE (s5 old F) Vf.Mov.nw = 0) (g1 : Vf.appendE (Vf.create (s5 old F) Vf.Mov.nw) Vf.Mov.nw now = 0) (g2 : Vf.syncE (Vf.append (Vf.create (s5 old F) Vf.Mov.nw) Vf.Mov.nw now) Vf.Mov.nw = 0) (g3 : Vf.renameE (Vf.sync (Vf.append (Vf.create (s5 old F) Vf.Mov.nw) Vf.Mov.nw now) Vf.Mov.nw) Vf.Mov.nw Vf.Mov.cur = 0) (g4 : Vf.syncNamesE (Vf.rename (Vf.sync (Vf.append (Vf.create (s5 old F) Vf.Mov.nw) Vf.Mov.nw now) Vf.Mov.nw) Vf.Mov.nw Vf.Mov.cur) = 0) :
    Calls Try.prog 6 #[v0, v1, .int .i64 (F : Int), .int .i64 (K : Int), .int .i64 (T : Int)] w fun e w' => e = .returned (.bool true) ∧ Below w.heap.size w w' := by
  obtain ⟨x0, d0, rfl⟩ := p.shape0
  obtain ⟨x1, d1, rfl⟩ := p.shape1
  have RD : Hid (Vf.findE (Vf.crash (Vf.syncNames (Vf.rename (Vf.sync (Vf.append (Vf.create (s5 old F) Vf.Mov.nw) Vf.Mov.nw now) Vf.Mov.nw) Vf.Mov.nw Vf.Mov.cur)) K T) Vf.Mov.cur = 0 ∧ Vf.read (Vf.crash (Vf.syncNames (Vf.rename (Vf.sync (Vf.append (Vf.create (s5 old F) Vf.Mov.nw) Vf.Mov.nw now) Vf.Mov.nw) Vf.Mov.nw Vf.Mov.cur)) K T) Vf.Mov.cur = now) := all_done p.o F hF g0 g1 g2 g3 g4 K T
  obtain ⟨l, hl⟩ : ∃ l, l = Vf.read (Vf.crash (Vf.syncNames (Vf.rename (Vf.sync (Vf.append (Vf.create (s5 old F) Vf.Mov.nw) Vf.Mov.nw now) Vf.Mov.nw) Vf.Mov.nw Vf.Mov.cur)) K T) Vf.Mov.cur := ⟨_, rfl⟩
  have i1 : ¬ (old.length : Int) > 400 := by have := p.o; omega
  have i2 : ¬ (now.length : Int) > 400 := by have := p.n; omega
  have i3 : ¬ (K : Int) < 0 := by omega
  have i4 : ¬ (T : Int) < 0 := by omega
  have i5 : ¬ (F : Int) < 0 := by omega
  have LV := lives_any
  have NW := new_20
  have PP : Hid _ := p
  have C1 := c1 w
  have C2 := c2 w old p.o
  have C3 := c3 w old p.o
  have C4 := c4 w old p.o
  have C5 := c5 w old p.o F hF
  obtain ⟨E0, hE0⟩ : ∃ E, E = Vf.createE (s5 old F) Vf.Mov.nw := ⟨_, rfl⟩
  have D0 : Hid (∀ wx lim b, FsIn w.heap.size lim wx b (s5 old F) → Calls Try.prog 10 #[.pointer (some ⟨b, 0, none⟩), .string ⟨#[110, 101, 119]⟩] wx fun e w' => e = .returned (.int .i64 E0) ∧ FsIn w.heap.size w'.heap.size w' b (Vf.create (s5 old F) Vf.Mov.nw) ∧ Below w.heap.size wx w') := fun wx lim b h => by
    rw [hE0]
    exact create_fs h (steps5 old p.o F 0 _ (by exact Nat.le_refl _)) Vf.Mov.nw (by decide)
  rw [← hE0] at g0
  obtain ⟨E1, hE1⟩ : ∃ E, E = Vf.appendE (Vf.create (s5 old F) Vf.Mov.nw) Vf.Mov.nw now := ⟨_, rfl⟩
  have D1 : Hid (∀ wx lim b, FsIn w.heap.size lim wx b (Vf.create (s5 old F) Vf.Mov.nw) → Below w.heap.size w wx → Calls Try.prog 11 #[.pointer (some ⟨b, 0, none⟩), .string ⟨#[110, 101, 119]⟩, .slice x1 now.length d1] wx fun e w' => e = .returned (.int .i64 E1) ∧ FsIn w.heap.size w'.heap.size w' b (Vf.append (Vf.create (s5 old F) Vf.Mov.nw) Vf.Mov.nw now) ∧ Below w.heap.size wx w') := fun wx lim b h hw => by
    rw [hE1]
    exact append_fs h Vf.Mov.nw (by decide) _ now (by have := p.n; have := stepsA old now p.o p.n F; omega) (p.free1 h hw)
  rw [← hE1] at g1
  obtain ⟨E2, hE2⟩ : ∃ E, E = Vf.syncE (Vf.append (Vf.create (s5 old F) Vf.Mov.nw) Vf.Mov.nw now) Vf.Mov.nw := ⟨_, rfl⟩
  have D2 : Hid (∀ wx lim b, FsIn w.heap.size lim wx b (Vf.append (Vf.create (s5 old F) Vf.Mov.nw) Vf.Mov.nw now) → Calls Try.prog 15 #[.pointer (some ⟨b, 0, none⟩), .string ⟨#[110, 101, 119]⟩] wx fun e w' => e = .returned (.int .i64 E2) ∧ FsIn w.heap.size w'.heap.size w' b (Vf.sync (Vf.append (Vf.create (s5 old F) Vf.Mov.nw) Vf.Mov.nw now) Vf.Mov.nw) ∧ Below w.heap.size wx w') := fun wx lim b h => by
    rw [hE2]
    exact sync_fs h (by have := stepsB old now p.o p.n F; omega) Vf.Mov.nw (by decide)
  rw [← hE2] at g2
  obtain ⟨E3, hE3⟩ : ∃ E, E = Vf.renameE (Vf.sync (Vf.append (Vf.create (s5 old F) Vf.Mov.nw) Vf.Mov.nw now) Vf.Mov.nw) Vf.Mov.nw Vf.Mov.cur := ⟨_, rfl⟩
  have D3 : Hid (∀ wx lim b, FsIn w.heap.size lim wx b (Vf.sync (Vf.append (Vf.create (s5 old F) Vf.Mov.nw) Vf.Mov.nw now) Vf.Mov.nw) → Calls Try.prog 16 #[.pointer (some ⟨b, 0, none⟩), .string ⟨#[110, 101, 119]⟩, .string ⟨#[99, 117, 114, 114, 101, 110, 116]⟩] wx fun e w' => e = .returned (.int .i64 E3) ∧ FsIn w.heap.size w'.heap.size w' b (Vf.rename (Vf.sync (Vf.append (Vf.create (s5 old F) Vf.Mov.nw) Vf.Mov.nw now) Vf.Mov.nw) Vf.Mov.nw Vf.Mov.cur) ∧ Below w.heap.size wx w') := fun wx lim b h => by
    rw [hE3]
    exact rename_fs h (by have := stepsC old now p.o p.n F; omega) Vf.Mov.nw Vf.Mov.cur (by decide) (by decide)
  rw [← hE3] at g3
  obtain ⟨E4, hE4⟩ : ∃ E, E = Vf.syncNamesE (Vf.rename (Vf.sync (Vf.append (Vf.create (s5 old F) Vf.Mov.nw) Vf.Mov.nw now) Vf.Mov.nw) Vf.Mov.nw Vf.Mov.cur) := ⟨_, rfl⟩
  have D4 : Hid (∀ wx lim b, FsIn w.heap.size lim wx b (Vf.rename (Vf.sync (Vf.append (Vf.create (s5 old F) Vf.Mov.nw) Vf.Mov.nw now) Vf.Mov.nw) Vf.Mov.nw Vf.Mov.cur) → Calls Try.prog 12 #[.pointer (some ⟨b, 0, none⟩)] wx fun e w' => e = .returned (.int .i64 E4) ∧ FsIn w.heap.size w'.heap.size w' b (Vf.syncNames (Vf.rename (Vf.sync (Vf.append (Vf.create (s5 old F) Vf.Mov.nw) Vf.Mov.nw now) Vf.Mov.nw) Vf.Mov.nw Vf.Mov.cur)) ∧ Below w.heap.size wx w') := fun wx lim b h => by
    rw [hE4]
    exact syncNames_fs h (by have := stepsD old now p.o p.n F; omega)
  rw [← hE4] at g4
  have CR : Hid (∀ wx lim b, FsIn w.heap.size lim wx b (Vf.syncNames (Vf.rename (Vf.sync (Vf.append (Vf.create (s5 old F) Vf.Mov.nw) Vf.Mov.nw now) Vf.Mov.nw) Vf.Mov.nw Vf.Mov.cur)) → Calls Try.prog 13 #[.pointer (some ⟨b, 0, none⟩), .int .i64 (K : Int), .int .i64 (T : Int)] wx fun e w' => e = .returned (.int .i64 0) ∧ FsIn w.heap.size w'.heap.size w' b (Vf.crash (Vf.syncNames (Vf.rename (Vf.sync (Vf.append (Vf.create (s5 old F) Vf.Mov.nw) Vf.Mov.nw now) Vf.Mov.nw) Vf.Mov.nw Vf.Mov.cur)) K T) ∧ Below w.heap.size wx w') := fun wx lim b h => crash_fs h (by have := stepsZ old now p.o p.n F 5; exact this) K T
  have RF : Hid (∀ wx lim b, FsIn w.heap.size lim wx b (Vf.crash (Vf.syncNames (Vf.rename (Vf.sync (Vf.append (Vf.create (s5 old F) Vf.Mov.nw) Vf.Mov.nw now) Vf.Mov.nw) Vf.Mov.nw Vf.Mov.cur)) K T) → Calls Try.prog 22 #[.pointer (some ⟨b, 0, none⟩), .string ⟨#[99, 117, 114, 114, 101, 110, 116]⟩] wx fun e w' => ∃ a c, e = .returned (.tuple #[.slice a l.length c, .int .i64 0]) ∧ BytesIn w' (.slice a l.length c) l ∧ Below wx.heap.size wx w') := fun wx lim b h => by
    have := read_fs h (by rw [Vf.crash_steps]; have := stepsZ old now p.o p.n F 5; exact this) Vf.Mov.cur (by decide)
    rw [RD.out.1, ← hl] at this
    refine this.mono ?_
    rintro e w' ⟨v', rfl, o, _, h2⟩
    obtain ⟨a, c, rfl⟩ := row_shape o
    exact ⟨a, c, rfl, bytes_of_own o (by have := p.o; have := p.n; rcases RD.out.2 |> (fun x => (Or.inr x : Vf.read (Vf.crash (Vf.syncNames (Vf.rename (Vf.sync (Vf.append (Vf.create (s5 old F) Vf.Mov.nw) Vf.Mov.nw now) Vf.Mov.nw) Vf.Mov.nw Vf.Mov.cur)) K T) Vf.Mov.cur = old ∨ Vf.read (Vf.crash (Vf.syncNames (Vf.rename (Vf.sync (Vf.append (Vf.create (s5 old F) Vf.Mov.nw) Vf.Mov.nw now) Vf.Mov.nw) Vf.Mov.nw Vf.Mov.cur)) K T) Vf.Mov.cur = now)) with e | e <;> rw [hl, e] <;> omega), h2⟩
  have S1 : Hid (∀ wx a c, BytesIn wx (.slice a l.length c) l → Below w.heap.size w wx → Calls Try.prog 30 #[.slice a l.length c, .slice x1 now.length d1] wx fun e w' => e = .returned (.bool (decide (l = now))) ∧ Below wx.heap.size wx w') := fun wx a c h hw => same_any wx _ _ _ _ h (p.b1.later hw)
  have HL : Hid (l = now) := by show _ = _; rw [hl]; exact RD.out.2
  have q0 : (E0 == 0) = true := by simpa using g0
  have q1 : (E1 == 0) = true := by simpa using g1
  have q2 : (E2 == 0) = true := by simpa using g2
  have q3 : (E3 == 0) = true := by simpa using g3
  have q4 : (E4 == 0) = true := by simpa using g4
  clear RD hl p hE0 hE1 hE2 hE3 hE4 g0 g1 g2 g3 g4
  have hd : decide (l = now) = true := decide_eq_true HL.out
  rw [hd] at S1
  clear hd HL
  go_enter Try.func6, Try.ntmps6
  go_wp2_with (first
    | (go_at_call 9; refine (LV _).mono ?_; rintro e w1 ⟨rfl, b1⟩; clear LV)
    | (go_at_call 8; refine (NW _ _ b1).mono ?_; rintro e w2 ⟨b, rfl, f2, b2⟩; have B2 := b1.trans (b2.mono b1.size); clear NW b2 b1)
    | (go_at_call 10; have tok := C1; refine (C1 _ _ _ f2).mono ?_; rintro e w3 ⟨rfl, f3, b3⟩; have B3 := B2.trans b3; clear C1 f2 b3 tok B2)
    | (go_at_call 11; have tok := C2; refine (C2 _ _ _ _ f3 (PP.out.free0 f3 B3)).mono ?_; rintro e w4 ⟨rfl, f4, b4⟩; have B4 := B3.trans b4; clear C2 f3 b4 tok B3)
    | (go_at_call 15; have tok := C3; refine (C3 _ _ _ f4).mono ?_; rintro e w5 ⟨rfl, f5, b5⟩; have B5 := B4.trans b5; clear C3 f4 b5 tok B4)
    | (go_at_call 12; have tok := C4; refine (C4 _ _ _ f5).mono ?_; rintro e w6 ⟨rfl, f6, b6⟩; have B6 := B5.trans b6; clear C4 f5 b6 tok B5)
    | (go_at_call 20; refine (C5 _ _ _ f6).mono ?_; rintro e w7 ⟨rfl, f7, b7⟩; have B7 := B6.trans b7; clear C5 f6 b7 B6)
    | (go_at_call 10; have tok := f7; refine (D0.out _ _ _ f7).mono ?_; rintro e w8 ⟨rfl, f8, b8⟩; have B8 := B7.trans b8; clear D0 f7 b8 tok B7)
    | (go_at_call 11; have tok := f8; refine (D1.out _ _ _ f8 B8).mono ?_; rintro e w9 ⟨rfl, f9, b9⟩; have B9 := B8.trans b9; clear D1 f8 b9 tok B8)
    | (go_at_call 15; have tok := f9; refine (D2.out _ _ _ f9).mono ?_; rintro e w10 ⟨rfl, f10, b10⟩; have B10 := B9.trans b10; clear D2 f9 b10 tok B9)
    | (go_at_call 16; have tok := f10; refine (D3.out _ _ _ f10).mono ?_; rintro e w11 ⟨rfl, f11, b11⟩; have B11 := B10.trans b11; clear D3 f10 b11 tok B10)
    | (go_at_call 12; have tok := f11; refine (D4.out _ _ _ f11).mono ?_; rintro e w12 ⟨rfl, f12, b12⟩; have B12 := B11.trans b12; clear D4 f11 b12 tok B11)
    | (go_at_call 13; refine (CR.out _ _ _ f12).mono ?_; rintro e w13 ⟨rfl, f13, b13⟩; have B13 := B12.trans b13; clear CR f12 b13 B12)
    | (go_at_call 22; refine (RF.out _ _ _ f13).mono ?_; rintro e w14 ⟨ra, rc, rfl, v14, b14⟩; have B14 := B13.trans (b14.mono B13.size); clear RF f13 b14 B13)
    | (go_at_call 30; refine (S1.out _ _ _ v14 B14).mono ?_; rintro e w15 ⟨rfl, b15⟩; have B15 := B14.trans (b15.mono B14.size); clear S1 b15 B14))
  go_ret
  exact ⟨rfl, B15⟩

end Go.Proofs.Ytclokpkhkokfhaa.vfsMoves
