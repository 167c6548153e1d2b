/-
  Nothing is appended that does not fit: names rise, and what is left is the room less the bytes of all names. For any room and any script. No condition.
-/
import Derived.Test.YtclokpkhkokfhabVRoomW
import Derived.Test.YtclokpkhkokfhabVLives
import Derived.Test.YtclokpkhkokfhabVPick
import Derived.Test.YtclokpkhkokfhabVSmall
namespace Go.Proofs.Ytclokpkhkokfhab.vfsRoom
open Go.ChangeShapes Go.WideShapes Go.ChangeAt Go.RowKit Go.Maps Go.Sort Go.Shelf

theorem walk_off (w : World) (a : Option Addr) (cap : Nat) (l : List Ac) (room : Int) (hr : -9223372036854775808 ≤ room ∧ room ≤ 9223372036854775807) (h : ActsIn w (.slice a l.length cap) l) (hs : smallB l = false) :
    Calls Try.prog 3 #[.int .i64 room, .slice a l.length cap] w fun e w' => e = .returned (.bool true) ∧ Below w.heap.size w w' := by
  have LV := lives_any
  have SM : Hid (∀ wx, Below w.heap.size w wx → Calls Try.prog 7 #[.slice a l.length cap] wx fun e w' => e = .returned (.bool false) ∧ w' = wx) := fun wx hw => small_any wx a _ cap l (h.later hw) rfl false hs.symm
  have PK : Hid (∀ wx, Calls Try.prog 5 #[.int .i64 room, .int .i64 2000] wx fun e w' => e = .returned (.int .i64 (pickN room 2000 : Int)) ∧ w' = wx) := fun wx => pick_is wx room 2000 (by decide) (by decide) hr.1 hr.2
  have NW : Hid (∀ wx, Calls Try.prog 6 #[.int .i64 (pickN room 2000 : Int)] wx fun e w' => ∃ b, e = .returned (.tuple #[.pointer (some ⟨b, 0, none⟩), .int .i64 0]) ∧ Below wx.heap.size wx w') := fun wx => by
    refine (new_fs wx (pickN room 2000) (by have := pickN_lt room (n := 2000) (by decide); omega)).mono ?_
    rintro e w' ⟨b, rfl, _, h2⟩
    exact ⟨b, rfl, h2⟩
  clear h hs hr
  go_enter Try.func3, Try.ntmps3
  go_wp2_with (first
    | (go_at_call 4; refine (LV _).mono ?_; rintro e w1 ⟨rfl, b1⟩)
    | (go_at_call 5; refine still (PK.out _) ?_)
    | (go_at_call 6; refine (NW.out _).mono ?_; rintro e w2 ⟨b, rfl, b2⟩; have B2 := b1.trans (b2.mono b1.size))
    | (go_at_call 7; refine still (SM.out _ B2) ?_))
  go_ret
  exact ⟨rfl, B2⟩

set_option maxRecDepth 100000 in
set_option maxHeartbeats 16000000 in
theorem walk_on (w : World) (a : Option Addr) (cap : Nat) (l : List Ac) (room : Int) (hr : -9223372036854775808 ≤ room ∧ room ≤ 9223372036854775807) (h : ActsIn w (.slice a l.length cap) l) (hs : smallB l = true) :
    Calls Try.prog 3 #[.int .i64 room, .slice a l.length cap] w fun e w' => e = .returned (.bool true) ∧ Below w.heap.size w w' := by
  have LV := lives_any
  have SM : Hid (∀ wx, Below w.heap.size w wx → Calls Try.prog 7 #[.slice a l.length cap] wx fun e w' => e = .returned (.bool true) ∧ w' = wx) := fun wx hw => small_any wx a _ cap l (h.later hw) rfl true hs.symm
  obtain ⟨R, hR⟩ : ∃ R, R = pickN room 2000 := ⟨_, rfl⟩
  have R2 : R < 2000 := by rw [hR]; exact pickN_lt room (by decide)
  have PK0 : Hid (∀ wx, Calls Try.prog 5 #[.int .i64 room, .int .i64 2000] wx fun e w' => e = .returned (.int .i64 (R : Int)) ∧ w' = wx) := fun wx => by rw [hR]; exact pick_is wx room 2000 (by decide) (by decide) hr.1 hr.2
  have NW : Hid (∀ wx, Below w.heap.size w wx → Calls Try.prog 6 #[.int .i64 (R : Int)] wx fun e w' => ∃ b, e = .returned (.tuple #[.pointer (some ⟨b, 0, none⟩), .int .i64 0]) ∧ FsIn w.heap.size w'.heap.size w' b (Vf.new R) ∧ Below wx.heap.size wx w') := fun wx hw => by
    refine (new_fs wx R (by omega)).mono ?_
    rintro e w' ⟨b, rfl, f, h2⟩
    obtain ⟨S, hr, hS⟩ := f.rep
    exact ⟨b, rfl, ⟨⟨S, hr, fun i hi => ⟨Nat.le_trans hw.size (hS i hi).1, (hS i hi).2⟩⟩, f.inv, Nat.le_trans hw.size f.low, f.lim⟩, h2⟩
  have HA : Hid _ := h
  have HP : Hid (l.length ≤ 100 ∧ ∀ x ∈ l, fits x = true) := small_parts hs
  obtain ⟨m, hm⟩ : ∃ m, m = l.length := ⟨_, rfl⟩
  have HM : Hid (m = l.length) := hm
  have mle : m ≤ 100 := by rw [hm]; exact HP.out.1
  rw [← hm]
  rw [← hm] at SM
  clear h hs hm hR hr
  go_enter Try.func3, Try.ntmps3
  go_wp2_with (first
    | (go_at_call 4; refine (LV _).mono ?_; rintro e w1 ⟨rfl, b1⟩; clear LV)
    | (go_at_call 5; refine still (PK0.out _) ?_; clear PK0)
    | (go_at_call 6; refine (NW.out _ b1).mono ?_; rintro e w2 ⟨b, rfl, f2, b2⟩; have B2 := b1.trans (b2.mono b1.size); clear NW b2 b1)
    | (go_at_call 7; refine still (SM.out _ B2) ?_; clear SM))
  go_loopw [7] (fun i wr => ∃ (j lim : Nat) (τ : Vf.St), j ≤ m ∧ i = .int .i64 j ∧ FsIn w.heap.size lim wr b τ ∧ Hid (Vf.Nice τ) ∧ Hid (τ.room = R) ∧ Hid (τ.steps ≤ 7 * j) ∧ Below w.heap.size w wr) (fun i _ => m - (intOf i).toNat)
  case atStart => exact ⟨0, _, _, Nat.zero_le _, rfl, f2, Vf.Nice.new R, rfl, Nat.zero_le _, B2⟩
  case round =>
    obtain ⟨j, lim, τ, hj, rfl, fx, HB, HR0, HS, bx⟩ := hrel
    clear f2 B2
    by_cases hlt : j < m
    · have hl : j < l.length := by have := HM.out; omega
      have hb := HB.out
      have hR := HR0.out
      clear HB HR0
      obtain ⟨B, off, rfl⟩ : ∃ b off, a = some ⟨b, off, none⟩ := by
        obtain ⟨⟨a', c', e, hf⟩, _⟩ := HA.out
        obtain ⟨b, off, ha, _⟩ := hf (fun h0 => by rw [h0] at hl; cases hl)
        cases e
        exact ⟨b, off, ha⟩
      obtain ⟨c0, c1, c2, c3, c4, c5⟩ := (HA.out.later bx).cells j hl
      have ok := HA.out.ok l[j] (List.getElem_mem hl)
      have hx := HP.out.2 l[j] (List.getElem_mem hl)
      obtain ⟨x, hxe⟩ : ∃ x, x = l[j] := ⟨_, rfl⟩
      rw [← hxe] at c0 c1 c2 c3 c4 c5 ok hx
      have sx : τ.steps ≤ 10000 := by have := HS.out; omega
      have PK : Hid (∀ wx, Calls Try.prog 5 #[.int .i64 x.kind, .int .i64 ((7 : Nat) : Int)] wx fun e w' => e = .returned (.int .i64 (pickN x.kind 7 : Int)) ∧ w' = wx) := fun wx => pick_is wx x.kind 7 (by decide) (by decide) ok.kind.1 ok.kind.2
      obtain ⟨va, vc, hv⟩ : ∃ va vc, x.v = .slice va x.l.length vc := by obtain ⟨a', c', e, _⟩ := ok.bytes; exact ⟨a', c', e⟩
      rw [hv] at c5
      have PK2 := pickN_lt x.kind (n := 7) (by decide)
      obtain ⟨q, hq⟩ : ∃ q, q = pickN x.kind 7 := ⟨_, rfl⟩
      rw [← hq] at PK PK2
      clear hxe hq HA HP HM hl
      match q, PK2 with
      | 0, _ =>
        have OP0 := fun wx (hw : Below wr.heap.size wr wx) => op_create x (fx.later hw) sx hx
        have OP : Hid _ := OP0
        clear OP0
        have HN : Hid (Vf.Nice (Vf.create τ (nameOf x.name))) := hb.create _
        have HR : Hid ((Vf.create τ (nameOf x.name)).room = R) := by show _ = _; rw [Vf.create_room, hR]
        have HS2 : Hid ((Vf.create τ (nameOf x.name)).steps ≤ 7 * (j + 1)) := by show _ ≤ _; have := Vf.create_steps τ (nameOf x.name); have := HS.out; omega
        generalize Vf.create τ (nameOf x.name) = τn at OP HN HR HS2
        clear ok PK2 hb HS fx
        go_wp2_with (first
          | (go_at_call 5; refine still (PK.out _) ?_)
          | (go_at_call 8; refine (OP.out _ (by first | exact (Below.refl _ _).alloc (Nat.le_refl _) _ | exact ((Below.refl _ _).alloc (Nat.le_refl _) _).drew | exact (Below.refl _ _).drew.alloc (Nat.le_refl _) _ | exact ((Below.refl _ _).drew.alloc (Nat.le_refl _) _).drew)).mono ?_; rintro e wn ⟨rfl, fn, bn⟩)
          | (go_at_call 15; refine (names_texts fn (by have := HS2.out; omega)).mono ?_; rintro e w5 ⟨a9, c9, rfl, t9, f5, b5⟩))
        have Bn : Below w.heap.size w wn := by first | exact (bx.alloc bx.size _).trans bn | exact (bx.alloc bx.size _).drew.trans bn
        have B5 : Below w.heap.size w w5 := Bn.trans (b5.mono Bn.size)
        have GI : Hid (Vf.Inv τn) := f5.inv
        have sn : τn.steps ≤ 10000 := by have := HS2.out; omega
        have HU0 : Hid ((sumTo τn (namesOf τn).length : Int) = τn.used ∧ τn.used ≤ 1000000000000000000) := ⟨sum_all GI.out HN.out, used_le GI.out sn⟩
        have Nle : (namesOf τn).length ≤ 10000 := by have := names_few f5 HN.out; omega
        have HT : Hid (TextsAt w5 (.slice a9 (namesOf τn).length c9) (namesOf τn)) := t9
        obtain ⟨N, hN⟩ : ∃ N, N = (namesOf τn).length := ⟨_, rfl⟩
        rw [← hN] at Nle
        rw [← hN]
        have HNN : Hid (N = (namesOf τn).length) := hN
        clear hN t9 c0 c1 c2 c3 c4 c5 bn fn PK OP hv b5 Bn bx hR
        go_loopw [10, 12] (fun n k wk => ∃ (i X : Nat), i ≤ N ∧ k = .int .i64 i ∧ n = .int .i64 ((R : Int) - (X : Int)) ∧ Hid (X = sumTo τn i) ∧ FsIn w.heap.size wn.heap.size wk b τn ∧ Below w5.heap.size w5 wk) (fun _ k _ => N - (intOf k).toNat)
        case atStart => exact ⟨0, 0, Nat.zero_le _, rfl, by simp, rfl, f5, Below.refl _ _⟩
        case round =>
          obtain ⟨i, X, hi, rfl, rfl, HX, fk, bk⟩ := hrel
          clear f5
          by_cases hil : i < N
          · have il : i < (namesOf τn).length := by have := HNN.out; omega
            obtain ⟨D, od, rfl, hat⟩ : ∃ D od, a9 = some ⟨D, od, none⟩ ∧ ∀ j (h : j < (namesOf τn).length), w5.cell? ⟨D, od + j, none⟩ = some (str (namesOf τn)[j]) := by
              obtain ⟨a', c', e, hf⟩ := HT.out
              obtain ⟨D, od, ha, hh⟩ := hf (fun h0 => by rw [h0] at il; cases il)
              cases e
              exact ⟨D, od, ha, hh⟩
            have d1 := keepC bk (hat i il)
            have RD := read_len fk sn (names_find GI.out HN.out (List.getElem_mem il))
            have sx1 := sum_next τn il
            obtain ⟨Y, hY⟩ : ∃ Y, Y = (Vf.read τn (namesOf τn)[i]).length := ⟨_, rfl⟩
            rw [← hY] at RD sx1
            have HX2 : Hid (X + Y = sumTo τn (i + 1)) := by show _ = _; rw [sx1, HX.out]
            have XY : X + Y ≤ 1000000000000000000 := by
              have h1 := sum_mono τn (j := i + 1) (k := (namesOf τn).length) il (Nat.le_refl _)
              have h2 := HU0.out
              have h3 := HX2.out
              omega
            have i5 : IntKind.i64.wrap ((R : Int) - (X : Int) - (Y : Int)) = (R : Int) - (X : Int) - (Y : Int) := by rw [IntKind.wrap_i64]; omega
            rcases Nat.eq_zero_or_pos i with h0 | h0
            · have H0 : Hid (i = 0) := h0
              obtain ⟨s1, hs1⟩ : ∃ s, s = (namesOf τn)[i] := ⟨_, rfl⟩
              rw [← hs1] at d1 RD
              clear hs1 hat HX sx1 hY HT HNN HU0 GI il h0
              go_wp2_with (first
                | (go_at_call 16; refine RD.mono ?_; rintro e w6 ⟨a6, c6, rfl, f6, b6⟩))
              obtain rfl : i = 0 := H0.out
              go_quiet (fail)
              go_wp2_with (fail)
              exact ⟨⟨0 + 1, X + Y, by omega, rfl, by rw [Int.natCast_add]; congr 1; omega, HX2, f6.later (below_drewN (Below.refl _ _) _), below_drewN (bk.trans (b6.mono bk.size)) _⟩, by simp [intOf]; omega⟩
            · obtain ⟨p, rfl⟩ : ∃ p, i = p + 1 := ⟨i - 1, by omega⟩
              have HLT : Hid _ := rise_at GI.out HN.out il
              obtain ⟨s1, hs1⟩ : ∃ s, s = (namesOf τn)[p + 1] := ⟨_, rfl⟩
              obtain ⟨s0, hs0⟩ : ∃ s, s = (namesOf τn)[p] := ⟨_, rfl⟩
              have E1 : Hid (w5.cell? ⟨D, od + (p + 1), none⟩ = some (str s1)) := by rw [hs1]; exact hat _ il
              have E0 : Hid (w5.cell? ⟨D, od + p, none⟩ = some (str s0)) := by rw [hs0]; exact hat _ (by omega)
              rw [← hs1] at d1 RD HLT
              rw [← hs0] at HLT
              have be1 : Op.bytesLess s1 s0 = false := by rw [bytesLess_eq]; exact decide_eq_false (fun h => absurd (List.lt_trans h HLT.out) (List.lt_irrefl _))
              have be2 : (s1 == s0) = false := by have := HLT.out; simp only [beq_eq_false_iff_ne]; rintro rfl; exact absurd this (List.lt_irrefl _)
              clear hs1 hs0 hat HX sx1 hY HT HNN HU0 GI il HLT
              go_wp2_with (first
                | (go_at_call 16; refine RD.mono ?_; rintro e w6 ⟨a6, c6, rfl, f6, b6⟩; have d2 := keepC (bk.trans (b6.mono bk.size)) E1.out; have d3 := keepC (bk.trans (b6.mono bk.size)) E0.out))
              go_quiet (fail)
              go_wp2_with (fail)
              exact ⟨⟨p + 1 + 1, X + Y, by omega, rfl, by rw [Int.natCast_add]; congr 1; omega, HX2, f6.later (below_drewN (Below.refl _ _) _), below_drewN (bk.trans (b6.mono bk.size)) _⟩, by simp [intOf]; omega⟩
          · have HU : Hid ((X : Int) = τn.used) := by
              show _ = _
              have h1 := HU0.out.1
              have h2 := HX.out
              have h3 := HNN.out
              rw [h2, ← h1, show i = (namesOf τn).length by omega]
            have LF := left_fs fk (by omega)
            have hl : Vf.left τn = (R : Int) - (X : Int) := by unfold Vf.left; rw [if_pos HN.out.on, HR.out, HU.out]
            rw [hl] at LF
            have i6 : ¬ (i : Int) < (N : Int) := by omega
            have i7 : ((R : Int) - (X : Int) != (R : Int) - (X : Int)) = false := by simp
    
            clear hl HU HX HNN HU0 GI HT hil hi
            go_wp2_with (first
              | (go_at_call 17; refine LF.mono ?_; rintro e w7 ⟨rfl, f7, b7⟩))
            exact ⟨⟨j + 1, _, τn, by omega, rfl, f7, HN, HR, HS2, B5.trans ((bk.trans (b7.mono bk.size)).mono B5.size)⟩, by simp [intOf]; omega⟩
      | 1, _ =>
        have HL : Hid (Vf.appendE τ (nameOf x.name) x.l = 0 → 0 ≤ ((Vf.append τ (nameOf x.name) x.l).room : Int) - (Vf.append τ (nameOf x.name) x.l).used) := append_left fx.inv hb _ _
        obtain ⟨E, hE⟩ : ∃ E, E = Vf.appendE τ (nameOf x.name) x.l := ⟨_, rfl⟩
        rw [← hE] at HL
        have OP0 := fun wx (hw : Below wr.heap.size wr wx) => op_append x (bx.trans (hw.mono bx.size)) ok (fx.later hw) sx hx
        have OP : Hid _ := OP0
        clear OP0
        rw [← hE, hv] at OP
        clear hE
        have HN : Hid (Vf.Nice (Vf.append τ (nameOf x.name) x.l)) := hb.append _ _
        have HR : Hid ((Vf.append τ (nameOf x.name) x.l).room = R) := by show _ = _; rw [Vf.append_room, hR]
        have HS2 : Hid ((Vf.append τ (nameOf x.name) x.l).steps ≤ 7 * (j + 1)) := by show _ ≤ _; have := Vf.append_le τ (nameOf x.name) x.l; have := (fits_parts hx).1; have := HS.out; omega
        generalize Vf.append τ (nameOf x.name) x.l = τn at OP HN HR HS2 HL
        clear ok PK2 hb HS fx
        by_cases hE : E = 0
        · subst hE
          have HL2 : Hid (0 ≤ (τn.room : Int) - τn.used) := HL.out rfl
          clear HL
          go_wp2_with (first
            | (go_at_call 5; refine still (PK.out _) ?_)
            | (go_at_call 9; refine (OP.out _ (by first | exact (Below.refl _ _).alloc (Nat.le_refl _) _ | exact ((Below.refl _ _).alloc (Nat.le_refl _) _).drew | exact (Below.refl _ _).drew.alloc (Nat.le_refl _) _ | exact ((Below.refl _ _).drew.alloc (Nat.le_refl _) _).drew)).mono ?_; rintro e wn ⟨rfl, fn, bn⟩)
            | (go_at_call 15; refine (names_texts fn (by have := HS2.out; omega)).mono ?_; rintro e w5 ⟨a9, c9, rfl, t9, f5, b5⟩))
          have Bn : Below w.heap.size w wn := by first | exact (bx.alloc bx.size _).trans bn | exact (bx.alloc bx.size _).drew.trans bn
          have B5 : Below w.heap.size w w5 := Bn.trans (b5.mono Bn.size)
          have GI : Hid (Vf.Inv τn) := f5.inv
          have sn : τn.steps ≤ 10000 := by have := HS2.out; omega
          have HU0 : Hid ((sumTo τn (namesOf τn).length : Int) = τn.used ∧ τn.used ≤ 1000000000000000000) := ⟨sum_all GI.out HN.out, used_le GI.out sn⟩
          have Nle : (namesOf τn).length ≤ 10000 := by have := names_few f5 HN.out; omega
          have HT : Hid (TextsAt w5 (.slice a9 (namesOf τn).length c9) (namesOf τn)) := t9
          obtain ⟨N, hN⟩ : ∃ N, N = (namesOf τn).length := ⟨_, rfl⟩
          rw [← hN] at Nle
          rw [← hN]
          have HNN : Hid (N = (namesOf τn).length) := hN
          clear hN t9 c0 c1 c2 c3 c4 c5 bn fn PK OP hv b5 Bn bx hR
          go_loopw [10, 12] (fun n k wk => ∃ (i X : Nat), i ≤ N ∧ k = .int .i64 i ∧ n = .int .i64 ((R : Int) - (X : Int)) ∧ Hid (X = sumTo τn i) ∧ FsIn w.heap.size wn.heap.size wk b τn ∧ Below w5.heap.size w5 wk) (fun _ k _ => N - (intOf k).toNat)
          case atStart => exact ⟨0, 0, Nat.zero_le _, rfl, by simp, rfl, f5, Below.refl _ _⟩
          case round =>
            obtain ⟨i, X, hi, rfl, rfl, HX, fk, bk⟩ := hrel
            clear f5
            by_cases hil : i < N
            · have il : i < (namesOf τn).length := by have := HNN.out; omega
              obtain ⟨D, od, rfl, hat⟩ : ∃ D od, a9 = some ⟨D, od, none⟩ ∧ ∀ j (h : j < (namesOf τn).length), w5.cell? ⟨D, od + j, none⟩ = some (str (namesOf τn)[j]) := by
                obtain ⟨a', c', e, hf⟩ := HT.out
                obtain ⟨D, od, ha, hh⟩ := hf (fun h0 => by rw [h0] at il; cases il)
                cases e
                exact ⟨D, od, ha, hh⟩
              have d1 := keepC bk (hat i il)
              have RD := read_len fk sn (names_find GI.out HN.out (List.getElem_mem il))
              have sx1 := sum_next τn il
              obtain ⟨Y, hY⟩ : ∃ Y, Y = (Vf.read τn (namesOf τn)[i]).length := ⟨_, rfl⟩
              rw [← hY] at RD sx1
              have HX2 : Hid (X + Y = sumTo τn (i + 1)) := by show _ = _; rw [sx1, HX.out]
              have XY : X + Y ≤ 1000000000000000000 := by
                have h1 := sum_mono τn (j := i + 1) (k := (namesOf τn).length) il (Nat.le_refl _)
                have h2 := HU0.out
                have h3 := HX2.out
                omega
              have i5 : IntKind.i64.wrap ((R : Int) - (X : Int) - (Y : Int)) = (R : Int) - (X : Int) - (Y : Int) := by rw [IntKind.wrap_i64]; omega
              rcases Nat.eq_zero_or_pos i with h0 | h0
              · have H0 : Hid (i = 0) := h0
                obtain ⟨s1, hs1⟩ : ∃ s, s = (namesOf τn)[i] := ⟨_, rfl⟩
                rw [← hs1] at d1 RD
                clear hs1 hat HX sx1 hY HT HNN HU0 GI il h0
                go_wp2_with (first
                  | (go_at_call 16; refine RD.mono ?_; rintro e w6 ⟨a6, c6, rfl, f6, b6⟩))
                obtain rfl : i = 0 := H0.out
                go_quiet (fail)
                go_wp2_with (fail)
                exact ⟨⟨0 + 1, X + Y, by omega, rfl, by rw [Int.natCast_add]; congr 1; omega, HX2, f6.later (below_drewN (Below.refl _ _) _), below_drewN (bk.trans (b6.mono bk.size)) _⟩, by simp [intOf]; omega⟩
              · obtain ⟨p, rfl⟩ : ∃ p, i = p + 1 := ⟨i - 1, by omega⟩
                have HLT : Hid _ := rise_at GI.out HN.out il
                obtain ⟨s1, hs1⟩ : ∃ s, s = (namesOf τn)[p + 1] := ⟨_, rfl⟩
                obtain ⟨s0, hs0⟩ : ∃ s, s = (namesOf τn)[p] := ⟨_, rfl⟩
                have E1 : Hid (w5.cell? ⟨D, od + (p + 1), none⟩ = some (str s1)) := by rw [hs1]; exact hat _ il
                have E0 : Hid (w5.cell? ⟨D, od + p, none⟩ = some (str s0)) := by rw [hs0]; exact hat _ (by omega)
                rw [← hs1] at d1 RD HLT
                rw [← hs0] at HLT
                have be1 : Op.bytesLess s1 s0 = false := by rw [bytesLess_eq]; exact decide_eq_false (fun h => absurd (List.lt_trans h HLT.out) (List.lt_irrefl _))
                have be2 : (s1 == s0) = false := by have := HLT.out; simp only [beq_eq_false_iff_ne]; rintro rfl; exact absurd this (List.lt_irrefl _)
                clear hs1 hs0 hat HX sx1 hY HT HNN HU0 GI il HLT
                go_wp2_with (first
                  | (go_at_call 16; refine RD.mono ?_; rintro e w6 ⟨a6, c6, rfl, f6, b6⟩; have d2 := keepC (bk.trans (b6.mono bk.size)) E1.out; have d3 := keepC (bk.trans (b6.mono bk.size)) E0.out))
                go_quiet (fail)
                go_wp2_with (fail)
                exact ⟨⟨p + 1 + 1, X + Y, by omega, rfl, by rw [Int.natCast_add]; congr 1; omega, HX2, f6.later (below_drewN (Below.refl _ _) _), below_drewN (bk.trans (b6.mono bk.size)) _⟩, by simp [intOf]; omega⟩
            · have HU : Hid ((X : Int) = τn.used) := by
                show _ = _
                have h1 := HU0.out.1
                have h2 := HX.out
                have h3 := HNN.out
                rw [h2, ← h1, show i = (namesOf τn).length by omega]
              have LF := left_fs fk (by omega)
              have hl : Vf.left τn = (R : Int) - (X : Int) := by unfold Vf.left; rw [if_pos HN.out.on, HR.out, HU.out]
              rw [hl] at LF
              have i6 : ¬ (i : Int) < (N : Int) := by omega
              have i7 : ((R : Int) - (X : Int) != (R : Int) - (X : Int)) = false := by simp
              have i9 : ¬ ((R : Int) - (X : Int) < 0) := by have := HL2.out; have := HR.out; have := HU.out; omega
              clear hl HU HX HNN HU0 GI HT hil hi
              go_wp2_with (first
                | (go_at_call 17; refine LF.mono ?_; rintro e w7 ⟨rfl, f7, b7⟩))
              exact ⟨⟨j + 1, _, τn, by omega, rfl, f7, HN, HR, HS2, B5.trans ((bk.trans (b7.mono bk.size)).mono B5.size)⟩, by simp [intOf]; omega⟩
        · have i8 : (E == 0) = false := by simpa using hE
          clear HL hE
          go_wp2_with (first
            | (go_at_call 5; refine still (PK.out _) ?_)
            | (go_at_call 9; refine (OP.out _ (by first | exact (Below.refl _ _).alloc (Nat.le_refl _) _ | exact ((Below.refl _ _).alloc (Nat.le_refl _) _).drew | exact (Below.refl _ _).drew.alloc (Nat.le_refl _) _ | exact ((Below.refl _ _).drew.alloc (Nat.le_refl _) _).drew)).mono ?_; rintro e wn ⟨rfl, fn, bn⟩)
            | (go_at_call 15; refine (names_texts fn (by have := HS2.out; omega)).mono ?_; rintro e w5 ⟨a9, c9, rfl, t9, f5, b5⟩))
          have Bn : Below w.heap.size w wn := by first | exact (bx.alloc bx.size _).trans bn | exact (bx.alloc bx.size _).drew.trans bn
          have B5 : Below w.heap.size w w5 := Bn.trans (b5.mono Bn.size)
          have GI : Hid (Vf.Inv τn) := f5.inv
          have sn : τn.steps ≤ 10000 := by have := HS2.out; omega
          have HU0 : Hid ((sumTo τn (namesOf τn).length : Int) = τn.used ∧ τn.used ≤ 1000000000000000000) := ⟨sum_all GI.out HN.out, used_le GI.out sn⟩
          have Nle : (namesOf τn).length ≤ 10000 := by have := names_few f5 HN.out; omega
          have HT : Hid (TextsAt w5 (.slice a9 (namesOf τn).length c9) (namesOf τn)) := t9
          obtain ⟨N, hN⟩ : ∃ N, N = (namesOf τn).length := ⟨_, rfl⟩
          rw [← hN] at Nle
          rw [← hN]
          have HNN : Hid (N = (namesOf τn).length) := hN
          clear hN t9 c0 c1 c2 c3 c4 c5 bn fn PK OP hv b5 Bn bx hR
          go_loopw [10, 12] (fun n k wk => ∃ (i X : Nat), i ≤ N ∧ k = .int .i64 i ∧ n = .int .i64 ((R : Int) - (X : Int)) ∧ Hid (X = sumTo τn i) ∧ FsIn w.heap.size wn.heap.size wk b τn ∧ Below w5.heap.size w5 wk) (fun _ k _ => N - (intOf k).toNat)
          case atStart => exact ⟨0, 0, Nat.zero_le _, rfl, by simp, rfl, f5, Below.refl _ _⟩
          case round =>
            obtain ⟨i, X, hi, rfl, rfl, HX, fk, bk⟩ := hrel
            clear f5
            by_cases hil : i < N
            · have il : i < (namesOf τn).length := by have := HNN.out; omega
              obtain ⟨D, od, rfl, hat⟩ : ∃ D od, a9 = some ⟨D, od, none⟩ ∧ ∀ j (h : j < (namesOf τn).length), w5.cell? ⟨D, od + j, none⟩ = some (str (namesOf τn)[j]) := by
                obtain ⟨a', c', e, hf⟩ := HT.out
                obtain ⟨D, od, ha, hh⟩ := hf (fun h0 => by rw [h0] at il; cases il)
                cases e
                exact ⟨D, od, ha, hh⟩
              have d1 := keepC bk (hat i il)
              have RD := read_len fk sn (names_find GI.out HN.out (List.getElem_mem il))
              have sx1 := sum_next τn il
              obtain ⟨Y, hY⟩ : ∃ Y, Y = (Vf.read τn (namesOf τn)[i]).length := ⟨_, rfl⟩
              rw [← hY] at RD sx1
              have HX2 : Hid (X + Y = sumTo τn (i + 1)) := by show _ = _; rw [sx1, HX.out]
              have XY : X + Y ≤ 1000000000000000000 := by
                have h1 := sum_mono τn (j := i + 1) (k := (namesOf τn).length) il (Nat.le_refl _)
                have h2 := HU0.out
                have h3 := HX2.out
                omega
              have i5 : IntKind.i64.wrap ((R : Int) - (X : Int) - (Y : Int)) = (R : Int) - (X : Int) - (Y : Int) := by rw [IntKind.wrap_i64]; omega
              rcases Nat.eq_zero_or_pos i with h0 | h0
              · have H0 : Hid (i = 0) := h0
                obtain ⟨s1, hs1⟩ : ∃ s, s = (namesOf τn)[i] := ⟨_, rfl⟩
                rw [← hs1] at d1 RD
                clear hs1 hat HX sx1 hY HT HNN HU0 GI il h0
                go_wp2_with (first
                  | (go_at_call 16; refine RD.mono ?_; rintro e w6 ⟨a6, c6, rfl, f6, b6⟩))
                obtain rfl : i = 0 := H0.out
                go_quiet (fail)
                go_wp2_with (fail)
                exact ⟨⟨0 + 1, X + Y, by omega, rfl, by rw [Int.natCast_add]; congr 1; omega, HX2, f6.later (below_drewN (Below.refl _ _) _), below_drewN (bk.trans (b6.mono bk.size)) _⟩, by simp [intOf]; omega⟩
              · obtain ⟨p, rfl⟩ : ∃ p, i = p + 1 := ⟨i - 1, by omega⟩
                have HLT : Hid _ := rise_at GI.out HN.out il
                obtain ⟨s1, hs1⟩ : ∃ s, s = (namesOf τn)[p + 1] := ⟨_, rfl⟩
                obtain ⟨s0, hs0⟩ : ∃ s, s = (namesOf τn)[p] := ⟨_, rfl⟩
                have E1 : Hid (w5.cell? ⟨D, od + (p + 1), none⟩ = some (str s1)) := by rw [hs1]; exact hat _ il
                have E0 : Hid (w5.cell? ⟨D, od + p, none⟩ = some (str s0)) := by rw [hs0]; exact hat _ (by omega)
                rw [← hs1] at d1 RD HLT
                rw [← hs0] at HLT
                have be1 : Op.bytesLess s1 s0 = false := by rw [bytesLess_eq]; exact decide_eq_false (fun h => absurd (List.lt_trans h HLT.out) (List.lt_irrefl _))
                have be2 : (s1 == s0) = false := by have := HLT.out; simp only [beq_eq_false_iff_ne]; rintro rfl; exact absurd this (List.lt_irrefl _)
                clear hs1 hs0 hat HX sx1 hY HT HNN HU0 GI il HLT
                go_wp2_with (first
                  | (go_at_call 16; refine RD.mono ?_; rintro e w6 ⟨a6, c6, rfl, f6, b6⟩; have d2 := keepC (bk.trans (b6.mono bk.size)) E1.out; have d3 := keepC (bk.trans (b6.mono bk.size)) E0.out))
                go_quiet (fail)
                go_wp2_with (fail)
                exact ⟨⟨p + 1 + 1, X + Y, by omega, rfl, by rw [Int.natCast_add]; congr 1; omega, HX2, f6.later (below_drewN (Below.refl _ _) _), below_drewN (bk.trans (b6.mono bk.size)) _⟩, by simp [intOf]; omega⟩
            · have HU : Hid ((X : Int) = τn.used) := by
                show _ = _
                have h1 := HU0.out.1
                have h2 := HX.out
                have h3 := HNN.out
                rw [h2, ← h1, show i = (namesOf τn).length by omega]
              have LF := left_fs fk (by omega)
              have hl : Vf.left τn = (R : Int) - (X : Int) := by unfold Vf.left; rw [if_pos HN.out.on, HR.out, HU.out]
              rw [hl] at LF
              have i6 : ¬ (i : Int) < (N : Int) := by omega
              have i7 : ((R : Int) - (X : Int) != (R : Int) - (X : Int)) = false := by simp
    
              clear hl HU HX HNN HU0 GI HT hil hi
              go_wp2_with (first
                | (go_at_call 17; refine LF.mono ?_; rintro e w7 ⟨rfl, f7, b7⟩))
              exact ⟨⟨j + 1, _, τn, by omega, rfl, f7, HN, HR, HS2, B5.trans ((bk.trans (b7.mono bk.size)).mono B5.size)⟩, by simp [intOf]; omega⟩
      | 2, _ =>
        have OP0 := fun wx (hw : Below wr.heap.size wr wx) => op_rename x (fx.later hw) sx hx
        have OP : Hid _ := OP0
        clear OP0
        have HN : Hid (Vf.Nice (Vf.rename τ (nameOf x.name) (nameOf x.other))) := hb.rename _ _
        have HR : Hid ((Vf.rename τ (nameOf x.name) (nameOf x.other)).room = R) := by show _ = _; rw [Vf.rename_room, hR]
        have HS2 : Hid ((Vf.rename τ (nameOf x.name) (nameOf x.other)).steps ≤ 7 * (j + 1)) := by show _ ≤ _; have := Vf.rename_steps τ (nameOf x.name) (nameOf x.other); have := HS.out; omega
        generalize Vf.rename τ (nameOf x.name) (nameOf x.other) = τn at OP HN HR HS2
        clear ok PK2 hb HS fx
        go_wp2_with (first
          | (go_at_call 5; refine still (PK.out _) ?_)
          | (go_at_call 10; refine (OP.out _ (by first | exact (Below.refl _ _).alloc (Nat.le_refl _) _ | exact ((Below.refl _ _).alloc (Nat.le_refl _) _).drew | exact (Below.refl _ _).drew.alloc (Nat.le_refl _) _ | exact ((Below.refl _ _).drew.alloc (Nat.le_refl _) _).drew)).mono ?_; rintro e wn ⟨rfl, fn, bn⟩)
          | (go_at_call 15; refine (names_texts fn (by have := HS2.out; omega)).mono ?_; rintro e w5 ⟨a9, c9, rfl, t9, f5, b5⟩))
        have Bn : Below w.heap.size w wn := by first | exact (bx.alloc bx.size _).trans bn | exact (bx.alloc bx.size _).drew.trans bn
        have B5 : Below w.heap.size w w5 := Bn.trans (b5.mono Bn.size)
        have GI : Hid (Vf.Inv τn) := f5.inv
        have sn : τn.steps ≤ 10000 := by have := HS2.out; omega
        have HU0 : Hid ((sumTo τn (namesOf τn).length : Int) = τn.used ∧ τn.used ≤ 1000000000000000000) := ⟨sum_all GI.out HN.out, used_le GI.out sn⟩
        have Nle : (namesOf τn).length ≤ 10000 := by have := names_few f5 HN.out; omega
        have HT : Hid (TextsAt w5 (.slice a9 (namesOf τn).length c9) (namesOf τn)) := t9
        obtain ⟨N, hN⟩ : ∃ N, N = (namesOf τn).length := ⟨_, rfl⟩
        rw [← hN] at Nle
        rw [← hN]
        have HNN : Hid (N = (namesOf τn).length) := hN
        clear hN t9 c0 c1 c2 c3 c4 c5 bn fn PK OP hv b5 Bn bx hR
        go_loopw [10, 12] (fun n k wk => ∃ (i X : Nat), i ≤ N ∧ k = .int .i64 i ∧ n = .int .i64 ((R : Int) - (X : Int)) ∧ Hid (X = sumTo τn i) ∧ FsIn w.heap.size wn.heap.size wk b τn ∧ Below w5.heap.size w5 wk) (fun _ k _ => N - (intOf k).toNat)
        case atStart => exact ⟨0, 0, Nat.zero_le _, rfl, by simp, rfl, f5, Below.refl _ _⟩
        case round =>
          obtain ⟨i, X, hi, rfl, rfl, HX, fk, bk⟩ := hrel
          clear f5
          by_cases hil : i < N
          · have il : i < (namesOf τn).length := by have := HNN.out; omega
            obtain ⟨D, od, rfl, hat⟩ : ∃ D od, a9 = some ⟨D, od, none⟩ ∧ ∀ j (h : j < (namesOf τn).length), w5.cell? ⟨D, od + j, none⟩ = some (str (namesOf τn)[j]) := by
              obtain ⟨a', c', e, hf⟩ := HT.out
              obtain ⟨D, od, ha, hh⟩ := hf (fun h0 => by rw [h0] at il; cases il)
              cases e
              exact ⟨D, od, ha, hh⟩
            have d1 := keepC bk (hat i il)
            have RD := read_len fk sn (names_find GI.out HN.out (List.getElem_mem il))
            have sx1 := sum_next τn il
            obtain ⟨Y, hY⟩ : ∃ Y, Y = (Vf.read τn (namesOf τn)[i]).length := ⟨_, rfl⟩
            rw [← hY] at RD sx1
            have HX2 : Hid (X + Y = sumTo τn (i + 1)) := by show _ = _; rw [sx1, HX.out]
            have XY : X + Y ≤ 1000000000000000000 := by
              have h1 := sum_mono τn (j := i + 1) (k := (namesOf τn).length) il (Nat.le_refl _)
              have h2 := HU0.out
              have h3 := HX2.out
              omega
            have i5 : IntKind.i64.wrap ((R : Int) - (X : Int) - (Y : Int)) = (R : Int) - (X : Int) - (Y : Int) := by rw [IntKind.wrap_i64]; omega
            rcases Nat.eq_zero_or_pos i with h0 | h0
            · have H0 : Hid (i = 0) := h0
              obtain ⟨s1, hs1⟩ : ∃ s, s = (namesOf τn)[i] := ⟨_, rfl⟩
              rw [← hs1] at d1 RD
              clear hs1 hat HX sx1 hY HT HNN HU0 GI il h0
              go_wp2_with (first
                | (go_at_call 16; refine RD.mono ?_; rintro e w6 ⟨a6, c6, rfl, f6, b6⟩))
              obtain rfl : i = 0 := H0.out
              go_quiet (fail)
              go_wp2_with (fail)
              exact ⟨⟨0 + 1, X + Y, by omega, rfl, by rw [Int.natCast_add]; congr 1; omega, HX2, f6.later (below_drewN (Below.refl _ _) _), below_drewN (bk.trans (b6.mono bk.size)) _⟩, by simp [intOf]; omega⟩
            · obtain ⟨p, rfl⟩ : ∃ p, i = p + 1 := ⟨i - 1, by omega⟩
              have HLT : Hid _ := rise_at GI.out HN.out il
              obtain ⟨s1, hs1⟩ : ∃ s, s = (namesOf τn)[p + 1] := ⟨_, rfl⟩
              obtain ⟨s0, hs0⟩ : ∃ s, s = (namesOf τn)[p] := ⟨_, rfl⟩
              have E1 : Hid (w5.cell? ⟨D, od + (p + 1), none⟩ = some (str s1)) := by rw [hs1]; exact hat _ il
              have E0 : Hid (w5.cell? ⟨D, od + p, none⟩ = some (str s0)) := by rw [hs0]; exact hat _ (by omega)
              rw [← hs1] at d1 RD HLT
              rw [← hs0] at HLT
              have be1 : Op.bytesLess s1 s0 = false := by rw [bytesLess_eq]; exact decide_eq_false (fun h => absurd (List.lt_trans h HLT.out) (List.lt_irrefl _))
              have be2 : (s1 == s0) = false := by have := HLT.out; simp only [beq_eq_false_iff_ne]; rintro rfl; exact absurd this (List.lt_irrefl _)
              clear hs1 hs0 hat HX sx1 hY HT HNN HU0 GI il HLT
              go_wp2_with (first
                | (go_at_call 16; refine RD.mono ?_; rintro e w6 ⟨a6, c6, rfl, f6, b6⟩; have d2 := keepC (bk.trans (b6.mono bk.size)) E1.out; have d3 := keepC (bk.trans (b6.mono bk.size)) E0.out))
              go_quiet (fail)
              go_wp2_with (fail)
              exact ⟨⟨p + 1 + 1, X + Y, by omega, rfl, by rw [Int.natCast_add]; congr 1; omega, HX2, f6.later (below_drewN (Below.refl _ _) _), below_drewN (bk.trans (b6.mono bk.size)) _⟩, by simp [intOf]; omega⟩
          · have HU : Hid ((X : Int) = τn.used) := by
              show _ = _
              have h1 := HU0.out.1
              have h2 := HX.out
              have h3 := HNN.out
              rw [h2, ← h1, show i = (namesOf τn).length by omega]
            have LF := left_fs fk (by omega)
            have hl : Vf.left τn = (R : Int) - (X : Int) := by unfold Vf.left; rw [if_pos HN.out.on, HR.out, HU.out]
            rw [hl] at LF
            have i6 : ¬ (i : Int) < (N : Int) := by omega
            have i7 : ((R : Int) - (X : Int) != (R : Int) - (X : Int)) = false := by simp
    
            clear hl HU HX HNN HU0 GI HT hil hi
            go_wp2_with (first
              | (go_at_call 17; refine LF.mono ?_; rintro e w7 ⟨rfl, f7, b7⟩))
            exact ⟨⟨j + 1, _, τn, by omega, rfl, f7, HN, HR, HS2, B5.trans ((bk.trans (b7.mono bk.size)).mono B5.size)⟩, by simp [intOf]; omega⟩
      | 3, _ =>
        have OP0 := fun wx (hw : Below wr.heap.size wr wx) => op_remove x (fx.later hw) sx hx
        have OP : Hid _ := OP0
        clear OP0
        have HN : Hid (Vf.Nice (Vf.remove τ (nameOf x.name))) := hb.remove _
        have HR : Hid ((Vf.remove τ (nameOf x.name)).room = R) := by show _ = _; rw [Vf.remove_room, hR]
        have HS2 : Hid ((Vf.remove τ (nameOf x.name)).steps ≤ 7 * (j + 1)) := by show _ ≤ _; have := Vf.remove_steps τ (nameOf x.name); have := HS.out; omega
        generalize Vf.remove τ (nameOf x.name) = τn at OP HN HR HS2
        clear ok PK2 hb HS fx
        go_wp2_with (first
          | (go_at_call 5; refine still (PK.out _) ?_)
          | (go_at_call 11; refine (OP.out _ (by first | exact (Below.refl _ _).alloc (Nat.le_refl _) _ | exact ((Below.refl _ _).alloc (Nat.le_refl _) _).drew | exact (Below.refl _ _).drew.alloc (Nat.le_refl _) _ | exact ((Below.refl _ _).drew.alloc (Nat.le_refl _) _).drew)).mono ?_; rintro e wn ⟨rfl, fn, bn⟩)
          | (go_at_call 15; refine (names_texts fn (by have := HS2.out; omega)).mono ?_; rintro e w5 ⟨a9, c9, rfl, t9, f5, b5⟩))
        have Bn : Below w.heap.size w wn := by first | exact (bx.alloc bx.size _).trans bn | exact (bx.alloc bx.size _).drew.trans bn
        have B5 : Below w.heap.size w w5 := Bn.trans (b5.mono Bn.size)
        have GI : Hid (Vf.Inv τn) := f5.inv
        have sn : τn.steps ≤ 10000 := by have := HS2.out; omega
        have HU0 : Hid ((sumTo τn (namesOf τn).length : Int) = τn.used ∧ τn.used ≤ 1000000000000000000) := ⟨sum_all GI.out HN.out, used_le GI.out sn⟩
        have Nle : (namesOf τn).length ≤ 10000 := by have := names_few f5 HN.out; omega
        have HT : Hid (TextsAt w5 (.slice a9 (namesOf τn).length c9) (namesOf τn)) := t9
        obtain ⟨N, hN⟩ : ∃ N, N = (namesOf τn).length := ⟨_, rfl⟩
        rw [← hN] at Nle
        rw [← hN]
        have HNN : Hid (N = (namesOf τn).length) := hN
        clear hN t9 c0 c1 c2 c3 c4 c5 bn fn PK OP hv b5 Bn bx hR
        go_loopw [10, 12] (fun n k wk => ∃ (i X : Nat), i ≤ N ∧ k = .int .i64 i ∧ n = .int .i64 ((R : Int) - (X : Int)) ∧ Hid (X = sumTo τn i) ∧ FsIn w.heap.size wn.heap.size wk b τn ∧ Below w5.heap.size w5 wk) (fun _ k _ => N - (intOf k).toNat)
        case atStart => exact ⟨0, 0, Nat.zero_le _, rfl, by simp, rfl, f5, Below.refl _ _⟩
        case round =>
          obtain ⟨i, X, hi, rfl, rfl, HX, fk, bk⟩ := hrel
          clear f5
          by_cases hil : i < N
          · have il : i < (namesOf τn).length := by have := HNN.out; omega
            obtain ⟨D, od, rfl, hat⟩ : ∃ D od, a9 = some ⟨D, od, none⟩ ∧ ∀ j (h : j < (namesOf τn).length), w5.cell? ⟨D, od + j, none⟩ = some (str (namesOf τn)[j]) := by
              obtain ⟨a', c', e, hf⟩ := HT.out
              obtain ⟨D, od, ha, hh⟩ := hf (fun h0 => by rw [h0] at il; cases il)
              cases e
              exact ⟨D, od, ha, hh⟩
            have d1 := keepC bk (hat i il)
            have RD := read_len fk sn (names_find GI.out HN.out (List.getElem_mem il))
            have sx1 := sum_next τn il
            obtain ⟨Y, hY⟩ : ∃ Y, Y = (Vf.read τn (namesOf τn)[i]).length := ⟨_, rfl⟩
            rw [← hY] at RD sx1
            have HX2 : Hid (X + Y = sumTo τn (i + 1)) := by show _ = _; rw [sx1, HX.out]
            have XY : X + Y ≤ 1000000000000000000 := by
              have h1 := sum_mono τn (j := i + 1) (k := (namesOf τn).length) il (Nat.le_refl _)
              have h2 := HU0.out
              have h3 := HX2.out
              omega
            have i5 : IntKind.i64.wrap ((R : Int) - (X : Int) - (Y : Int)) = (R : Int) - (X : Int) - (Y : Int) := by rw [IntKind.wrap_i64]; omega
            rcases Nat.eq_zero_or_pos i with h0 | h0
            · have H0 : Hid (i = 0) := h0
              obtain ⟨s1, hs1⟩ : ∃ s, s = (namesOf τn)[i] := ⟨_, rfl⟩
              rw [← hs1] at d1 RD
              clear hs1 hat HX sx1 hY HT HNN HU0 GI il h0
              go_wp2_with (first
                | (go_at_call 16; refine RD.mono ?_; rintro e w6 ⟨a6, c6, rfl, f6, b6⟩))
              obtain rfl : i = 0 := H0.out
              go_quiet (fail)
              go_wp2_with (fail)
              exact ⟨⟨0 + 1, X + Y, by omega, rfl, by rw [Int.natCast_add]; congr 1; omega, HX2, f6.later (below_drewN (Below.refl _ _) _), below_drewN (bk.trans (b6.mono bk.size)) _⟩, by simp [intOf]; omega⟩
            · obtain ⟨p, rfl⟩ : ∃ p, i = p + 1 := ⟨i - 1, by omega⟩
              have HLT : Hid _ := rise_at GI.out HN.out il
              obtain ⟨s1, hs1⟩ : ∃ s, s = (namesOf τn)[p + 1] := ⟨_, rfl⟩
              obtain ⟨s0, hs0⟩ : ∃ s, s = (namesOf τn)[p] := ⟨_, rfl⟩
              have E1 : Hid (w5.cell? ⟨D, od + (p + 1), none⟩ = some (str s1)) := by rw [hs1]; exact hat _ il
              have E0 : Hid (w5.cell? ⟨D, od + p, none⟩ = some (str s0)) := by rw [hs0]; exact hat _ (by omega)
              rw [← hs1] at d1 RD HLT
              rw [← hs0] at HLT
              have be1 : Op.bytesLess s1 s0 = false := by rw [bytesLess_eq]; exact decide_eq_false (fun h => absurd (List.lt_trans h HLT.out) (List.lt_irrefl _))
              have be2 : (s1 == s0) = false := by have := HLT.out; simp only [beq_eq_false_iff_ne]; rintro rfl; exact absurd this (List.lt_irrefl _)
              clear hs1 hs0 hat HX sx1 hY HT HNN HU0 GI il HLT
              go_wp2_with (first
                | (go_at_call 16; refine RD.mono ?_; rintro e w6 ⟨a6, c6, rfl, f6, b6⟩; have d2 := keepC (bk.trans (b6.mono bk.size)) E1.out; have d3 := keepC (bk.trans (b6.mono bk.size)) E0.out))
              go_quiet (fail)
              go_wp2_with (fail)
              exact ⟨⟨p + 1 + 1, X + Y, by omega, rfl, by rw [Int.natCast_add]; congr 1; omega, HX2, f6.later (below_drewN (Below.refl _ _) _), below_drewN (bk.trans (b6.mono bk.size)) _⟩, by simp [intOf]; omega⟩
          · have HU : Hid ((X : Int) = τn.used) := by
              show _ = _
              have h1 := HU0.out.1
              have h2 := HX.out
              have h3 := HNN.out
              rw [h2, ← h1, show i = (namesOf τn).length by omega]
            have LF := left_fs fk (by omega)
            have hl : Vf.left τn = (R : Int) - (X : Int) := by unfold Vf.left; rw [if_pos HN.out.on, HR.out, HU.out]
            rw [hl] at LF
            have i6 : ¬ (i : Int) < (N : Int) := by omega
            have i7 : ((R : Int) - (X : Int) != (R : Int) - (X : Int)) = false := by simp
    
            clear hl HU HX HNN HU0 GI HT hil hi
            go_wp2_with (first
              | (go_at_call 17; refine LF.mono ?_; rintro e w7 ⟨rfl, f7, b7⟩))
            exact ⟨⟨j + 1, _, τn, by omega, rfl, f7, HN, HR, HS2, B5.trans ((bk.trans (b7.mono bk.size)).mono B5.size)⟩, by simp [intOf]; omega⟩
      | 4, _ =>
        have OP0 := fun wx (hw : Below wr.heap.size wr wx) => op_sync x (fx.later hw) sx hx
        have OP : Hid _ := OP0
        clear OP0
        have HN : Hid (Vf.Nice (Vf.sync τ (nameOf x.name))) := hb.sync _
        have HR : Hid ((Vf.sync τ (nameOf x.name)).room = R) := by show _ = _; rw [Vf.sync_room, hR]
        have HS2 : Hid ((Vf.sync τ (nameOf x.name)).steps ≤ 7 * (j + 1)) := by show _ ≤ _; have := Vf.sync_steps τ (nameOf x.name); have := HS.out; omega
        generalize Vf.sync τ (nameOf x.name) = τn at OP HN HR HS2
        clear ok PK2 hb HS fx
        go_wp2_with (first
          | (go_at_call 5; refine still (PK.out _) ?_)
          | (go_at_call 12; refine (OP.out _ (by first | exact (Below.refl _ _).alloc (Nat.le_refl _) _ | exact ((Below.refl _ _).alloc (Nat.le_refl _) _).drew | exact (Below.refl _ _).drew.alloc (Nat.le_refl _) _ | exact ((Below.refl _ _).drew.alloc (Nat.le_refl _) _).drew)).mono ?_; rintro e wn ⟨rfl, fn, bn⟩)
          | (go_at_call 15; refine (names_texts fn (by have := HS2.out; omega)).mono ?_; rintro e w5 ⟨a9, c9, rfl, t9, f5, b5⟩))
        have Bn : Below w.heap.size w wn := by first | exact (bx.alloc bx.size _).trans bn | exact (bx.alloc bx.size _).drew.trans bn
        have B5 : Below w.heap.size w w5 := Bn.trans (b5.mono Bn.size)
        have GI : Hid (Vf.Inv τn) := f5.inv
        have sn : τn.steps ≤ 10000 := by have := HS2.out; omega
        have HU0 : Hid ((sumTo τn (namesOf τn).length : Int) = τn.used ∧ τn.used ≤ 1000000000000000000) := ⟨sum_all GI.out HN.out, used_le GI.out sn⟩
        have Nle : (namesOf τn).length ≤ 10000 := by have := names_few f5 HN.out; omega
        have HT : Hid (TextsAt w5 (.slice a9 (namesOf τn).length c9) (namesOf τn)) := t9
        obtain ⟨N, hN⟩ : ∃ N, N = (namesOf τn).length := ⟨_, rfl⟩
        rw [← hN] at Nle
        rw [← hN]
        have HNN : Hid (N = (namesOf τn).length) := hN
        clear hN t9 c0 c1 c2 c3 c4 c5 bn fn PK OP hv b5 Bn bx hR
        go_loopw [10, 12] (fun n k wk => ∃ (i X : Nat), i ≤ N ∧ k = .int .i64 i ∧ n = .int .i64 ((R : Int) - (X : Int)) ∧ Hid (X = sumTo τn i) ∧ FsIn w.heap.size wn.heap.size wk b τn ∧ Below w5.heap.size w5 wk) (fun _ k _ => N - (intOf k).toNat)
        case atStart => exact ⟨0, 0, Nat.zero_le _, rfl, by simp, rfl, f5, Below.refl _ _⟩
        case round =>
          obtain ⟨i, X, hi, rfl, rfl, HX, fk, bk⟩ := hrel
          clear f5
          by_cases hil : i < N
          · have il : i < (namesOf τn).length := by have := HNN.out; omega
            obtain ⟨D, od, rfl, hat⟩ : ∃ D od, a9 = some ⟨D, od, none⟩ ∧ ∀ j (h : j < (namesOf τn).length), w5.cell? ⟨D, od + j, none⟩ = some (str (namesOf τn)[j]) := by
              obtain ⟨a', c', e, hf⟩ := HT.out
              obtain ⟨D, od, ha, hh⟩ := hf (fun h0 => by rw [h0] at il; cases il)
              cases e
              exact ⟨D, od, ha, hh⟩
            have d1 := keepC bk (hat i il)
            have RD := read_len fk sn (names_find GI.out HN.out (List.getElem_mem il))
            have sx1 := sum_next τn il
            obtain ⟨Y, hY⟩ : ∃ Y, Y = (Vf.read τn (namesOf τn)[i]).length := ⟨_, rfl⟩
            rw [← hY] at RD sx1
            have HX2 : Hid (X + Y = sumTo τn (i + 1)) := by show _ = _; rw [sx1, HX.out]
            have XY : X + Y ≤ 1000000000000000000 := by
              have h1 := sum_mono τn (j := i + 1) (k := (namesOf τn).length) il (Nat.le_refl _)
              have h2 := HU0.out
              have h3 := HX2.out
              omega
            have i5 : IntKind.i64.wrap ((R : Int) - (X : Int) - (Y : Int)) = (R : Int) - (X : Int) - (Y : Int) := by rw [IntKind.wrap_i64]; omega
            rcases Nat.eq_zero_or_pos i with h0 | h0
            · have H0 : Hid (i = 0) := h0
              obtain ⟨s1, hs1⟩ : ∃ s, s = (namesOf τn)[i] := ⟨_, rfl⟩
              rw [← hs1] at d1 RD
              clear hs1 hat HX sx1 hY HT HNN HU0 GI il h0
              go_wp2_with (first
                | (go_at_call 16; refine RD.mono ?_; rintro e w6 ⟨a6, c6, rfl, f6, b6⟩))
              obtain rfl : i = 0 := H0.out
              go_quiet (fail)
              go_wp2_with (fail)
              exact ⟨⟨0 + 1, X + Y, by omega, rfl, by rw [Int.natCast_add]; congr 1; omega, HX2, f6.later (below_drewN (Below.refl _ _) _), below_drewN (bk.trans (b6.mono bk.size)) _⟩, by simp [intOf]; omega⟩
            · obtain ⟨p, rfl⟩ : ∃ p, i = p + 1 := ⟨i - 1, by omega⟩
              have HLT : Hid _ := rise_at GI.out HN.out il
              obtain ⟨s1, hs1⟩ : ∃ s, s = (namesOf τn)[p + 1] := ⟨_, rfl⟩
              obtain ⟨s0, hs0⟩ : ∃ s, s = (namesOf τn)[p] := ⟨_, rfl⟩
              have E1 : Hid (w5.cell? ⟨D, od + (p + 1), none⟩ = some (str s1)) := by rw [hs1]; exact hat _ il
              have E0 : Hid (w5.cell? ⟨D, od + p, none⟩ = some (str s0)) := by rw [hs0]; exact hat _ (by omega)
              rw [← hs1] at d1 RD HLT
              rw [← hs0] at HLT
              have be1 : Op.bytesLess s1 s0 = false := by rw [bytesLess_eq]; exact decide_eq_false (fun h => absurd (List.lt_trans h HLT.out) (List.lt_irrefl _))
              have be2 : (s1 == s0) = false := by have := HLT.out; simp only [beq_eq_false_iff_ne]; rintro rfl; exact absurd this (List.lt_irrefl _)
              clear hs1 hs0 hat HX sx1 hY HT HNN HU0 GI il HLT
              go_wp2_with (first
                | (go_at_call 16; refine RD.mono ?_; rintro e w6 ⟨a6, c6, rfl, f6, b6⟩; have d2 := keepC (bk.trans (b6.mono bk.size)) E1.out; have d3 := keepC (bk.trans (b6.mono bk.size)) E0.out))
              go_quiet (fail)
              go_wp2_with (fail)
              exact ⟨⟨p + 1 + 1, X + Y, by omega, rfl, by rw [Int.natCast_add]; congr 1; omega, HX2, f6.later (below_drewN (Below.refl _ _) _), below_drewN (bk.trans (b6.mono bk.size)) _⟩, by simp [intOf]; omega⟩
          · have HU : Hid ((X : Int) = τn.used) := by
              show _ = _
              have h1 := HU0.out.1
              have h2 := HX.out
              have h3 := HNN.out
              rw [h2, ← h1, show i = (namesOf τn).length by omega]
            have LF := left_fs fk (by omega)
            have hl : Vf.left τn = (R : Int) - (X : Int) := by unfold Vf.left; rw [if_pos HN.out.on, HR.out, HU.out]
            rw [hl] at LF
            have i6 : ¬ (i : Int) < (N : Int) := by omega
            have i7 : ((R : Int) - (X : Int) != (R : Int) - (X : Int)) = false := by simp
    
            clear hl HU HX HNN HU0 GI HT hil hi
            go_wp2_with (first
              | (go_at_call 17; refine LF.mono ?_; rintro e w7 ⟨rfl, f7, b7⟩))
            exact ⟨⟨j + 1, _, τn, by omega, rfl, f7, HN, HR, HS2, B5.trans ((bk.trans (b7.mono bk.size)).mono B5.size)⟩, by simp [intOf]; omega⟩
      | 5, _ =>
        have OP0 := fun wx (hw : Below wr.heap.size wr wx) => syncNames_fs (fx.later hw) (by omega)
        have OP : Hid _ := OP0
        clear OP0
        have HN : Hid (Vf.Nice (Vf.syncNames τ)) := hb.syncNames
        have HR : Hid ((Vf.syncNames τ).room = R) := by show _ = _; rw [Vf.syncNames_room, hR]
        have HS2 : Hid ((Vf.syncNames τ).steps ≤ 7 * (j + 1)) := by show _ ≤ _; have := Vf.syncNames_steps τ; have := HS.out; omega
        generalize Vf.syncNames τ = τn at OP HN HR HS2
        clear ok PK2 hb HS fx
        go_wp2_with (first
          | (go_at_call 5; refine still (PK.out _) ?_)
          | (go_at_call 13; refine (OP.out _ (by first | exact (Below.refl _ _).alloc (Nat.le_refl _) _ | exact ((Below.refl _ _).alloc (Nat.le_refl _) _).drew | exact (Below.refl _ _).drew.alloc (Nat.le_refl _) _ | exact ((Below.refl _ _).drew.alloc (Nat.le_refl _) _).drew)).mono ?_; rintro e wn ⟨rfl, fn, bn⟩)
          | (go_at_call 15; refine (names_texts fn (by have := HS2.out; omega)).mono ?_; rintro e w5 ⟨a9, c9, rfl, t9, f5, b5⟩))
        have Bn : Below w.heap.size w wn := by first | exact (bx.alloc bx.size _).trans bn | exact (bx.alloc bx.size _).drew.trans bn
        have B5 : Below w.heap.size w w5 := Bn.trans (b5.mono Bn.size)
        have GI : Hid (Vf.Inv τn) := f5.inv
        have sn : τn.steps ≤ 10000 := by have := HS2.out; omega
        have HU0 : Hid ((sumTo τn (namesOf τn).length : Int) = τn.used ∧ τn.used ≤ 1000000000000000000) := ⟨sum_all GI.out HN.out, used_le GI.out sn⟩
        have Nle : (namesOf τn).length ≤ 10000 := by have := names_few f5 HN.out; omega
        have HT : Hid (TextsAt w5 (.slice a9 (namesOf τn).length c9) (namesOf τn)) := t9
        obtain ⟨N, hN⟩ : ∃ N, N = (namesOf τn).length := ⟨_, rfl⟩
        rw [← hN] at Nle
        rw [← hN]
        have HNN : Hid (N = (namesOf τn).length) := hN
        clear hN t9 c0 c1 c2 c3 c4 c5 bn fn PK OP hv b5 Bn bx hR
        go_loopw [10, 12] (fun n k wk => ∃ (i X : Nat), i ≤ N ∧ k = .int .i64 i ∧ n = .int .i64 ((R : Int) - (X : Int)) ∧ Hid (X = sumTo τn i) ∧ FsIn w.heap.size wn.heap.size wk b τn ∧ Below w5.heap.size w5 wk) (fun _ k _ => N - (intOf k).toNat)
        case atStart => exact ⟨0, 0, Nat.zero_le _, rfl, by simp, rfl, f5, Below.refl _ _⟩
        case round =>
          obtain ⟨i, X, hi, rfl, rfl, HX, fk, bk⟩ := hrel
          clear f5
          by_cases hil : i < N
          · have il : i < (namesOf τn).length := by have := HNN.out; omega
            obtain ⟨D, od, rfl, hat⟩ : ∃ D od, a9 = some ⟨D, od, none⟩ ∧ ∀ j (h : j < (namesOf τn).length), w5.cell? ⟨D, od + j, none⟩ = some (str (namesOf τn)[j]) := by
              obtain ⟨a', c', e, hf⟩ := HT.out
              obtain ⟨D, od, ha, hh⟩ := hf (fun h0 => by rw [h0] at il; cases il)
              cases e
              exact ⟨D, od, ha, hh⟩
            have d1 := keepC bk (hat i il)
            have RD := read_len fk sn (names_find GI.out HN.out (List.getElem_mem il))
            have sx1 := sum_next τn il
            obtain ⟨Y, hY⟩ : ∃ Y, Y = (Vf.read τn (namesOf τn)[i]).length := ⟨_, rfl⟩
            rw [← hY] at RD sx1
            have HX2 : Hid (X + Y = sumTo τn (i + 1)) := by show _ = _; rw [sx1, HX.out]
            have XY : X + Y ≤ 1000000000000000000 := by
              have h1 := sum_mono τn (j := i + 1) (k := (namesOf τn).length) il (Nat.le_refl _)
              have h2 := HU0.out
              have h3 := HX2.out
              omega
            have i5 : IntKind.i64.wrap ((R : Int) - (X : Int) - (Y : Int)) = (R : Int) - (X : Int) - (Y : Int) := by rw [IntKind.wrap_i64]; omega
            rcases Nat.eq_zero_or_pos i with h0 | h0
            · have H0 : Hid (i = 0) := h0
              obtain ⟨s1, hs1⟩ : ∃ s, s = (namesOf τn)[i] := ⟨_, rfl⟩
              rw [← hs1] at d1 RD
              clear hs1 hat HX sx1 hY HT HNN HU0 GI il h0
              go_wp2_with (first
                | (go_at_call 16; refine RD.mono ?_; rintro e w6 ⟨a6, c6, rfl, f6, b6⟩))
              obtain rfl : i = 0 := H0.out
              go_quiet (fail)
              go_wp2_with (fail)
              exact ⟨⟨0 + 1, X + Y, by omega, rfl, by rw [Int.natCast_add]; congr 1; omega, HX2, f6.later (below_drewN (Below.refl _ _) _), below_drewN (bk.trans (b6.mono bk.size)) _⟩, by simp [intOf]; omega⟩
            · obtain ⟨p, rfl⟩ : ∃ p, i = p + 1 := ⟨i - 1, by omega⟩
              have HLT : Hid _ := rise_at GI.out HN.out il
              obtain ⟨s1, hs1⟩ : ∃ s, s = (namesOf τn)[p + 1] := ⟨_, rfl⟩
              obtain ⟨s0, hs0⟩ : ∃ s, s = (namesOf τn)[p] := ⟨_, rfl⟩
              have E1 : Hid (w5.cell? ⟨D, od + (p + 1), none⟩ = some (str s1)) := by rw [hs1]; exact hat _ il
              have E0 : Hid (w5.cell? ⟨D, od + p, none⟩ = some (str s0)) := by rw [hs0]; exact hat _ (by omega)
              rw [← hs1] at d1 RD HLT
              rw [← hs0] at HLT
              have be1 : Op.bytesLess s1 s0 = false := by rw [bytesLess_eq]; exact decide_eq_false (fun h => absurd (List.lt_trans h HLT.out) (List.lt_irrefl _))
              have be2 : (s1 == s0) = false := by have := HLT.out; simp only [beq_eq_false_iff_ne]; rintro rfl; exact absurd this (List.lt_irrefl _)
              clear hs1 hs0 hat HX sx1 hY HT HNN HU0 GI il HLT
              go_wp2_with (first
                | (go_at_call 16; refine RD.mono ?_; rintro e w6 ⟨a6, c6, rfl, f6, b6⟩; have d2 := keepC (bk.trans (b6.mono bk.size)) E1.out; have d3 := keepC (bk.trans (b6.mono bk.size)) E0.out))
              go_quiet (fail)
              go_wp2_with (fail)
              exact ⟨⟨p + 1 + 1, X + Y, by omega, rfl, by rw [Int.natCast_add]; congr 1; omega, HX2, f6.later (below_drewN (Below.refl _ _) _), below_drewN (bk.trans (b6.mono bk.size)) _⟩, by simp [intOf]; omega⟩
          · have HU : Hid ((X : Int) = τn.used) := by
              show _ = _
              have h1 := HU0.out.1
              have h2 := HX.out
              have h3 := HNN.out
              rw [h2, ← h1, show i = (namesOf τn).length by omega]
            have LF := left_fs fk (by omega)
            have hl : Vf.left τn = (R : Int) - (X : Int) := by unfold Vf.left; rw [if_pos HN.out.on, HR.out, HU.out]
            rw [hl] at LF
            have i6 : ¬ (i : Int) < (N : Int) := by omega
            have i7 : ((R : Int) - (X : Int) != (R : Int) - (X : Int)) = false := by simp
    
            clear hl HU HX HNN HU0 GI HT hil hi
            go_wp2_with (first
              | (go_at_call 17; refine LF.mono ?_; rintro e w7 ⟨rfl, f7, b7⟩))
            exact ⟨⟨j + 1, _, τn, by omega, rfl, f7, HN, HR, HS2, B5.trans ((bk.trans (b7.mono bk.size)).mono B5.size)⟩, by simp [intOf]; omega⟩
      | 6, _ =>
        have OP0 := fun wx (hw : Below wr.heap.size wr wx) => op_crash x (fx.later hw) sx
        have OP : Hid _ := OP0
        clear OP0
        have HN : Hid (Vf.Nice (crashBy τ x)) := crashBy_nice hb x
        have HR : Hid ((crashBy τ x).room = R) := by show _ = _; rw [crashBy_room, hR]
        have HS2 : Hid ((crashBy τ x).steps ≤ 7 * (j + 1)) := by show _ ≤ _; have := crashBy_steps τ x; have := HS.out; omega
        generalize crashBy τ x = τn at OP HN HR HS2
        clear ok PK2 hb HS fx
        go_wp2_with (first
          | (go_at_call 5; refine still (PK.out _) ?_)
          | (go_at_call 14; refine (OP.out _ (by first | exact (Below.refl _ _).alloc (Nat.le_refl _) _ | exact ((Below.refl _ _).alloc (Nat.le_refl _) _).drew | exact (Below.refl _ _).drew.alloc (Nat.le_refl _) _ | exact ((Below.refl _ _).drew.alloc (Nat.le_refl _) _).drew)).mono ?_; rintro e wn ⟨y, rfl, fn, bn⟩)
          | (go_at_call 15; refine (names_texts fn (by have := HS2.out; omega)).mono ?_; rintro e w5 ⟨a9, c9, rfl, t9, f5, b5⟩))
        have Bn : Below w.heap.size w wn := by first | exact (bx.alloc bx.size _).trans bn | exact (bx.alloc bx.size _).drew.trans bn
        have B5 : Below w.heap.size w w5 := Bn.trans (b5.mono Bn.size)
        have GI : Hid (Vf.Inv τn) := f5.inv
        have sn : τn.steps ≤ 10000 := by have := HS2.out; omega
        have HU0 : Hid ((sumTo τn (namesOf τn).length : Int) = τn.used ∧ τn.used ≤ 1000000000000000000) := ⟨sum_all GI.out HN.out, used_le GI.out sn⟩
        have Nle : (namesOf τn).length ≤ 10000 := by have := names_few f5 HN.out; omega
        have HT : Hid (TextsAt w5 (.slice a9 (namesOf τn).length c9) (namesOf τn)) := t9
        obtain ⟨N, hN⟩ : ∃ N, N = (namesOf τn).length := ⟨_, rfl⟩
        rw [← hN] at Nle
        rw [← hN]
        have HNN : Hid (N = (namesOf τn).length) := hN
        clear hN t9 c0 c1 c2 c3 c4 c5 bn fn PK OP hv b5 Bn bx hR
        go_loopw [10, 12] (fun n k wk => ∃ (i X : Nat), i ≤ N ∧ k = .int .i64 i ∧ n = .int .i64 ((R : Int) - (X : Int)) ∧ Hid (X = sumTo τn i) ∧ FsIn w.heap.size wn.heap.size wk b τn ∧ Below w5.heap.size w5 wk) (fun _ k _ => N - (intOf k).toNat)
        case atStart => exact ⟨0, 0, Nat.zero_le _, rfl, by simp, rfl, f5, Below.refl _ _⟩
        case round =>
          obtain ⟨i, X, hi, rfl, rfl, HX, fk, bk⟩ := hrel
          clear f5
          by_cases hil : i < N
          · have il : i < (namesOf τn).length := by have := HNN.out; omega
            obtain ⟨D, od, rfl, hat⟩ : ∃ D od, a9 = some ⟨D, od, none⟩ ∧ ∀ j (h : j < (namesOf τn).length), w5.cell? ⟨D, od + j, none⟩ = some (str (namesOf τn)[j]) := by
              obtain ⟨a', c', e, hf⟩ := HT.out
              obtain ⟨D, od, ha, hh⟩ := hf (fun h0 => by rw [h0] at il; cases il)
              cases e
              exact ⟨D, od, ha, hh⟩
            have d1 := keepC bk (hat i il)
            have RD := read_len fk sn (names_find GI.out HN.out (List.getElem_mem il))
            have sx1 := sum_next τn il
            obtain ⟨Y, hY⟩ : ∃ Y, Y = (Vf.read τn (namesOf τn)[i]).length := ⟨_, rfl⟩
            rw [← hY] at RD sx1
            have HX2 : Hid (X + Y = sumTo τn (i + 1)) := by show _ = _; rw [sx1, HX.out]
            have XY : X + Y ≤ 1000000000000000000 := by
              have h1 := sum_mono τn (j := i + 1) (k := (namesOf τn).length) il (Nat.le_refl _)
              have h2 := HU0.out
              have h3 := HX2.out
              omega
            have i5 : IntKind.i64.wrap ((R : Int) - (X : Int) - (Y : Int)) = (R : Int) - (X : Int) - (Y : Int) := by rw [IntKind.wrap_i64]; omega
            rcases Nat.eq_zero_or_pos i with h0 | h0
            · have H0 : Hid (i = 0) := h0
              obtain ⟨s1, hs1⟩ : ∃ s, s = (namesOf τn)[i] := ⟨_, rfl⟩
              rw [← hs1] at d1 RD
              clear hs1 hat HX sx1 hY HT HNN HU0 GI il h0
              go_wp2_with (first
                | (go_at_call 16; refine RD.mono ?_; rintro e w6 ⟨a6, c6, rfl, f6, b6⟩))
              obtain rfl : i = 0 := H0.out
              go_quiet (fail)
              go_wp2_with (fail)
              exact ⟨⟨0 + 1, X + Y, by omega, rfl, by rw [Int.natCast_add]; congr 1; omega, HX2, f6.later (below_drewN (Below.refl _ _) _), below_drewN (bk.trans (b6.mono bk.size)) _⟩, by simp [intOf]; omega⟩
            · obtain ⟨p, rfl⟩ : ∃ p, i = p + 1 := ⟨i - 1, by omega⟩
              have HLT : Hid _ := rise_at GI.out HN.out il
              obtain ⟨s1, hs1⟩ : ∃ s, s = (namesOf τn)[p + 1] := ⟨_, rfl⟩
              obtain ⟨s0, hs0⟩ : ∃ s, s = (namesOf τn)[p] := ⟨_, rfl⟩
              have E1 : Hid (w5.cell? ⟨D, od + (p + 1), none⟩ = some (str s1)) := by rw [hs1]; exact hat _ il
              have E0 : Hid (w5.cell? ⟨D, od + p, none⟩ = some (str s0)) := by rw [hs0]; exact hat _ (by omega)
              rw [← hs1] at d1 RD HLT
              rw [← hs0] at HLT
              have be1 : Op.bytesLess s1 s0 = false := by rw [bytesLess_eq]; exact decide_eq_false (fun h => absurd (List.lt_trans h HLT.out) (List.lt_irrefl _))
              have be2 : (s1 == s0) = false := by have := HLT.out; simp only [beq_eq_false_iff_ne]; rintro rfl; exact absurd this (List.lt_irrefl _)
              clear hs1 hs0 hat HX sx1 hY HT HNN HU0 GI il HLT
              go_wp2_with (first
                | (go_at_call 16; refine RD.mono ?_; rintro e w6 ⟨a6, c6, rfl, f6, b6⟩; have d2 := keepC (bk.trans (b6.mono bk.size)) E1.out; have d3 := keepC (bk.trans (b6.mono bk.size)) E0.out))
              go_quiet (fail)
              go_wp2_with (fail)
              exact ⟨⟨p + 1 + 1, X + Y, by omega, rfl, by rw [Int.natCast_add]; congr 1; omega, HX2, f6.later (below_drewN (Below.refl _ _) _), below_drewN (bk.trans (b6.mono bk.size)) _⟩, by simp [intOf]; omega⟩
          · have HU : Hid ((X : Int) = τn.used) := by
              show _ = _
              have h1 := HU0.out.1
              have h2 := HX.out
              have h3 := HNN.out
              rw [h2, ← h1, show i = (namesOf τn).length by omega]
            have LF := left_fs fk (by omega)
            have hl : Vf.left τn = (R : Int) - (X : Int) := by unfold Vf.left; rw [if_pos HN.out.on, HR.out, HU.out]
            rw [hl] at LF
            have i6 : ¬ (i : Int) < (N : Int) := by omega
            have i7 : ((R : Int) - (X : Int) != (R : Int) - (X : Int)) = false := by simp
    
            clear hl HU HX HNN HU0 GI HT hil hi
            go_wp2_with (first
              | (go_at_call 17; refine LF.mono ?_; rintro e w7 ⟨rfl, f7, b7⟩))
            exact ⟨⟨j + 1, _, τn, by omega, rfl, f7, HN, HR, HS2, B5.trans ((bk.trans (b7.mono bk.size)).mono B5.size)⟩, by simp [intOf]; omega⟩
    · have i3 : ¬ (j : Int) < (m : Int) := by omega
      clear HB HR0 HS HA HP HM fx hlt hj mle
      go_wp2_with (fail)
      go_ret
      exact ⟨rfl, bx⟩

theorem walk (w : World) (a : Option Addr) (cap : Nat) (l : List Ac) (room : Int) (hr : -9223372036854775808 ≤ room ∧ room ≤ 9223372036854775807) (h : ActsIn w (.slice a l.length cap) l) :
    Calls Try.prog 3 #[.int .i64 room, .slice a l.length cap] w fun e w' => e = .returned (.bool true) ∧ Below w.heap.size w w' := by
  cases hs : smallB l with
  | false => exact walk_off w a cap l room hr h hs
  | true => exact walk_on w a cap l room hr h hs

set_option maxRecDepth 100000 in
theorem lifted (os : Os) (started : os.Started) (H : Type) (enc : TypeId × Value → H) :
    ReturnsInHanded {} Try.checked os 3 .any (Rows.vfsRoomSpec.pre6 enc Try.prog Try.f3 Rows.vfsRoomRow.domain false) (Rows.vfsRoomSpec.post enc Try.prog Try.f3 false true false false) := by
  refine returnsInHanded_of_change_sized (C := Try.checked) own started (by kernel_rfl) Try.func3
    (ChangeSpec.witness6 (enc := enc) (C := Try.checked) false ⟨#[], #[.int .i64 0, .slice none 0 0], []⟩ 8 (by kernel_rfl) (by kernel_rfl) (by kernel_rfl) (by kernel_rfl)) ?_
  intro W base args ds gs before hval0 hW hcnd hsz0 _
  have hsz : (DataW.weightsEach Try.prog (Try.f3.params.toList ++ Rows.vfsRoomSpec.plain.varTypes Try.prog) (ds ++ gs)).all (· ≤ reachBytes) = true := hsz0
  have hval : ∀ (j : Nat) t v, Try.f3.params[j]? = some t → args[j]? = some v → Value.okWide Try.prog W .any base t v := hval0
  have hW' := hW
  obtain ⟨p, q, hA0, hV, rfl, hfz, hnd⟩ := hW
  have hA : DataW.TrodAll enc Try.prog W 0 (fun _ => true) true Try.f3.params.toList args.toList ds p := hA0
  rw [Try.params3] at hA hval hsz
  obtain ⟨v0, vs0, d0, ds0, p0, q0, hargs, rfl, rfl, h0, r0⟩ := trodAll_cons hA
  obtain ⟨v1, vs1, d1, ds1, p1, q1, rfl, rfl, rfl, h1, r1⟩ := trodAll_cons r0
  obtain ⟨rfl, rfl, rfl⟩ := trodAll_nil r1
  obtain rfl : args = #[v0, v1] := by cases args; simp_all
  obtain ⟨rfl, rfl⟩ := trodVars_none hV
  have k1 := h1
  have lt1 : ∀ x ∈ p1, x.block < W.heap.size := by obtain ⟨m, hm⟩ := k1; exact DataW.trod_lt m _ _ _ hm
  obtain ⟨x0, rfl, rfl, rfl, w0⟩ := open_int Try.underlying3 (hval 0 3 v0 rfl rfl) h0
  have bx0 := bounds_i64 w0
  obtain ⟨a1, len1, cap1, rfl⟩ := okWide_slice Try.underlying22 (hval 1 22 v1 rfl rfl)
  obtain ⟨l1, rfl, hb1⟩ := acts_in h1
  clear hA0 hval0
  refine (walk W a1 cap1 l1 x0 (by omega) hb1).mono fun e W' ⟨he, bel⟩ => ?_
  subst he
  exact ⟨_, rfl, _, _, _, [], _, [], hW', trodAll_mk1 (shut_bool Try.underlying4 _), (trodAll_cons_mk (shut_int Try.underlying3 w0) (trodAll_cons_mk (Below.trod laidOut (by kernel_rfl) (of_decide_eq_true (by kernel_rfl)) k1 bel lt1) trodAll_mk0)), rfl, bel.frame _, fun h => by cases h⟩

theorem over : Rows.vfsRoomRow.holds Try.pinned (OpenSpec.ofChange Rows.vfsRoomSpec) :=
  OpenClaim.holds_of_wide 3 Try.f3 rfl rfl rfl rfl rfl rfl rfl ⟨rfl, rfl, rfl, rfl, rfl⟩ rfl rfl rfl rfl rfl (by kernel_rfl) Try.func3 (by kernel_rfl)
    (of_decide_eq_true (by kernel_rfl)) (by unfold Func.isWrapper; first | (rw [if_pos (by decide +kernel)]; kernel_rfl) | (rw [if_neg (by decide +kernel)]; exact ⟨rfl, rfl⟩))
    (fun os started H enc _ => lifted os started H enc)
end Go.Proofs.Ytclokpkhkokfhab.vfsRoom

namespace Go.Proofs.Ytclokpkhkokfhab
/-- THE STATEMENT. -/
theorem vfsRoom_holds : Rows.VfsRoomSaid := vfsRoom.over
#print axioms vfsRoom_holds
end Go.Proofs.Ytclokpkhkokfhab
