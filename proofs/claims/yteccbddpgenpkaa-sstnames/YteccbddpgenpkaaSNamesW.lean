/-
  The walk of SstNames: the chapter's examples, one by one.
-/
import Derived.Test.YteccbddpgenpkaaSLives
import Derived.Deep.Cut
namespace Go.Proofs.Yteccbddpgenpkaa
open Go.RowKit
namespace Ss
theorem ex_x1 : getX (openT exB) [98] 1 = none := by kernel_rfl
theorem ex_scan : scan (openT exB) [98] [99] = (some [⟨[98], [120], 2, false⟩], 2) := by kernel_rfl
theorem ex_short : openOk (exB.take (exB.length - 1)) = false := by decide +kernel
theorem ex_none : openOk [] = false := by decide +kernel
theorem ex_nil : checkE [] 2 10 = 2 := by decide +kernel
theorem ex_65 : checkE ex 65 10 = 2 := by decide +kernel
def back : List Mm.Ent := [⟨[98], [120], 2, false⟩, ⟨[97], [120], 1, false⟩]
theorem ex_back : checkE back 2 10 = 10 := by decide +kernel
theorem ex_pos : 1 ≤ exB.length := by decide +kernel
end Ss
theorem ex_cells {w : World} {B : Nat} (h : EntsAt w (.slice (some ⟨B, 0, none⟩) 3 3) Ss.ex) : (w.cell? ⟨B, 0, none⟩ = some (str [97]) ∧ w.cell? ⟨B, 1, none⟩ = some (str [120]) ∧ w.cell? ⟨B, 2, none⟩ = some (.int .i64 1) ∧ w.cell? ⟨B, 3, none⟩ = some (.bool false)) ∧ w.cell? ⟨B, 4, none⟩ = some (str [98]) ∧ w.cell? ⟨B, 5, none⟩ = some (str [120]) ∧ w.cell? ⟨B, 6, none⟩ = some (.int .i64 2) ∧ w.cell? ⟨B, 7, none⟩ = some (.bool false) :=
  ⟨h.cells 0 (by decide), h.cells 1 (by decide)⟩
theorem ex_mid {w : World} {B : Nat} (h : EntsAt w (.slice (some ⟨B, 0, none⟩) 3 3) Ss.ex) (c : Nat) : EntsAt w (.slice (some ⟨B, 4, none⟩) 1 c) [⟨[98], [120], 2, false⟩] := by
  refine ⟨⟨_, _, rfl, fun _ => ⟨_, 4, rfl, fun j hj => ?_⟩⟩⟩
  have : j = 0 := by simpa using hj
  subst this
  exact (ex_cells h).2
theorem bytes_kept {w w' : World} {g off n c T : Nat} {l : List UInt8} (h : BytesIn w (.slice (some ⟨g, off, none⟩) n c) l) (hg : w.grownBy w' (some T)) (hne : g ≠ T) : BytesIn w' (.slice (some ⟨g, off, none⟩) n c) l := by
  obtain ⟨⟨a, cap, e, hf⟩, hlen⟩ := h
  refine ⟨⟨a, cap, e, fun h0 => ?_⟩, hlen⟩
  obtain ⟨b, off', ha, hat⟩ := hf h0
  refine ⟨b, off', ha, fun j hj => hg.cell (hat j hj) ?_⟩
  subst ha
  simp only [Value.slice.injEq, Option.some.injEq, Addr.mk.injEq] at e
  obtain ⟨⟨rfl, _⟩, _⟩ := e
  simpa using hne
theorem bytes_lt {w : World} {g off n c : Nat} {l : List UInt8} (h : BytesIn w (.slice (some ⟨g, off, none⟩) n c) l) (hl : 0 < l.length) : g < w.heap.size := by
  obtain ⟨⟨a, cap, e, hf⟩, _⟩ := h
  obtain ⟨b, off', ha, hat⟩ := hf (by intro e; rw [e] at hl; simp at hl)
  subst ha
  simp only [Value.slice.injEq, Option.some.injEq, Addr.mk.injEq] at e
  obtain ⟨⟨rfl, _⟩, _⟩ := e
  exact World.block_lt_of_cell? w _ (hat 0 hl)
theorem open_bad9 (w : World) (a : Option Addr) (c n : Nat) (b : List UInt8) (hn : n = b.length) (h : BytesIn w (.slice a n c) b) (hc : n ≤ c) (hl : n ≤ 1000000000) (hb : Ss.openOk b = false) : Calls Try.prog 9 #[.slice a n c] w fun e w' => e = .returned (.tuple #[.pointer none, .int .i64 6]) ∧ Below w.heap.size w w' := by
  refine (open_any w a c n b hn h hc hl).mono ?_
  rintro e w' ⟨p, E, rfl, H, b'⟩
  rcases H with ⟨h1, _⟩ | ⟨_, rfl, rfl⟩
  · rw [hb] at h1; cases h1
  · exact ⟨rfl, b'⟩

set_option maxRecDepth 100000 in
set_option maxHeartbeats 16000000 in
theorem snames_any (w : World) : Calls Try.prog 3 #[] w fun e w' => e = .returned (.bool true) ∧ Below w.heap.size w w' := by
  have LV := hide slives_any
  have EX := hide sexample_any
  have BU := hide exbuild_any
  have OP := hide exopen_any
  have OKT := hide (Ss.tabOk_of_open Ss.ex_open (by have := Ss.ex_len; omega))
  have RD : Hid (∀ wx base T (n : Nat), TabAt wx base T (Ss.openT Ss.exB) n → Calls Try.prog 12 #[.pointer (some ⟨T, 0, none⟩)] wx fun e w' => e = .returned (.int .i64 (n : Int)) ∧ w' = wx) := fun wx base T n h => sreads_any wx base T n _ h
  have G9 : Hid (∀ wx base T, TabAt wx base T (Ss.openT Ss.exB) 0 → Calls Try.prog 11 #[.pointer (some ⟨T, 0, none⟩), str [98], .int .i64 9] wx fun e w' => (∃ v, e = .returned v) ∧ Turned T 1 wx w') := fun wx base T h => by
    refine (sget_any wx base T 0 _ h OKT.out [98] 9 (by decide) (by decide)).mono ?_
    rintro e w' ⟨h1, h2⟩
    rw [Ss.ex_n9.1] at h2
    exact ⟨⟨_, h1⟩, h2⟩
  have G1 : Hid (∀ wx base T, TabAt wx base T (Ss.openT Ss.exB) 1 → Calls Try.prog 11 #[.pointer (some ⟨T, 0, none⟩), str [98], .int .i64 1] wx fun e w' => e = .returned (.tuple #[entV ⟨[], [], 0, false⟩, .bool false, .int .i64 0]) ∧ Turned T 2 wx w') := fun wx base T h => by
    refine (sget_any wx base T 1 _ h OKT.out [98] 1 (by decide) (by decide)).mono ?_
    rintro e w' ⟨h1, h2⟩
    rw [Ss.ex_x1, Ss.ex_n1.2] at h1
    rw [Ss.ex_n1.1] at h2
    exact ⟨h1, h2⟩
  have SC : Hid (∀ wx base T, TabAt wx base T (Ss.openT Ss.exB) 2 → Calls Try.prog 13 #[.pointer (some ⟨T, 0, none⟩), .agg #[str [98], str [99]]] wx fun e w' => ∃ v, e = .returned (.tuple #[v, .int .i64 0]) ∧ EntsAt w' v [⟨[98], [120], 2, false⟩] ∧ Turned T 4 wx w') := fun wx base T h => by
    refine (sscan_any wx base T 2 _ h OKT.out [98] [99] (by decide)).mono ?_
    rintro e w' ⟨v, E, rfl, H, u⟩
    rw [Ss.ex_scan] at u
    rcases H with ⟨l, h1, rfl, o⟩ | ⟨h1, _⟩
    · rw [Ss.ex_scan] at h1
      cases h1
      exact ⟨v, rfl, EntsAt.own o, u⟩
    · rw [Ss.ex_scan] at h1; cases h1
  have ON : Hid (∀ wx, Calls Try.prog 9 #[.slice none 0 0] wx fun e w' => e = .returned (.tuple #[.pointer none, .int .i64 6]) ∧ Below wx.heap.size wx w') := fun wx => open_bad9 wx none 0 0 [] rfl (bytes_none wx none 0 0 rfl) (Nat.le_refl _) (by decide) Ss.ex_none
  have hp := Ss.ex_pos
  have hlen := Ss.ex_len
  have OS : Hid (∀ wx g cap, BytesIn wx (.slice (some ⟨g, 0, none⟩) Ss.exB.length cap) Ss.exB → Ss.exB.length ≤ cap → Calls Try.prog 9 #[.slice (some ⟨g, 0, none⟩) (Ss.exB.length - 1) cap] wx fun e w' => e = .returned (.tuple #[.pointer none, .int .i64 6]) ∧ Below wx.heap.size wx w') := fun wx g cap h hc => open_bad9 wx _ cap _ (Ss.exB.take (Ss.exB.length - 1)) (by rw [List.length_take]; omega) (bytes_to h _ _ (by omega) rfl cap) (by omega) (by omega) Ss.ex_short
  have BN : Hid (∀ wx, Calls Try.prog 7 #[.slice none 0 0, .int .i64 2, .int .i64 10] wx fun e w' => e = .returned (.tuple #[.slice none 0 0, .int .i64 2]) ∧ Below wx.heap.size wx w') := fun wx => by
    have := sbuild_bad wx none 0 0 [] (EntsAt.nil _ _ _) rfl (by decide) (fun x h => by cases h) 2 10 (by rw [Ss.ex_nil]; decide)
    rw [Ss.ex_nil] at this
    exact this
  have B65 : Hid (∀ wx B, EntsAt wx (.slice (some ⟨B, 0, none⟩) 3 3) Ss.ex → Calls Try.prog 7 #[.slice (some ⟨B, 0, none⟩) 3 3, .int .i64 65, .int .i64 10] wx fun e w' => e = .returned (.tuple #[.slice none 0 0, .int .i64 2]) ∧ Below wx.heap.size wx w') := fun wx B h => by
    have := sbuild_bad wx _ 3 3 Ss.ex h rfl (by decide) (by decide +kernel) 65 10 (by rw [Ss.ex_65]; decide)
    rw [Ss.ex_65] at this
    exact this
  have BB : Hid (∀ wx B, EntsAt wx (.slice (some ⟨B, 0, none⟩) 2 2) Ss.back → Calls Try.prog 7 #[.slice (some ⟨B, 0, none⟩) 2 2, .int .i64 2, .int .i64 10] wx fun e w' => e = .returned (.tuple #[.slice none 0 0, .int .i64 10]) ∧ Below wx.heap.size wx w') := fun wx B h => by
    have := sbuild_bad wx _ 2 2 Ss.back h rfl (by decide) (by decide +kernel) 2 10 (by rw [Ss.ex_back]; decide)
    rw [Ss.ex_back] at this
    exact this
  have SE : Hid (∀ wx v v2, EntsAt wx v [⟨[98], [120], 2, false⟩] → EntsAt wx v2 [⟨[98], [120], 2, false⟩] → Calls Try.prog 14 #[v, v2] wx fun r w' => r = .returned (.bool true) ∧ Below wx.heap.size wx w') := fun wx v v2 h h2 => samee_any wx v v2 _ h h2 (by decide)
  obtain ⟨m, hm⟩ : ∃ m, Ss.exB.length = m + 1 := ⟨Ss.exB.length - 1, by omega⟩
  rw [hm] at BU OP OS hlen
  rw [Nat.add_sub_cancel] at OS
  have q1 : (m : Int) ≤ (m : Int) + 1 := by omega
  have q0 : (0 : Int) ≤ (m : Int) := by omega
  have wm : IntKind.i64.wrap (m : Int) = (m : Int) := by rw [IntKind.wrap_i64]; omega
  have wm1 : IntKind.i64.wrap ((m : Int) + 1) = (m : Int) + 1 := by rw [IntKind.wrap_i64]; omega
  clear hm
  go_enter Try.func3, Try.ntmps3
  go_wp2_with (first
    | (go_at_call 8; have tk := BU; refine (EX.out _).mono ?_; rintro r w1 ⟨B, rfl, e1, b1⟩)
    | (go_at_call 7; have tk := BU; refine (BU.out _ B e1).mono ?_; rintro r w2 ⟨g, cap, rfl, hc, y2, b2⟩; have B2 := b1.trans (b2.mono b1.size); have Y2 := hide y2; have gl2 := bytes_lt y2 hp; have hc1 : (m : Int) + 1 ≤ (cap : Int) := (by omega); have hc2 : (m : Int) ≤ (cap : Int) := (by omega); clear BU e1 tk b1 b2 y2)
    | (go_at_call 9; have tk := OP; refine (OP.out _ g cap Y2.out hc).mono ?_; rintro r w3 ⟨T, rfl, t3, b3⟩; have B3 := B2.trans (b3.mono B2.size); have lT := t3.low; have Y3 := hide (Y2.out.later b3); clear OP tk Y2)
    | (go_at_call 10; refine (LV.out _).mono ?_; rintro r w4 ⟨rfl, b4⟩; have t4 := t3.later b4; have B4 := B3.trans (b4.mono B3.size); have Y4 := hide (Y3.out.later b4); have z2 := B2.size; clear LV t3 B3 Y3 B2)
    | (go_at_call 11; have tk := G9; refine (G9.out _ _ _ t4).mono ?_; rintro r w5 ⟨⟨v5, rfl⟩, u5⟩; have t5 := u5.tab t4; have B5 := B4.grown u5.1 B4.size (fun k hk => by cases hk; omega); have U5 := hide u5; clear G9 tk t4))
  have gT : g ≠ T := by omega
  have Y5 := hide (bytes_kept Y4.out U5.out.1 gT)
  have zz : w.heap.size ≤ T := by omega
  clear Y4 B4 U5
  refine (G1.out _ _ _ t5).mono ?_
  rintro r w6 ⟨rfl, u6⟩
  have t6 := u6.tab t5
  have B6 := B5.grown u6.1 B5.size (fun k hk => by cases hk; exact zz)
  have Y6 := hide (bytes_kept Y5.out u6.1 gT)
  clear Y5 B5 u6 t5 G1
  have A6 : Below w6.heap.size w6 (w6.alloc (.cells #[str [], str [], .int .i64 0, .bool false] 33)) := (Below.refl _ _).alloc (Nat.le_refl _) _
  have t6' := t6.later A6
  have B6' := B6.trans (A6.mono B6.size)
  have Y6' := hide (Y6.out.later A6)
  go_wp2_with (first
    | (go_at_call 12; have tk := SC; refine (RD.out _ _ _ 2 t6').mono ?_; rintro r w7 ⟨rfl, rfl⟩)
    | (go_at_call 13; refine (SC.out _ _ _ t6').mono ?_; rintro r w8 ⟨v8, rfl, s8, u8⟩; have t8 := u8.tab t6'; have B8 := B6'.grown u8.1 B6'.size (fun k hk => by cases hk; exact zz); have Y8 := hide (bytes_kept Y6'.out u8.1 gT); clear SC tk t6 t6' B6 B6' Y6 Y6' A6)
    | (go_at_call 12; refine (RD.out _ _ _ 4 t8).mono ?_; rintro r w9 ⟨rfl, rfl⟩; clear RD)
    | (go_at_call 9; have tk := ON; refine (ON.out _).mono ?_; rintro r w10 ⟨rfl, b10⟩; have B10 := B8.trans (b10.mono B8.size); have S10 := s8.later b10; have Y10 := hide (Y8.out.later b10); clear ON tk Y8 s8)
    | (go_at_call 9; refine (OS.out _ _ _ Y10.out hc).mono ?_; rintro r w11 ⟨rfl, b11⟩; have B11 := B10.trans (b11.mono B10.size); have S11 := S10.later b11; clear OS Y10 S10)
    | (go_at_call 7; have tk := BN; refine (BN.out _).mono ?_; rintro r w12 ⟨rfl, b12⟩; have B12 := B11.trans (b12.mono B11.size); have S12 := S11.later b12; clear BN tk S11)
    | (go_at_call 8; have tk := B65; refine (EX.out _).mono ?_; rintro r w13 ⟨B13, rfl, e13, b13⟩; have B13' := B12.trans (b13.mono B12.size); have S13 := S12.later b13; clear S12)
    | (go_at_call 7; have tk := B65; refine (B65.out _ _ e13).mono ?_; rintro r w14 ⟨rfl, b14⟩; have B14 := B13'.trans (b14.mono B13'.size); have S14 := S13.later b14; clear B65 tk S13))
  have EC : Hid (∀ wx B, EntsAt wx (.slice (some ⟨B, 0, none⟩) 3 3) Ss.ex → (wx.cell? ⟨B, 0, none⟩ = some (str [97]) ∧ wx.cell? ⟨B, 1, none⟩ = some (str [120]) ∧ wx.cell? ⟨B, 2, none⟩ = some (.int .i64 1) ∧ wx.cell? ⟨B, 3, none⟩ = some (.bool false)) ∧ wx.cell? ⟨B, 4, none⟩ = some (str [98]) ∧ wx.cell? ⟨B, 5, none⟩ = some (str [120]) ∧ wx.cell? ⟨B, 6, none⟩ = some (.int .i64 2) ∧ wx.cell? ⟨B, 7, none⟩ = some (.bool false)) := fun wx B h => ex_cells h
  have LT : Hid (∀ wx : World, EntsAt (wx.alloc (.cells #[str [98], str [120], .int .i64 2, .bool false, str [97], str [120], .int .i64 1, .bool false] 33)) (.slice (some ⟨wx.heap.size, 0, none⟩) 2 2) Ss.back) := fun wx => ents_lit9 wx Ss.back #[str [98], str [120], .int .i64 2, .bool false, str [97], str [120], .int .i64 1, .bool false] rfl 2 rfl
  have DR : Hid (Below w14.heap.size w14 w14.drew) := (Below.refl w14.heap.size w14).drew
  go_cut [20] from 83 to 89 (fun z wx => ∃ B, z = .slice (some ⟨B, 0, none⟩) 2 2 ∧ EntsAt wx (.slice (some ⟨B, 0, none⟩) 2 2) Ss.back ∧ Below w14.heap.size w14 wx)
  case first =>
    go_region_with (first
      | (go_at_call 8; have tk := e15; refine (EX.out _).mono ?_; rintro r w16 ⟨B16, rfl, e16, b16⟩; have D16 := D15.trans (b16.mono D15.size); obtain ⟨_, k0, k1, k2, k3⟩ := EC.out _ _ (e15.later b16); obtain ⟨⟨h0, h1, h2, h3⟩, _⟩ := EC.out _ _ e16)
      | (go_at_call 8; refine (EX.out _).mono ?_; rintro r w15 ⟨B15, rfl, e15, b15⟩; have D15 := DR.out.trans b15; obtain ⟨_, j0, j1, j2, j3⟩ := EC.out _ _ e15))
    all_goals
      go_wp2_with (fail)
      go_meet
      case rel => exact ⟨_, rfl, LT.out w16, D16.alloc D16.size _⟩
  case rest =>
    obtain ⟨Bb, rfl, eb, bb⟩ := hcut
    obtain ⟨w17, hw17⟩ : ∃ w17, w17 = wc := ⟨_, rfl⟩
    rw [← hw17] at eb bb ⊢
    clear hw17 LT DR EC
    have B17 := B14.trans (bb.mono B14.size)
    have S17 := S14.later bb
    clear S14 bb B14
    go_wp2_with (first
      | (go_at_call 7; refine (BB.out _ _ eb).mono ?_; rintro r w18 ⟨rfl, b18⟩; have B18 := B17.trans (b18.mono B17.size); have S18 := S17.later b18; clear BB eb S17)
      | (go_at_call 8; refine (EX.out _).mono ?_; rintro r w19 ⟨B19, rfl, e19, b19⟩; have B19' := B18.trans (b19.mono B18.size); have S19 := S18.later b19; clear EX)
      | (go_at_call 14; refine (SE.out _ _ _ S19 (ex_mid e19 _)).mono ?_; rintro r w20 ⟨rfl, b20⟩; have B20 := B19'.trans (b20.mono B19'.size); clear SE))
    go_ret
    exact ⟨rfl, B20⟩
end Go.Proofs.Yteccbddpgenpkaa
