/-
  The walk of VfsSynced, with a fuse.
-/
import Derived.Test.YtclokpkhkokfhaaVSyncX
namespace Go.Proofs.Ytclokpkhkokfhaa.vfsSynced
open Go.ChangeShapes Go.WideShapes Go.ChangeAt Go.RowKit Go.Maps Go.Sort Go.Shelf

set_option maxRecDepth 100000 in
set_option maxHeartbeats 16000000 in
theorem walk1 (w : World) (a : Option Addr) (cap : Nat) (rs : List Vf.Bs) (h : RecsAt w (.slice a rs.length cap) rs) (hn : rs.length ≤ 100) (F : Nat) (hF : F ≤ 9223372036854775807) (K T : Nat) :
    Calls Try.prog 5 #[.slice a rs.length cap, .int .i64 (F : Int), .int .i64 (K : Int), .int .i64 (T : Int)] w fun e w' => e = .returned (.bool true) ∧ Below w.heap.size w w' := by
  have LV := lives_any
  have NW := new_s
  have C1 := c1 w
  have C2 := c2 w
  have C3 := c3 w F hF
  have A0 : Hid _ := s2_all.fuse (F : Int) (by omega)
  have T0 : Hid ((Vf.setFuse s2 (F : Int)).steps ≤ 2) := by show _ ≤ _; rw [Vf.setFuse_steps]; exact s2_steps
  obtain ⟨m, hm⟩ : ∃ m, m = rs.length := ⟨_, rfl⟩
  have HM : Hid (m = rs.length) := hm
  have HR : Hid _ := h
  rw [← hm] at hn ⊢
  have i1 : ¬ (m : Int) > 100 := by omega
  have i2 : ¬ (K : Int) < 0 := by omega
  have i3 : ¬ (T : Int) < 0 := by omega
  have i4 : (F : Int) ≥ 0 := by omega
  clear h hm
  go_enter Try.func5, Try.ntmps5
  go_wp2_with (first
    | (go_at_call 9; refine (LV _).mono ?_; rintro e w1 ⟨rfl, b1⟩; clear LV)
    | (go_at_call 8; refine (NW _ _ b1).mono ?_; rintro e w2 ⟨b, rfl, f2, b2⟩; have B2 := b1.trans (b2.mono b1.size); clear NW b2 b1)
    | (go_at_call 10; refine (C1 _ _ _ f2).mono ?_; rintro e w3 ⟨rfl, f3, b3⟩; have B3 := B2.trans b3; clear C1 f2 b3 B2)
    | (go_at_call 12; refine (C2 _ _ _ f3).mono ?_; rintro e w4 ⟨rfl, f4, b4⟩; have B4 := B3.trans b4; clear C2 f3 b4 B3)
    | (go_at_call 20; refine (C3 _ _ _ f4).mono ?_; rintro e w5 ⟨rfl, f5, b5⟩; have B5 := B4.trans b5; clear C3 f4 b5 B4))
  obtain ⟨S0, hS0⟩ := start_i f5 B5
  go_loopw [11, 12, 13] (fun va vs i wr => ∃ (j : Nat) (τ : Vf.St) (A U : Vf.Bs) (S : Nat → Prop), j ≤ m ∧ i = .int .i64 j ∧ Vf.Syn.All τ A U ∧ SyncI w b wr τ A U va vs S ∧ Hid (τ.steps ≤ 2 + 7 * j) ∧ Hid (A.length ≤ 400 * j) ∧ Hid (U.length ≤ A.length)) (fun _ _ i _ => m - (intOf i).toNat)
  case atStart => exact ⟨0, _, [], [], S0, Nat.zero_le _, rfl, A0.out, hS0, T0.out, Nat.zero_le _, Nat.le_refl _⟩
  case round =>
    obtain ⟨j, τ, A, U, S, hj, rfl, hall, hI, HS, HA, HU⟩ := hrel
    obtain ⟨aA, cA, rfl⟩ := row_shape hI.oa
    obtain ⟨aS, cS, rfl⟩ := row_shape hI.os
    have hrm := row_room hI.oa rfl
    have bA := HA.out
    have bU := HU.out
    have sx : τ.steps ≤ 10000 := by have := HS.out; omega
    clear f5 B5 hS0 A0 T0
    by_cases hlt : j < m
    · have hl0 : j < rs.length := by have := HM.out; omega
      obtain ⟨B, off, pa, pc, rfl, cj, hp, hpc, hpn⟩ := rec_get HR.out j hl0
      have hB : B < w.heap.size := World.block_lt_of_cell? w _ cj
      have cw := keepC (hI.bel) cj
      obtain ⟨p, hpe⟩ : ∃ p, p = rs[j] := ⟨_, rfl⟩
      rw [← hpe] at cj cw hp hpc
      obtain ⟨P, hP⟩ : ∃ P, P = p.length := ⟨_, rfl⟩
      rw [← hP] at cj cw hp
      by_cases g0 : (P : Int) > 400
      · have BL : Hid _ := hI.bel
        clear hall hI HS HA HU HR HM hpe hP hp hpc hpn cj hrm bA bU sx
        go_wp2_with (fail)
        go_ret
        exact ⟨rfl, BL.out⟩
      · have hp4 : p.length ≤ 400 := by omega
        have hpb := hp (by omega)
        by_cases g1 : P = 0
        · have q0 : ((P : Int) == 0) = true := by simp; omega
          obtain ⟨E, hE⟩ : ∃ E, E = Vf.syncE τ Vf.Syn.log := ⟨_, rfl⟩
          have SY := sync_i hI hall.log.inv sx E hE
          obtain ⟨lg, dn⟩ := Vf.Syn.sync_log hall
          have st' := Vf.sync_steps τ Vf.Syn.log
          rw [← hE] at dn
          by_cases g2 : E = 0
          · have q1 : (E != 0) = false := by simp [g2]
            have AL : Hid _ := dn g2
            have NS : Hid ((Vf.sync τ Vf.Syn.log).steps ≤ 2 + 7 * (j + 1)) := by have := HS.out; show _ ≤ _; omega
            have NA : Hid (A.length ≤ 400 * (j + 1)) := by show _ ≤ _; omega
            have CB : Hid (∀ wx S', SyncI w b wx (Vf.sync τ Vf.Syn.log) A U (.slice aA A.length cA) (.slice aS U.length cS) S' → Calls Try.prog 29 #[.slice aA A.length cA] wx fun e w' => ∃ g c, e = .returned (.slice (some ⟨g, 0, none⟩) A.length c) ∧ SyncI w b w' (Vf.sync τ Vf.Syn.log) A A (.slice aA A.length cA) (.slice (some ⟨g, 0, none⟩) A.length c) S') := fun wx S' h => copy_i h (fun e => (hrm.2 e).2) (by omega)
            subst g2
            clear hall hI HS HA HU HR HM hpe hP hp hpc hpn cj lg dn hE hrm bA bU sx st' hpb hp4
            go_wp2_with (first
              | (go_at_call 15; refine SY.mono ?_; rintro e w6 ⟨rfl, y6⟩; clear SY)
              | (go_at_call 29; refine (CB.out _ _ y6).mono ?_; rintro e w7 ⟨gc, cc, rfl, y7⟩; clear CB y6))
            exact ⟨⟨j + 1, _, A, A, _, by omega, rfl, AL.out, y7, NS, NA, Nat.le_refl _⟩, by simp [intOf]; omega⟩
          · have q1' : (E != 0) = true := by simpa using g2
            have sy : (Vf.sync τ Vf.Syn.log).steps ≤ 10000 := by have := HS.out; omega
            clear dn hE
            obtain ⟨q1, q2, q3, _, _⟩ := end_facts lg K T
            have iC := (lg).inv.crash K T
            have sC : (Vf.crash (Vf.sync τ Vf.Syn.log) K T).steps ≤ 10000 := by rw [Vf.crash_steps]; exact sy
            obtain ⟨l, hl⟩ : ∃ l, l = Vf.read (Vf.crash (Vf.sync τ Vf.Syn.log) K T) Vf.Syn.log := ⟨_, rfl⟩
            rw [← hl] at q2 q3
            have CR : Hid (∀ wx S', SyncI w b wx ((Vf.sync τ Vf.Syn.log)) (A) U (.slice aA A.length cA) (.slice aS U.length cS) S' → Calls Try.prog 13 #[.pointer (some ⟨b, 0, none⟩), .int .i64 (K : Int), .int .i64 (T : Int)] wx fun e w' => e = .returned (.int .i64 0) ∧ SyncI w b w' (Vf.crash (Vf.sync τ Vf.Syn.log) K T) (A) U (.slice aA A.length cA) (.slice aS U.length cS) (grow S' wx w')) := fun wx S' h => crash_i h (lg).inv sy K T
            have ON : Hid (∀ wx S', SyncI w b wx (Vf.crash (Vf.sync τ Vf.Syn.log) K T) (A) U (.slice aA A.length cA) (.slice aS U.length cS) S' → Calls Try.prog 21 #[.pointer (some ⟨b, 0, none⟩)] wx fun e w' => e = .returned (.bool true) ∧ w' = wx) := fun wx S' h => on_any wx b _ S' h.rep
            have PD : Hid (∀ wx S', SyncI w b wx (Vf.crash (Vf.sync τ Vf.Syn.log) K T) (A) U (.slice aA A.length cA) (.slice aS U.length cS) S' → Calls Try.prog 26 #[.pointer (some ⟨b, 0, none⟩)] wx fun e w' => e = .returned (.int .i64 0) ∧ w' = wx) := fun wx S' h => pending_any wx b _ S' h.rep
            have RD : Hid (∀ wx S', SyncI w b wx (Vf.crash (Vf.sync τ Vf.Syn.log) K T) (A) U (.slice aA A.length cA) (.slice aS U.length cS) S' → Calls Try.prog 22 #[.pointer (some ⟨b, 0, none⟩), .string ⟨#[108, 111, 103]⟩] wx fun e w' => ∃ a c, e = .returned (.tuple #[.slice a l.length c, .int .i64 0]) ∧ w'.ownsRow wx.heap.size 5 1 (.slice a l.length c) l.length (bc l) ∧ SyncI w b w' (Vf.crash (Vf.sync τ Vf.Syn.log) K T) (A) U (.slice aA A.length cA) (.slice aS U.length cS) S') := fun wx S' h => read_i h iC sC q1 l hl
            have lA := q2.length_le
            have LE : Hid (l = (A).take l.length) := List.prefix_iff_eq_take.1 q2
            have SB : Hid (∀ wx a c c' S', wx.ownsRow w.heap.size 5 1 (.slice a l.length c) l.length (bc l) → SyncI w b wx (Vf.crash (Vf.sync τ Vf.Syn.log) K T) (A) U (.slice aA A.length cA) (.slice aS U.length cS) S' → Calls Try.prog 30 #[.slice a l.length c, .slice aA l.length c'] wx fun e w' => e = .returned (.bool true) ∧ Below wx.heap.size wx w') := fun wx a c c' S' h1 h2 => by
              have e1 := bytes_of_own h2.oa (by omega)
              have := same_any wx (.slice a l.length c) (.slice aA l.length c') l ((A).take l.length) (bytes_of_own h1 (by omega)) (e1.cut l.length lA c')
              rw [decide_eq_true LE.out] at this
              exact this
            have j1 : ¬ (l.length : Int) > (A.length : Int) := by omega
            have j2 : ¬ (l.length : Int) < (U.length : Int) := by omega
            have j3 : (l.length : Int) ≤ (cA : Int) := by omega
            have j4 : aA = none → A = [] ∧ l = [] ∧ cA = 0 := fun e => by
              have h1 := hrm.2 e
              have h2 : A = [] := List.eq_nil_of_length_eq_zero h1.1
              have h3 : l = [] := List.eq_nil_of_length_eq_zero (by omega)
              exact ⟨h2, h3, h1.2⟩
            clear q1 q2 q3 iC sC hl lA LE hall hI HS HA HU HR HM hpe hP hp hpc hpn cj hrm bA bU sx lg sy st' hpb hp4
            cases aA with
            | none =>
              obtain ⟨z1, z2, z3⟩ := j4 rfl
              subst z1 z2 z3
              clear j4
              simp only [List.length_nil] at *
              go_wp2_with (first
                | (go_at_call 15; refine SY.mono ?_; rintro e w5' ⟨rfl, y5⟩; clear SY)
                | (go_at_call 13; refine (CR.out _ _ y5).mono ?_; rintro e w6 ⟨rfl, y6⟩; clear CR)
                | (go_at_call 21; refine still (ON.out _ _ y6) ?_; clear ON)
                | (go_at_call 26; refine still (PD.out _ _ y6) ?_; clear PD)
                | (go_at_call 22; refine (RD.out _ _ y6).mono ?_; rintro e w7 ⟨ra, rc, rfl, o7, y7⟩; have o7' := own_base o7 y6.bel.size; clear RD o7 y6)
                | (go_at_call 30; refine (SB.out _ _ _ _ _ o7' y7).mono ?_; rintro e w8 ⟨rfl, b8⟩))
              go_ret
              exact ⟨rfl, y7.bel.trans (b8.mono y7.bel.size)⟩
            | some ad =>
              clear j4
              go_wp2_with (first
                | (go_at_call 15; refine SY.mono ?_; rintro e w5' ⟨rfl, y5⟩; clear SY)
                | (go_at_call 13; refine (CR.out _ _ y5).mono ?_; rintro e w6 ⟨rfl, y6⟩; clear CR)
                | (go_at_call 21; refine still (ON.out _ _ y6) ?_; clear ON)
                | (go_at_call 26; refine still (PD.out _ _ y6) ?_; clear PD)
                | (go_at_call 22; refine (RD.out _ _ y6).mono ?_; rintro e w7 ⟨ra, rc, rfl, o7, y7⟩; have o7' := own_base o7 y6.bel.size; clear RD o7 y6)
                | (go_at_call 30; refine (SB.out _ _ _ _ _ o7' y7).mono ?_; rintro e w8 ⟨rfl, b8⟩))
              go_ret
              exact ⟨rfl, y7.bel.trans (b8.mono y7.bel.size)⟩
        · have q0 : ((P : Int) == 0) = false := by simp; omega
          have CP : Hid (∀ wx, Below wr.heap.size wr wx → Calls Try.prog 29 #[.slice aA A.length cA] wx fun e w' => ∃ g c, e = .returned (.slice (some ⟨g, 0, none⟩) A.length c) ∧ Below wr.heap.size wr w' ∧ w'.ownsRow wr.heap.size 5 1 (.slice (some ⟨g, 0, none⟩) A.length c) A.length (bc A)) := fun wx hw => by
            refine (copyBytes_any wx aA cA A (bytes_of_own (own_later hI.oa hw) (by omega)) (fun e => (hrm.2 e).2)).mono ?_
            rintro e w' ⟨g, c, rfl, hx⟩
            exact ⟨g, c, rfl, hw.trans ((hx.below (Nat.le_refl _) (by simp [Value.ownBlock])).mono hw.size), own_base hx.own hw.size⟩
          have VP : Hid (∀ wx, Below wr.heap.size wr wx → BytesIn wx (.slice pa P pc) p) := fun wx hw => (hpb.later hI.bel).later hw
          have LP : Hid (P = p.length) := hP
          have Y1 : Hid (A.length + p.length ≤ 140737488355328) := by show _ ≤ _; omega
          have hbx0 : Below wr.heap.size wr wr := Below.refl _ _
          have HI : Hid _ := hI
          have HALL : Hid _ := hall
          have HP : Hid _ := hpb
          have HPC : Hid _ := hpc
          have HPN : Hid _ := hpn
          have HRM : Hid _ := hrm
          have SX : Hid _ := sx
          have HP4 : Hid _ := hp4
          have BA : Hid _ := bA
          have BU : Hid _ := bU
          clear hall hI HR HM hpe hp hpc hrm bA bU sx hpb hp4 cj hP
          go_wp2_with (fail)
          go_region_held3 (fun w' => w'.cell? ⟨B, off + j, none⟩ = some (.slice pa P pc))
            (first | exact keepC hbx cw | exact cw | (go_keep; done))
            (first
              | (go_at_call 29; (first | refine (CP.out _ (Below.refl _ _)).mono ?_ | refine (CP.out _ (Below.refl _ _).drew).mono ?_); rintro e w7 ⟨g7, cap7, rfl, hbx, O7⟩)
              | (refine step_app_bytes _ (by rfl) _ _ (by rfl) wr.heap.size g7 cap7 A p A.length P pc rfl LP.out (by rfl) O7 _ (by rfl) (VP.out _ hbx) HPN.out Y1.out hbx.size ?_; intro g8 cap8 L8 w8 HL8 x8; have hbx := hbx.trans (x8.below hbx.size (by intro q hq; exact (O7.lt q hq).1)); have O8 : w8.ownsRow wr.heap.size 5 1 (.slice (some ⟨g8, 0, none⟩) L8 cap8) L8 (bc (A ++ p)) := (by have := x8.own; rw [← HL8.out] at this; exact this); clear O7 x8))
          have y8 := (HI.out.later hbx).newA (A' := A ++ p) (va' := .slice (some ⟨g8, 0, none⟩) L8 cap8) (by rw [← HL8.out]; exact own_base O8 HI.out.bel.size) (fun g' hg hs => by have h1 := (O8.lt g' hg).1; have h2 := HI.out.rep.low g' hs; omega)
          have hcp := (own_cap O8).1
          have hL8 := HL8.out
          have sx := SX.out
          have bA := BA.out
          have bU := BU.out
          have hp4 := HP4.out
          have i8 := HALL.out.log.inv
          have st' := (i8.append Vf.Syn.log p).2
          obtain ⟨lg, dn⟩ := Vf.Syn.append_log HALL.out p
          obtain ⟨E, hE⟩ : ∃ E, E = Vf.appendE τ Vf.Syn.log p := ⟨_, rfl⟩
          have AP := append_i y8 i8 sx (.slice pa P pc) p hp4 HP.out (fun a n c e => by cases e; exact HPC.out) E hE
          rw [← hE] at dn
          have cB := keepC hbx cw
          by_cases g2 : E = 0
          · have q1 : (E != 0) = false := by simp [g2]
            have AL : Hid _ := dn g2
            have NS : Hid ((Vf.append τ Vf.Syn.log p).steps ≤ 2 + 7 * (j + 1)) := by have := HS.out; show _ ≤ _; omega
            have NA : Hid ((A ++ p).length ≤ 400 * (j + 1)) := by show _ ≤ _; rw [List.length_append]; omega
            have NU : Hid (U.length ≤ (A ++ p).length) := by show _ ≤ _; rw [List.length_append]; omega
            subst g2
            clear lg dn hE st' i8 hp4 bA bU sx hL8 hcp y8 O8 hbx HI HALL HP HPC HPN HRM SX HP4 BA BU CP VP LP Y1 HL8 hbx0 HS HA HU
            go_wp2_with (first
              | (go_at_call 11; refine AP.mono ?_; rintro e w9 ⟨rfl, y9⟩; clear AP))
            exact ⟨⟨j + 1, _, A ++ p, U, _, by omega, rfl, AL.out, y9, NS, NA, NU⟩, by simp [intOf]; omega⟩
          · have q1' : (E != 0) = true := by simpa using g2
            have sy : (Vf.append τ Vf.Syn.log p).steps ≤ 10000 := by have := HS.out; omega
            clear dn hE
            obtain ⟨q1, q2, q3, _, _⟩ := end_facts lg K T
            have iC := (lg).inv.crash K T
            have sC : (Vf.crash (Vf.append τ Vf.Syn.log p) K T).steps ≤ 10000 := by rw [Vf.crash_steps]; exact sy
            obtain ⟨l, hl⟩ : ∃ l, l = Vf.read (Vf.crash (Vf.append τ Vf.Syn.log p) K T) Vf.Syn.log := ⟨_, rfl⟩
            rw [← hl] at q2 q3
            have CR : Hid (∀ wx S', SyncI w b wx ((Vf.append τ Vf.Syn.log p)) (A ++ p) U (.slice (some ⟨g8, 0, none⟩) L8 cap8) (.slice aS U.length cS) S' → Calls Try.prog 13 #[.pointer (some ⟨b, 0, none⟩), .int .i64 (K : Int), .int .i64 (T : Int)] wx fun e w' => e = .returned (.int .i64 0) ∧ SyncI w b w' (Vf.crash (Vf.append τ Vf.Syn.log p) K T) (A ++ p) U (.slice (some ⟨g8, 0, none⟩) L8 cap8) (.slice aS U.length cS) (grow S' wx w')) := fun wx S' h => crash_i h (lg).inv sy K T
            have ON : Hid (∀ wx S', SyncI w b wx (Vf.crash (Vf.append τ Vf.Syn.log p) K T) (A ++ p) U (.slice (some ⟨g8, 0, none⟩) L8 cap8) (.slice aS U.length cS) S' → Calls Try.prog 21 #[.pointer (some ⟨b, 0, none⟩)] wx fun e w' => e = .returned (.bool true) ∧ w' = wx) := fun wx S' h => on_any wx b _ S' h.rep
            have PD : Hid (∀ wx S', SyncI w b wx (Vf.crash (Vf.append τ Vf.Syn.log p) K T) (A ++ p) U (.slice (some ⟨g8, 0, none⟩) L8 cap8) (.slice aS U.length cS) S' → Calls Try.prog 26 #[.pointer (some ⟨b, 0, none⟩)] wx fun e w' => e = .returned (.int .i64 0) ∧ w' = wx) := fun wx S' h => pending_any wx b _ S' h.rep
            have RD : Hid (∀ wx S', SyncI w b wx (Vf.crash (Vf.append τ Vf.Syn.log p) K T) (A ++ p) U (.slice (some ⟨g8, 0, none⟩) L8 cap8) (.slice aS U.length cS) S' → Calls Try.prog 22 #[.pointer (some ⟨b, 0, none⟩), .string ⟨#[108, 111, 103]⟩] wx fun e w' => ∃ a c, e = .returned (.tuple #[.slice a l.length c, .int .i64 0]) ∧ w'.ownsRow wx.heap.size 5 1 (.slice a l.length c) l.length (bc l) ∧ SyncI w b w' (Vf.crash (Vf.append τ Vf.Syn.log p) K T) (A ++ p) U (.slice (some ⟨g8, 0, none⟩) L8 cap8) (.slice aS U.length cS) S') := fun wx S' h => read_i h iC sC q1 l hl
            have lA := q2.length_le
            have lB : (A ++ p).length ≤ 100000 := by rw [List.length_append]; omega
            have LE : Hid (l = (A ++ p).take l.length) := List.prefix_iff_eq_take.1 q2
            have SB : Hid (∀ wx a c c' S', wx.ownsRow w.heap.size 5 1 (.slice a l.length c) l.length (bc l) → SyncI w b wx (Vf.crash (Vf.append τ Vf.Syn.log p) K T) (A ++ p) U (.slice (some ⟨g8, 0, none⟩) L8 cap8) (.slice aS U.length cS) S' → Calls Try.prog 30 #[.slice a l.length c, .slice (some ⟨g8, 0, none⟩) l.length c'] wx fun e w' => e = .returned (.bool true) ∧ Below wx.heap.size wx w') := fun wx a c c' S' h1 h2 => by
              have e1 := bytes_of_own h2.oa (by omega)
              have := same_any wx (.slice a l.length c) (.slice (some ⟨g8, 0, none⟩) l.length c') l ((A ++ p).take l.length) (bytes_of_own h1 (by omega)) (e1.cut l.length lA c')
              rw [decide_eq_true LE.out] at this
              exact this
            have j1 : ¬ (l.length : Int) > (L8 : Int) := by omega
            have j2 : ¬ (l.length : Int) < (U.length : Int) := by omega
            have j3 : (l.length : Int) ≤ (cap8 : Int) := by omega
            clear q1 q2 q3 iC sC hl lA lB LE lg sy st' i8 hp4 bA bU sx hL8 hcp y8 O8 hbx HI HALL HP HPC HPN HRM SX HP4 BA BU CP VP LP Y1 HL8 hbx0 HS HA HU
            go_wp2_with (first
              | (go_at_call 11; refine AP.mono ?_; rintro e w5' ⟨rfl, y5⟩; clear AP)
              | (go_at_call 13; refine (CR.out _ _ y5).mono ?_; rintro e w6 ⟨rfl, y6⟩; clear CR)
              | (go_at_call 21; refine still (ON.out _ _ y6) ?_; clear ON)
              | (go_at_call 26; refine still (PD.out _ _ y6) ?_; clear PD)
              | (go_at_call 22; refine (RD.out _ _ y6).mono ?_; rintro e w7 ⟨ra, rc, rfl, o7, y7⟩; have o7' := own_base o7 y6.bel.size; clear RD o7 y6)
              | (go_at_call 30; refine (SB.out _ _ _ _ _ o7' y7).mono ?_; rintro e w8 ⟨rfl, b8⟩))
            go_ret
            exact ⟨rfl, y7.bel.trans (b8.mono y7.bel.size)⟩
    · have i9 : ¬ (j : Int) < (m : Int) := by omega
      obtain ⟨q1, q2, q3, _, _⟩ := end_facts hall.log K T
      have iC := (hall.log).inv.crash K T
      have sC : (Vf.crash τ K T).steps ≤ 10000 := by rw [Vf.crash_steps]; exact sx
      obtain ⟨l, hl⟩ : ∃ l, l = Vf.read (Vf.crash τ K T) Vf.Syn.log := ⟨_, rfl⟩
      rw [← hl] at q2 q3
      have CR : Hid (∀ wx S', SyncI w b wx (τ) (A) U (.slice aA A.length cA) (.slice aS U.length cS) S' → Calls Try.prog 13 #[.pointer (some ⟨b, 0, none⟩), .int .i64 (K : Int), .int .i64 (T : Int)] wx fun e w' => e = .returned (.int .i64 0) ∧ SyncI w b w' (Vf.crash τ K T) (A) U (.slice aA A.length cA) (.slice aS U.length cS) (grow S' wx w')) := fun wx S' h => crash_i h (hall.log).inv sx K T
      have ON : Hid (∀ wx S', SyncI w b wx (Vf.crash τ K T) (A) U (.slice aA A.length cA) (.slice aS U.length cS) S' → Calls Try.prog 21 #[.pointer (some ⟨b, 0, none⟩)] wx fun e w' => e = .returned (.bool true) ∧ w' = wx) := fun wx S' h => on_any wx b _ S' h.rep
      have PD : Hid (∀ wx S', SyncI w b wx (Vf.crash τ K T) (A) U (.slice aA A.length cA) (.slice aS U.length cS) S' → Calls Try.prog 26 #[.pointer (some ⟨b, 0, none⟩)] wx fun e w' => e = .returned (.int .i64 0) ∧ w' = wx) := fun wx S' h => pending_any wx b _ S' h.rep
      have RD : Hid (∀ wx S', SyncI w b wx (Vf.crash τ K T) (A) U (.slice aA A.length cA) (.slice aS U.length cS) S' → Calls Try.prog 22 #[.pointer (some ⟨b, 0, none⟩), .string ⟨#[108, 111, 103]⟩] wx fun e w' => ∃ a c, e = .returned (.tuple #[.slice a l.length c, .int .i64 0]) ∧ w'.ownsRow wx.heap.size 5 1 (.slice a l.length c) l.length (bc l) ∧ SyncI w b w' (Vf.crash τ K T) (A) U (.slice aA A.length cA) (.slice aS U.length cS) S') := fun wx S' h => read_i h iC sC q1 l hl
      have lA := q2.length_le
      have LE : Hid (l = (A).take l.length) := List.prefix_iff_eq_take.1 q2
      have SB : Hid (∀ wx a c c' S', wx.ownsRow w.heap.size 5 1 (.slice a l.length c) l.length (bc l) → SyncI w b wx (Vf.crash τ K T) (A) U (.slice aA A.length cA) (.slice aS U.length cS) S' → Calls Try.prog 30 #[.slice a l.length c, .slice aA l.length c'] wx fun e w' => e = .returned (.bool true) ∧ Below wx.heap.size wx w') := fun wx a c c' S' h1 h2 => by
        have e1 := bytes_of_own h2.oa (by omega)
        have := same_any wx (.slice a l.length c) (.slice aA l.length c') l ((A).take l.length) (bytes_of_own h1 (by omega)) (e1.cut l.length lA c')
        rw [decide_eq_true LE.out] at this
        exact this
      have j1 : ¬ (l.length : Int) > (A.length : Int) := by omega
      have j2 : ¬ (l.length : Int) < (U.length : Int) := by omega
      have j3 : (l.length : Int) ≤ (cA : Int) := by omega
      have y0 := hI
      have j4 : aA = none → A = [] ∧ l = [] ∧ cA = 0 := fun e => by
        have h1 := hrm.2 e
        have h2 : A = [] := List.eq_nil_of_length_eq_zero h1.1
        have h3 : l = [] := List.eq_nil_of_length_eq_zero (by omega)
        exact ⟨h2, h3, h1.2⟩
      clear q1 q2 q3 iC sC hl lA LE hall hI HS HA HU HR HM hrm bA bU sx
      cases aA with
      | none =>
        obtain ⟨z1, z2, z3⟩ := j4 rfl
        subst z1 z2 z3
        clear j4
        simp only [List.length_nil] at *
        go_wp2_with (first
          | (go_at_call 13; refine (CR.out _ _ y0).mono ?_; rintro e w6 ⟨rfl, y6⟩; clear CR)
          | (go_at_call 21; refine still (ON.out _ _ y6) ?_; clear ON)
          | (go_at_call 26; refine still (PD.out _ _ y6) ?_; clear PD)
          | (go_at_call 22; refine (RD.out _ _ y6).mono ?_; rintro e w7 ⟨ra, rc, rfl, o7, y7⟩; have o7' := own_base o7 y6.bel.size; clear RD o7 y6)
          | (go_at_call 30; refine (SB.out _ _ _ _ _ o7' y7).mono ?_; rintro e w8 ⟨rfl, b8⟩))
        go_ret
        exact ⟨rfl, y7.bel.trans (b8.mono y7.bel.size)⟩
      | some ad =>
        clear j4
        go_wp2_with (first
          | (go_at_call 13; refine (CR.out _ _ y0).mono ?_; rintro e w6 ⟨rfl, y6⟩; clear CR)
          | (go_at_call 21; refine still (ON.out _ _ y6) ?_; clear ON)
          | (go_at_call 26; refine still (PD.out _ _ y6) ?_; clear PD)
          | (go_at_call 22; refine (RD.out _ _ y6).mono ?_; rintro e w7 ⟨ra, rc, rfl, o7, y7⟩; have o7' := own_base o7 y6.bel.size; clear RD o7 y6)
          | (go_at_call 30; refine (SB.out _ _ _ _ _ o7' y7).mono ?_; rintro e w8 ⟨rfl, b8⟩))
        go_ret
        exact ⟨rfl, y7.bel.trans (b8.mono y7.bel.size)⟩
end Go.Proofs.Ytclokpkhkokfhaa.vfsSynced
