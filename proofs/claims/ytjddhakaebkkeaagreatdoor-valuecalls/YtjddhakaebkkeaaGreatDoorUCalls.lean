/-
  Every operation does to any values what the document says: the law's walk.
-/
import Derived.Test.YtjddhakaebkkeaaGreatDoorULent
import Derived.Test.YtjddhakaebkkeaaGreatDoorUQm
import Derived.Test.YtjddhakaebkkeaaGreatDoorUQp
import Derived.Test.YtjddhakaebkkeaaGreatDoorULaw
namespace Go.Proofs.YtjddhakaebkkeaaGreatDoor
open Go.RowKit
attribute [local go_sem ↓] Go.wp_at_zero Go.wp_at_succ

theorem lent_take (l : List Val) : (lentL l).take l.length = l := by unfold lentL; rw [List.take_left]
theorem lent_len (l : List Val) : (lentL l).length = l.length + 3 := by unfold lentL; simp

set_option maxRecDepth 20000 in
set_option maxHeartbeats 6400000 in
theorem calls_walk (w : World) (op : Int) (a1 : Option Addr) (c1 : Nat) (l : List Val) (h : ValsIn w (.slice a1 l.length c1) l) (hc : l.length ≤ c1) (hn : a1 = none → c1 = 0)
    (a2 : Option Addr) (c2 : Nat) (ks : List Int) (h2 : KindsIn w (.slice a2 ks.length c2) ks) (hT : Tabs w) :
    Calls Tryz.prog 3 #[.int .u8 op, .slice a1 l.length c1, .slice a2 ks.length c2] w fun e w' => e = .returned (.bool true) ∧ Below w.heap.size w w' := by
  have LV : Hid (∀ wx : World, Calls Tryz.prog 4 #[] wx fun e w' => e = .returned (.bool true) ∧ Below wx.heap.size wx w') := fun wx => lives_any wx
  by_cases h5 : l.length ≤ 5
  · by_cases k5 : ks.length ≤ 5
    · obtain ⟨R, hR⟩ : ∃ R, R = doR op l := ⟨_, rfl⟩
      have LE := hide (fun (wx : World) (hb : Below w.heap.size w wx) => lent_any wx a1 c1 l (h.later hb) hn (by omega))
      have CD : Hid (∀ (wx : World) (g cap : Nat), ValsIn wx (.slice (some ⟨g, 0, none⟩) (l.length + 3) cap) (lentL l) → Calls Tryz.prog 6 #[.int .u8 op, .slice (some ⟨g, 0, none⟩) l.length cap] wx fun e w' => e = .returned (tupR R) ∧ Below wx.heap.size wx w') := fun wx g cap hv => by
        rw [hR]
        rw [← lent_len] at hv
        have := ValsIn.take hv cap (n := l.length) (by rw [lent_len]; omega)
        rw [lent_take] at this
        exact do_any wx op _ l this
      have RD : Hid (∀ wx, Below w.heap.size w wx → Calls Tryz.prog 7 #[.int .u8 op, .slice a1 l.length c1] wx fun e w' => e = .returned (tupR R) ∧ Below wx.heap.size wx w') := fun wx hb => by
        rw [hR]
        exact rdo_any wx op _ l (h.later hb) (fun a n c e => by cases e; exact hc)
      obtain ⟨K, hK⟩ : ∃ K, K = givesK op ks := ⟨_, rfl⟩
      obtain ⟨E, hE⟩ : ∃ E, E = givesE op ks := ⟨_, rfl⟩
      have GV := hide (fun (wx : World) (hb : Below w.heap.size w wx) => gives_any wx op _ _ (h2.later hb))
      have RG := hide (fun (wx : World) (hb : Below w.heap.size w wx) => rgives_any wx op _ _ (h2.later hb))
      rw [← hK, ← hE] at GV RG
      obtain ⟨T, hTk⟩ : ∃ T, T = takes op := ⟨_, rfl⟩
      have TK := hide (fun wx => takes_any wx op)
      have RT := hide (fun wx => rtakes_any wx op)
      rw [← hTk] at TK RT
      have KE : Hid (∀ (wx : World) (g cap : Nat), ValsIn wx (.slice (some ⟨g, 0, none⟩) (l.length + 3) cap) (lentL l) → Below w.heap.size w wx → Calls Tryz.prog 12 #[.slice (some ⟨g, 0, none⟩) (l.length + 3) cap, .slice a1 l.length c1] wx fun e w' => e = .returned (.bool true) ∧ Below wx.heap.size wx w') := fun wx g cap hv hb =>
        kept_any wx _ _ hv a1 c1 l (h.later hb) hn (by omega) rfl
      have HV : Hid (ValsIn w (.slice a1 l.length c1) l) := h
      have TT := hide hT
      have g5 : ¬ (5 : Int) < (l.length : Int) := by omega
      have g6 : ¬ (5 : Int) < (ks.length : Int) := by omega
      obtain ⟨⟨rk, rn, rt⟩, re⟩ := R
      have EQ := eql_val rk rn rt rk rn rt
      rw [show sameV ⟨rk, rn, rt⟩ ⟨rk, rn, rt⟩ = true from sameV_refl _] at EQ
      clear h h2 hT hR hK hE hTk hc hn k5
      go_enter Tryz.func3, Tryz.ntmps3
      go_wp2_with (first
        | (go_at_call 4; refine (LV.out _).mono ?_; rintro e w1 ⟨rfl, hb1⟩)
        | (go_at_call 5; refine (LE.out _ hb1).mono ?_; rintro e w2 ⟨g, cap, rfl, hcap, hv2, hb2⟩; have B2 := hb1.trans (hb2.mono hb1.size); have V2 := hide hv2; have hci : (l.length : Int) ≤ (cap : Int) := (by omega); clear hv2)
        | (go_at_call 6; refine (CD.out _ _ _ V2.out).mono ?_; rintro e w3 ⟨rfl, hb3⟩; have B3 := B2.trans (hb3.mono B2.size); have V3 := hide (V2.out.later hb3); have X3 := B3.alloc B3.size (.cells #[.int .u8 rk, .int .i64 rn, .string rt] 29); have VX3 := hide (V3.out.later ((Below.refl _ w3).alloc (Nat.le_refl _) (.cells #[.int .u8 rk, .int .i64 rn, .string rt] 29))))
        | (go_at_call 7; refine (RD.out _ X3).mono ?_; rintro e w4 ⟨rfl, hb4⟩; have B4 := X3.trans (hb4.mono X3.size); obtain ⟨⟨p0, p1, p2, _, _, _, lt3⟩, _⟩ := res_slot (w := w3) (x := .int .u8 rk) (y := .int .i64 rn) (z := .string rt) (t := 29) (by simpa using hb4); have X4 := B4.alloc B4.size (.cells #[.int .u8 rk, .int .i64 rn, .string rt] 29); have VX4 := hide ((VX3.out.later hb4).later ((Below.refl _ w4).alloc (Nat.le_refl _) (.cells #[.int .u8 rk, .int .i64 rn, .string rt] 29))))
        | (go_at_call 8; refine still (GV.out _ X4) ?_)
        | (go_at_call 9; refine (RG.out _ X4).mono ?_; rintro e w5 ⟨rfl, hb5⟩; have B5 := X4.trans (hb5.mono X4.size); obtain ⟨⟨q0, q1, q2, _, _, _, lt4⟩, b45⟩ := res_slot (w := w4) (x := .int .u8 rk) (y := .int .i64 rn) (z := .string rt) (t := 29) (by simpa using hb5); have m0 := (b45.cell (p := ⟨w3.heap.size, 0, none⟩) lt3).trans p0; have m1 := (b45.cell (p := ⟨w3.heap.size, 1, none⟩) lt3).trans p1; have m2 := (b45.cell (p := ⟨w3.heap.size, 2, none⟩) lt3).trans p2; have V5 := hide (VX4.out.later hb5))
        | (go_at_call 10; refine still (TK.out _) ?_)
        | (go_at_call 11; refine still (RT.out _) ?_)
        | (go_at_call 12; refine (KE.out _ _ _ V5.out B5).mono ?_; rintro e w6 ⟨rfl, hb6⟩; have B6 := B5.trans (hb6.mono B5.size)))
      go_loopw [16, 17, 18, 19, 20] (fun i _ _ _ _ wr => ∃ j : Nat, i = .int .i64 j ∧ j ≤ l.length ∧ Below w.heap.size w wr) (fun i _ _ _ _ _ => l.length - (intOf i).toNat)
      case atStart => exact ⟨0, rfl, Nat.zero_le _, B6⟩
      case round =>
        obtain ⟨j, rfl, hj, hbel⟩ := hrel
        have hs := hbel.size
        clear B6 hb6 B5 hb5 X4 X3 hb4 hb3 hb2 hb1 B4 B3 B2 V2 V3 VX3 VX4 V5 LE CD RD GV RG TK RT KE LV
        by_cases hlt : j < l.length
        · obtain ⟨⟨a', c', hv', hf⟩, hwf, _⟩ := HV.out
          simp only [Value.slice.injEq, true_and] at hv'
          obtain ⟨rfl, rfl⟩ := hv'
          obtain ⟨b, off, rfl, hv⟩ := hf (by intro e; rw [e] at hlt; simp at hlt)
          have C0 := (hv.later hbel) j hlt
          have hxw := hwf _ (List.getElem_mem hlt)
          obtain ⟨x, hx⟩ : ∃ x, x = l[j] := ⟨_, rfl⟩
          rw [← hx] at C0 hxw
          clear hx hv hf
          have LA := hide (fun (wx : World) (hb : Below w.heap.size w wx) => literal_any wx x hxw (TT.out.later hb))
          have LB := hide (fun (wx : World) (hb : Below w.heap.size w wx) => rliteral_any wx x hxw (TT.out.later hb))
          have TA := hide (fun wx => true_any wx x)
          have TB := hide (fun wx => rtrue_any wx x)
          obtain ⟨S, hS⟩ : ∃ S, S = litS x := ⟨_, rfl⟩
          obtain ⟨E2, hE2⟩ : ∃ E2, E2 = litE x := ⟨_, rfl⟩
          obtain ⟨T2, hT2⟩ : ∃ T2, T2 = isT x := ⟨_, rfl⟩
          rw [← hS, ← hE2] at LA LB
          rw [← hT2] at TA TB
          clear hS hE2 hT2 hxw hwf HV TT EQ
          obtain ⟨xk, xn, xt⟩ := x
          simp only at C0 LA LB TA TB
          obtain ⟨c0, c1', c2'⟩ := C0
          have hlti : (j : Int) < l.length := by omega
          go_wp2_with (first
            | (go_at_call 13; refine (LA.out _ hbel).mono ?_; rintro e w7 ⟨rfl, hb7⟩; have B7 := hbel.trans (hb7.mono hs); obtain ⟨d0, d1, d2⟩ := (⟨(hb7.cell (World.block_lt_of_cell? _ _ c0)).trans c0, (hb7.cell (World.block_lt_of_cell? _ _ c1')).trans c1', (hb7.cell (World.block_lt_of_cell? _ _ c2')).trans c2'⟩ : (w7.cell? ⟨b, off + j * 3, none⟩ = some (.int .u8 xk) ∧ w7.cell? ⟨b, off + j * 3 + 1, none⟩ = some (.int .i64 xn) ∧ w7.cell? ⟨b, off + j * 3 + 2, none⟩ = some (.string xt))); clear c0 c1' c2')
            | (go_at_call 14; refine (LB.out _ B7).mono ?_; rintro e w8 ⟨rfl, hb8⟩; have B8 := B7.trans (hb8.mono B7.size); have S8 := (⟨(hb8.cell (World.block_lt_of_cell? _ _ d0)).trans d0, (hb8.cell (World.block_lt_of_cell? _ _ d1)).trans d1, (hb8.cell (World.block_lt_of_cell? _ _ d2)).trans d2⟩ : (w8.cell? ⟨b, off + j * 3, none⟩ = some (.int .u8 xk) ∧ w8.cell? ⟨b, off + j * 3 + 1, none⟩ = some (.int .i64 xn) ∧ w8.cell? ⟨b, off + j * 3 + 2, none⟩ = some (.string xt))); clear d0 d1 d2))
          have hbD : Below w8.heap.size w8 w8.drew := (Below.refl _ _).drew
          go_region_held3 (fun w' => (w'.cell? ⟨b, off + j * 3, none⟩ = some (.int .u8 xk) ∧ w'.cell? ⟨b, off + j * 3 + 1, none⟩ = some (.int .i64 xn) ∧ w'.cell? ⟨b, off + j * 3 + 2, none⟩ = some (.string xt)))
            (first | exact S10 | exact S9 | exact S8)
            (first
              | (go_at_call 15; refine (TA.out _).mono ?_; rintro e w9 ⟨rfl, hb9⟩; have B9 := B8.drew.trans (hb9.mono B8.size); have S9 := (⟨(hb9.cell (World.block_lt_of_cell? _ _ S8.1)).trans S8.1, (hb9.cell (World.block_lt_of_cell? _ _ S8.2.1)).trans S8.2.1, (hb9.cell (World.block_lt_of_cell? _ _ S8.2.2)).trans S8.2.2⟩ : (w9.cell? ⟨b, off + j * 3, none⟩ = some (.int .u8 xk) ∧ w9.cell? ⟨b, off + j * 3 + 1, none⟩ = some (.int .i64 xn) ∧ w9.cell? ⟨b, off + j * 3 + 2, none⟩ = some (.string xt))))
              | (go_at_call 16; refine (TB.out _).mono ?_; rintro e w10 ⟨rfl, hb10⟩; have B10 := B9.trans (hb10.mono B9.size); have S10 := (⟨(hb10.cell (World.block_lt_of_cell? _ _ S9.1)).trans S9.1, (hb10.cell (World.block_lt_of_cell? _ _ S9.2.1)).trans S9.2.1, (hb10.cell (World.block_lt_of_cell? _ _ S9.2.2)).trans S9.2.2⟩ : (w10.cell? ⟨b, off + j * 3, none⟩ = some (.int .u8 xk) ∧ w10.cell? ⟨b, off + j * 3 + 1, none⟩ = some (.int .i64 xn) ∧ w10.cell? ⟨b, off + j * 3 + 2, none⟩ = some (.string xt)))))
          go_wp2
          go_roundw
          case rel => exact ⟨j + 1, by go_num, by omega, B10⟩
          case measure => simp [intOf]; omega
        · have hlti : ¬ (j : Int) < l.length := by omega
          go_wp2
          go_ret
          exact ⟨rfl, hbel⟩
    · have g6 : (5 : Int) < (ks.length : Int) := by omega
      have g5 : ¬ (5 : Int) < (l.length : Int) := by omega
      clear h h2 hT hc hn
      go_enter Tryz.func3, Tryz.ntmps3
      go_wp2_with (go_at_call 4; refine (LV.out _).mono ?_; rintro e w1 ⟨rfl, hb1⟩)
      go_ret
      exact ⟨rfl, hb1⟩
  · have g5 : (5 : Int) < (l.length : Int) := by omega
    clear h h2 hT hc hn
    go_enter Tryz.func3, Tryz.ntmps3
    go_wp2_with (go_at_call 4; refine (LV.out _).mono ?_; rintro e w1 ⟨rfl, hb1⟩)
    go_ret
    exact ⟨rfl, hb1⟩
end Go.Proofs.YtjddhakaebkkeaaGreatDoor
