/-
  The layer's numbers are as told, and the chapter's examples hold: the law's walk.
-/
import Derived.Test.YtoaliblndieaiaaDoorULit
import Derived.Test.YtoaliblndieaiaaDoorUCel
import Derived.Deep.Cut
import Derived.Deep.CutRange
namespace Go.Proofs.YtoaliblndieaiaaDoor
open Go.RowKit
attribute [local go_sem ↓] Go.wp_at_zero Go.wp_at_succ

theorem ex0 : failsB 3 (numV (9223372036854775807)) (numV (1)) 221 = true := by decide +kernel
theorem ex1 : isB 7 (numV (-7)) (numV (2)) (numV (-1)) = true := by decide +kernel
theorem ex2 : failsB 6 (numV (-9223372036854775808)) (numV (-1)) 221 = true := by decide +kernel
theorem ex3 : isB 7 (numV (-9223372036854775808)) (numV (-1)) (numV (0)) = true := by decide +kernel
theorem ex4 : isB 15 nullV (tv true) nullV = true := by decide +kernel
theorem ex5 : isB 9 nullV nullV nullV = true := by decide +kernel
theorem ex6 : failsB 9 (numV (1)) (tv true) 220 = true := by decide +kernel
theorem ex7 : isB 11 (⟨3, 0, ⟨#[97]⟩⟩ : Val) (⟨3, 0, ⟨#[98]⟩⟩ : Val) (tv true) = true := by decide +kernel
theorem exD : (doR 3 [numV 1]).2 = 2 := by decide +kernel
theorem exK1 : givesK 9 [0, 2] = 1 ∧ givesE 9 [0, 2] = 0 := by decide +kernel
theorem exK2 : givesK 8 [0, 0] = 3 ∧ givesE 8 [0, 0] = 0 := by decide +kernel
theorem exK3 : givesE 3 [1, 0] = 220 := by decide +kernel
theorem exL1 : litE ⟨3, 0, ⟨#[105, 116, 39, 115]⟩⟩ = 0 := by decide +kernel
theorem exL1b : litB ⟨3, 0, ⟨#[105, 116, 39, 115]⟩⟩ = [39, 105, 116, 39, 39, 115, 39] := by decide +kernel
theorem exL2b : litB (numV (-5)) = [45, 53] := by
  show Lib.itoa (-5) = _
  unfold Lib.itoa
  rw [if_pos (by decide), show ((-5 : Int).natAbs) = 5 from rfl, Lib.decDigits, dif_pos (by decide)]; rfl
theorem exL3b : litB (tv true) = [84, 82, 85, 69] := by decide +kernel

theorem kinds_lit (w : World) (i j : Int) {B : Nat} (hB : B = w.heap.size) : KindsIn (w.alloc (.cells #[.int .u8 i, .int .u8 j] 22)) (.slice (some ⟨B, 0, none⟩) 2 2) [i, j] := by
  subst hB
  refine ⟨⟨_, 2, rfl, fun _ => ⟨_, _, rfl, ?_⟩⟩, by simp⟩
  intro x hx
  have e : x = 0 ∨ x = 1 := by simp at hx; omega
  rcases e with rfl | rfl <;> simp [go_sem]

theorem lit_is {v : Val} {l : List UInt8} (h : litE v = 0) (hl : litB v = l) (hv : v.wf) (wx : World) (hT : Tabs wx) :
    Calls Tryd.prog 11 #[.agg #[.int .u8 v.k, .int .i64 v.n, .string v.t]] wx fun e w' => e = .returned (.tuple #[.string ⟨l.toArray⟩, .int .i64 0]) ∧ Below wx.heap.size wx w' := by
  have := literal_any wx v hv hT
  rw [show litS v = ⟨l.toArray⟩ from by unfold litS; rw [if_pos h, hl], h] at this
  exact this

set_option maxRecDepth 100000 in
set_option maxHeartbeats 16000000 in
theorem names_walk (w : World) (hT : Tabs w) : Calls Tryd.prog 3 #[] w fun e w' => e = .returned (.bool true) ∧ Below w.heap.size w w' := by
  have NB : Hid (∀ (wx : World) (n : Int), Calls Tryd.prog 4 #[.int .i64 n] wx fun e w' => e = .returned (.agg #[.int .u8 2, .int .i64 n, .string ⟨#[]⟩]) ∧ Below wx.heap.size wx w') := fun wx n => (lnumber_any wx n).mono (fun e w' ⟨h1, h2⟩ => ⟨h1, below_one h2⟩)
  have TB : Hid (∀ (wx : World) (b : Bool), Calls Tryd.prog 7 #[.bool b] wx fun e w' => e = .returned (.agg #[.int .u8 1, .int .i64 (if b then 1 else 0), .string ⟨#[]⟩]) ∧ Below wx.heap.size wx w') := fun wx n => (ltruth_any wx n).mono (fun e w' ⟨h1, h2⟩ => ⟨h1, below_one h2⟩)
  have XB : Hid (∀ (wx : World) (t : ByteArray), Calls Tryd.prog 8 #[.string t] wx fun e w' => e = .returned (.agg #[.int .u8 3, .int .i64 0, .string t]) ∧ Below wx.heap.size wx w') := fun wx n => (ltext_any wx n).mono (fun e w' ⟨h1, h2⟩ => ⟨h1, below_one h2⟩)
  have J0 : Hid (∀ wx : World, Calls Tryd.prog 5 #[.int .u8 3, .agg #[.int .u8 2, .int .i64 9223372036854775807, .string ⟨#[]⟩], .agg #[.int .u8 2, .int .i64 1, .string ⟨#[]⟩], .int .i64 221] wx fun e w' => e = .returned (.bool true) ∧ Below wx.heap.size wx w') := fun wx => by
    have := fails_any wx 3 (numV (9223372036854775807)) (numV (1)) 221 (numV_wf ⟨by decide, by decide⟩) (numV_wf ⟨by decide, by decide⟩)
    rw [ex0] at this; exact this
  have J1 : Hid (∀ wx : World, Calls Tryd.prog 6 #[.int .u8 7, .agg #[.int .u8 2, .int .i64 (-7), .string ⟨#[]⟩], .agg #[.int .u8 2, .int .i64 2, .string ⟨#[]⟩], .agg #[.int .u8 2, .int .i64 (-1), .string ⟨#[]⟩]] wx fun e w' => e = .returned (.bool true) ∧ Below wx.heap.size wx w') := fun wx => by
    have := is_any wx 7 (numV (-7)) (numV (2)) (numV (-1)) (numV_wf ⟨by decide, by decide⟩) (numV_wf ⟨by decide, by decide⟩)
    rw [ex1] at this; exact this
  have J2 : Hid (∀ wx : World, Calls Tryd.prog 5 #[.int .u8 6, .agg #[.int .u8 2, .int .i64 (-9223372036854775808), .string ⟨#[]⟩], .agg #[.int .u8 2, .int .i64 (-1), .string ⟨#[]⟩], .int .i64 221] wx fun e w' => e = .returned (.bool true) ∧ Below wx.heap.size wx w') := fun wx => by
    have := fails_any wx 6 (numV (-9223372036854775808)) (numV (-1)) 221 (numV_wf ⟨by decide, by decide⟩) (numV_wf ⟨by decide, by decide⟩)
    rw [ex2] at this; exact this
  have J3 : Hid (∀ wx : World, Calls Tryd.prog 6 #[.int .u8 7, .agg #[.int .u8 2, .int .i64 (-9223372036854775808), .string ⟨#[]⟩], .agg #[.int .u8 2, .int .i64 (-1), .string ⟨#[]⟩], .agg #[.int .u8 2, .int .i64 0, .string ⟨#[]⟩]] wx fun e w' => e = .returned (.bool true) ∧ Below wx.heap.size wx w') := fun wx => by
    have := is_any wx 7 (numV (-9223372036854775808)) (numV (-1)) (numV (0)) (numV_wf ⟨by decide, by decide⟩) (numV_wf ⟨by decide, by decide⟩)
    rw [ex3] at this; exact this
  have J4 : Hid (∀ wx : World, Calls Tryd.prog 6 #[.int .u8 15, .agg #[.int .u8 0, .int .i64 0, .string ⟨#[]⟩], .agg #[.int .u8 1, .int .i64 1, .string ⟨#[]⟩], .agg #[.int .u8 0, .int .i64 0, .string ⟨#[]⟩]] wx fun e w' => e = .returned (.bool true) ∧ Below wx.heap.size wx w') := fun wx => by
    have := is_any wx 15 nullV (tv true) nullV nullV_wf (tv_wf _)
    rw [ex4] at this; exact this
  have J5 : Hid (∀ wx : World, Calls Tryd.prog 6 #[.int .u8 9, .agg #[.int .u8 0, .int .i64 0, .string ⟨#[]⟩], .agg #[.int .u8 0, .int .i64 0, .string ⟨#[]⟩], .agg #[.int .u8 0, .int .i64 0, .string ⟨#[]⟩]] wx fun e w' => e = .returned (.bool true) ∧ Below wx.heap.size wx w') := fun wx => by
    have := is_any wx 9 nullV nullV nullV nullV_wf nullV_wf
    rw [ex5] at this; exact this
  have J6 : Hid (∀ wx : World, Calls Tryd.prog 5 #[.int .u8 9, .agg #[.int .u8 2, .int .i64 1, .string ⟨#[]⟩], .agg #[.int .u8 1, .int .i64 1, .string ⟨#[]⟩], .int .i64 220] wx fun e w' => e = .returned (.bool true) ∧ Below wx.heap.size wx w') := fun wx => by
    have := fails_any wx 9 (numV (1)) (tv true) 220 (numV_wf ⟨by decide, by decide⟩) (tv_wf _)
    rw [ex6] at this; exact this
  have J7 : Hid (∀ wx : World, Calls Tryd.prog 6 #[.int .u8 11, .agg #[.int .u8 3, .int .i64 0, .string ⟨#[97]⟩], .agg #[.int .u8 3, .int .i64 0, .string ⟨#[98]⟩], .agg #[.int .u8 1, .int .i64 1, .string ⟨#[]⟩]] wx fun e w' => e = .returned (.bool true) ∧ Below wx.heap.size wx w') := fun wx => by
    have := is_any wx 11 (⟨3, 0, ⟨#[97]⟩⟩ : Val) (⟨3, 0, ⟨#[98]⟩⟩ : Val) (tv true) ⟨by decide, by decide, by decide, by decide, by decide⟩ ⟨by decide, by decide, by decide, by decide, by decide⟩
    rw [ex7] at this; exact this
  have DO := hide (fun (wx : World) (v : Value) (h : ValsIn wx v [numV 1]) => do_any wx 3 v _ h)
  obtain ⟨RV, hRV⟩ : ∃ RV, RV = (doR 3 [numV 1]).1 := ⟨_, rfl⟩
  rw [show doR 3 [numV 1] = (RV, 2) from by rw [hRV, ← exD]] at DO
  clear hRV
  have G1 := hide (fun (wx : World) (v : Value) (h : KindsIn wx v [0, 2]) => gives_any wx 9 v _ h)
  rw [exK1.1, exK1.2] at G1
  have G2 := hide (fun (wx : World) (v : Value) (h : KindsIn wx v [0, 0]) => gives_any wx 8 v _ h)
  rw [exK2.1, exK2.2] at G2
  have G3 := hide (fun (wx : World) (v : Value) (h : KindsIn wx v [1, 0]) => gives_any wx 3 v _ h)
  obtain ⟨KV, hKV⟩ : ∃ KV, KV = givesK 3 [1, 0] := ⟨_, rfl⟩
  rw [← hKV, exK3] at G3
  clear hKV
  have L1 : Hid (∀ wx : World, Tabs wx → Calls Tryd.prog 11 #[.agg #[.int .u8 3, .int .i64 0, .string ⟨#[105, 116, 39, 115]⟩]] wx fun e w' => e = .returned (.tuple #[.string ⟨#[39, 105, 116, 39, 39, 115, 39]⟩, .int .i64 0]) ∧ Below wx.heap.size wx w') := fun wx hx => lit_is (v := ⟨3, 0, ⟨#[105, 116, 39, 115]⟩⟩) exL1 exL1b ⟨by decide, by decide, by decide, by decide, by decide⟩ wx hx
  have L2 : Hid (∀ wx : World, Tabs wx → Calls Tryd.prog 11 #[.agg #[.int .u8 2, .int .i64 (-5), .string ⟨#[]⟩]] wx fun e w' => e = .returned (.tuple #[.string ⟨#[45, 53]⟩, .int .i64 0]) ∧ Below wx.heap.size wx w') := fun wx hx => lit_is (v := numV (-5)) (by decide +kernel) exL2b (numV_wf ⟨by decide, by decide⟩) wx hx
  have L3 : Hid (∀ wx : World, Tabs wx → Calls Tryd.prog 11 #[.agg #[.int .u8 1, .int .i64 1, .string ⟨#[]⟩]] wx fun e w' => e = .returned (.tuple #[.string ⟨#[84, 82, 85, 69]⟩, .int .i64 0]) ∧ Below wx.heap.size wx w') := fun wx hx => lit_is (v := tv true) (by decide +kernel) exL3b (tv_wf _) wx hx
  have LV := hide (fun wx => lives_any wx)
  have B0 : Below w.heap.size w w := Below.refl _ _
  go_enter Tryd.func3, Tryd.ntmps3
  go_upto_region 3 with (first
    | (go_at_call 4; refine (NB.out _ _).mono ?_; rintro e wz ⟨rfl, hz⟩; replace B0 := B0.trans (hz.mono B0.size); clear hz))
  go_cut [4] from 22 to 41 (fun z wx => z = .bool true ∧ Below w.heap.size w wx)
  case first =>
    have Ll : Cel ((wz.alloc (.cells #[.int .u8 2, .int .i64 (-9223372036854775808), .string ⟨#[]⟩] 24)).alloc (.cells #[.int .u8 2, .int .i64 9223372036854775807, .string ⟨#[]⟩] 24)).drew wz.heap.size (numV (-9223372036854775808)) := ((Cel.at (v := numV (-9223372036854775808)) rfl rfl rfl rfl).alloc _).drew
    have Lm : Cel ((wz.alloc (.cells #[.int .u8 2, .int .i64 (-9223372036854775808), .string ⟨#[]⟩] 24)).alloc (.cells #[.int .u8 2, .int .i64 9223372036854775807, .string ⟨#[]⟩] 24)).drew (wz.heap.size + 1) (numV 9223372036854775807) := (Cel.at (v := numV 9223372036854775807) (by simp) rfl rfl rfl).drew
    have BC := (bmore (bmore B0 (.cells #[.int .u8 2, .int .i64 (-9223372036854775808), .string ⟨#[]⟩] 24)) (.cells #[.int .u8 2, .int .i64 9223372036854775807, .string ⟨#[]⟩] 24)).drew
    clear B0 J4 J5 J6 J7 L1 L2 L3 G1 G2 G3 DO LV TB XB hT
    go_region_held3 (fun w' => (w'.cell? ⟨wz.heap.size, 0, none⟩ = some (.int .u8 2) ∧ w'.cell? ⟨wz.heap.size, 1, none⟩ = some (.int .i64 (-9223372036854775808)) ∧ w'.cell? ⟨wz.heap.size, 2, none⟩ = some (.string ⟨#[]⟩)) ∧ w'.cell? ⟨wz.heap.size + 1, 0, none⟩ = some (.int .u8 2) ∧ w'.cell? ⟨wz.heap.size + 1, 1, none⟩ = some (.int .i64 9223372036854775807) ∧ w'.cell? ⟨wz.heap.size + 1, 2, none⟩ = some (.string ⟨#[]⟩))
      (exact ⟨⟨Ll.k, Ll.n, Ll.t⟩, Lm.k, Lm.n, Lm.t⟩)
      (first
        | (go_at_call 4; refine (NB.out _ _).mono ?_; rintro e wv ⟨rfl, hz⟩; replace Ll := Ll.later hz; replace Lm := Lm.later hz; replace BC := bthen BC hz; clear hz)
        | (go_at_call 5; have tk := J0.out; refine (tk _).mono ?_; rintro e wv ⟨rfl, hz⟩; replace Ll := Ll.later hz; replace Lm := Lm.later hz; replace BC := bthen BC hz; clear hz; clear tk J0)
        | (go_at_call 5; have tk := J2.out; refine (tk _).mono ?_; rintro e wv ⟨rfl, hz⟩; replace Ll := Ll.later hz; replace Lm := Lm.later hz; replace BC := bthen BC hz; clear hz; clear tk J2)
        | (go_at_call 6; have tk := J1.out; refine (tk _).mono ?_; rintro e wv ⟨rfl, hz⟩; replace Ll := Ll.later hz; replace Lm := Lm.later hz; replace BC := bthen BC hz; clear hz; clear tk J1)
        | (go_at_call 6; have tk := J3.out; refine (tk _).mono ?_; rintro e wv ⟨rfl, hz⟩; replace Ll := Ll.later hz; replace Lm := Lm.later hz; replace BC := bthen BC hz; clear hz; clear tk J3))
    all_goals
      go_wp2_with (fail)
      go_meet
      case rel => exact ⟨rfl, BC⟩
  case rest =>
    obtain ⟨rfl, BR⟩ := hcut
    clear B0 J0 J1 J2 J3
    have W1 : (numV 1).wf := numV_wf ⟨by decide, by decide⟩
    go_wp2_with (first
      | (go_at_call 8; have tk := TK; refine (XB.out _ _).mono ?_; rintro e wv ⟨rfl, hz⟩; replace BR := bthen (bmore (bmore (bmore (bmore BR _) _) _) _) hz; clear hz tk TK)
      | (go_at_call 4; refine (NB.out _ _).mono ?_; rintro e wv ⟨rfl, hz⟩; replace BR := bthen BR hz; clear hz)
      | (go_at_call 7; refine (TB.out _ _).mono ?_; rintro e wv ⟨rfl, hz⟩; replace BR := bthen BR hz; clear hz)
      | (go_at_call 8; refine (XB.out _ _).mono ?_; rintro e wv ⟨rfl, hz⟩; replace BR := bthen BR hz; clear hz)
      | (go_at_call 6; have tk := J4.out; refine (tk _).mono ?_; rintro e wv ⟨rfl, hz⟩; replace BR := bthen BR hz; clear hz; clear tk J4)
      | (go_at_call 6; have tk := J5.out; refine (tk _).mono ?_; rintro e wv ⟨rfl, hz⟩; replace BR := bthen BR hz; clear hz; clear tk J5)
      | (go_at_call 5; have tk := J6.out; refine (tk _).mono ?_; rintro e wv ⟨rfl, hz⟩; replace BR := bthen BR hz; clear hz; clear tk J6)
      | (go_at_call 6; have tk := J7.out; refine (tk _).mono ?_; rintro e wv ⟨rfl, hz⟩; replace BR := bthen BR hz; clear hz; clear tk J7)
      | (go_at_call 9; refine (DO.out _ _ (one_in _ (numV 1) W1 rfl)).mono ?_; rintro e wv ⟨rfl, hz⟩; replace BR := bthen (bmore BR _) hz; have TK : Hid True := trivial; clear hz)
      | (go_at_call 10; have tk := G1.out; refine still (tk _ _ (kinds_lit _ _ _ ?hB1)) ?_; (simp); clear tk G1)
      | (go_at_call 10; have tk := G2.out; refine still (tk _ _ (kinds_lit _ _ _ ?hB2)) ?_; (simp); clear tk G2)
      | (go_at_call 10; have tk := G3.out; refine still (tk _ _ (kinds_lit _ _ _ ?hB3)) ?_; (simp); clear tk G3)
      | (go_at_call 11; have tk := L1.out; refine (tk _ (hT.later BR)).mono ?_; rintro e wv ⟨rfl, hz⟩; replace BR := bthen BR hz; clear hz; clear tk L1)
      | (go_at_call 11; have tk := L2.out; refine (tk _ (hT.later BR)).mono ?_; rintro e wv ⟨rfl, hz⟩; replace BR := bthen BR hz; clear hz; clear tk L2)
      | (go_at_call 11; have tk := L3.out; refine (tk _ (hT.later BR)).mono ?_; rintro e wv ⟨rfl, hz⟩; replace BR := bthen BR hz; clear hz; clear tk L3)
      | (go_at_call 12; refine (LV.out _).mono ?_; rintro e wv ⟨rfl, hz⟩; replace BR := bthen BR hz; clear hz))
    go_ret
    exact ⟨rfl, BR⟩
end Go.Proofs.YtoaliblndieaiaaDoor
