/-
  Proved: the call FrameNames() returns true: the layer's numbers are as told, and the chapter's examples hold.
  Conditions: none.
-/
import Derived.Test.YtmhehohiodggcaaKFrame
import Derived.Test.YtmhehohiodggcaaFLives
import Derived.Test.YtmhehohiodggcaaFScan
import Derived.Lib.SlBytesConst
namespace Go.Proofs.Ytmhehohiodggcaa.frameNames
open Go.ChangeShapes Go.WideShapes Go.ChangeAt Go.RowKit
open Go.Proofs.Ytmhehohiodggcaa

theorem read7 : rdE (noneB.take 7) = 4 := by decide +kernel
theorem read11 : rdE (noneB.take 11) = 4 := by decide +kernel
theorem read1 : rdE (noneB.set 0 1) = 6 := by decide +kernel
theorem scan25 : scn ((noneB ++ frm [97, 98]).take 25) = ([[]], 12, 4) := by decide +kernel

set_option maxHeartbeats 4000000 in
theorem walk (w : World) : Calls Try.prog 3 #[] w fun e w' => e = .returned (.bool true) ∧ Below w.heap.size w w' := by
  have kc := fun (w : World) (C : Array Value) (n c : Nat) => Lib.run_convert_bytes_const (P := Try.prog) w 22 5 C n c Try.underlying22 Try.underlying5
  have EM : Hid (∀ wx, Calls Try.prog 9 #[] wx fun e w' => ∃ g, e = .returned (.slice (some ⟨g, 0, none⟩) 12 12) ∧ Below wx.heap.size wx w' ∧ w'.ownsRow wx.heap.size 5 1 (.slice (some ⟨g, 0, none⟩) 12 12) 12 (bc noneB)) := fun wx => by
    refine (empty_any wx).mono ?_
    rintro e w' ⟨rfl, hx⟩
    exact ⟨_, rfl, hx.below (Nat.le_refl _) (by simp [Value.ownBlock]), hx.own⟩
  have RD : Hid (∀ (m : List UInt8) (n : Nat) (E : Int), n = m.length → rdE m = E → n ≤ 12 → ∀ wx g, BytesIn wx (.slice (some ⟨g, 0, none⟩) n 12) m → Calls Try.prog 10 #[.slice (some ⟨g, 0, none⟩) n 12] wx fun e w' => ∃ v k, e = .returned (.tuple #[v, .int .i64 k, .int .i64 E]) ∧ Below wx.heap.size wx w') := fun m n E hn hE h12 wx g h => by
    subst hn
    refine (fread_any wx (some ⟨g, 0, none⟩) 12 m h h12).mono ?_
    rintro e w' ⟨v, rfl, hx⟩
    rw [hE]
    exact ⟨v, _, rfl, hx.below (Nat.le_refl _) (by simp [Value.ownBlock])⟩
  have P7 : Hid (∀ wx base g, wx.ownsRow base 5 1 (.slice (some ⟨g, 0, none⟩) 12 12) 12 (bc noneB) → BytesIn wx (.slice (some ⟨g, 0, none⟩) 7 12) (noneB.take 7) ∧ BytesIn wx (.slice (some ⟨g, 0, none⟩) 11 12) (noneB.take 11)) := fun wx base g h => by
    have hb := bytes_of_own (l := noneB) h (by decide)
    exact ⟨hb.cut 7 (by decide) 12, hb.cut 11 (by decide) 12⟩
  have AB : Hid (∀ wx base g, wx.ownsRow base 5 1 (.slice (some ⟨g, 0, none⟩) 12 12) 12 (bc noneB) → Calls Try.prog 11 #[.slice (some ⟨g, 0, none⟩) 12 12, .slice (some ⟨wx.heap.size, 0, none⟩) 2 2] (wx.alloc (.cells #[.int .u8 97, .int .u8 98] 5 (2, 3))) fun e w' => ∃ g' cap, e = .returned (.tuple #[.slice (some ⟨g', 0, none⟩) 26 cap, .int .i64 0]) ∧ Below wx.heap.size wx w' ∧ BytesIn w' (.slice (some ⟨g', 0, none⟩) 25 cap) ((noneB ++ frm [97, 98]).take 25) ∧ 26 ≤ cap) := fun wx base g h => by
    have h2 : BytesIn (wx.alloc (.cells #[.int .u8 97, .int .u8 98] 5 (2, 3))) (.slice (some ⟨wx.heap.size, 0, none⟩) 2 2) [97, 98] := by
      refine BytesIn.block (heap_alloc_new wx _) [97, 98] (by decide) ?_ 2 2 rfl
      intro j hj
      rcases (by simp at hj; omega : j = 0 ∨ j = 1) with rfl | rfl <;> rfl
    refine (fappend_any _ (some ⟨g, 0, none⟩) (some ⟨wx.heap.size, 0, none⟩) 12 2 noneB [97, 98] (bytes_of_own (h.alloc _) (by decide)) h2 (fun e => by cases e) (by decide) (by decide)).mono ?_
    rintro e w' ⟨g', cap, rfl, hx⟩
    have hb := (Below.refl wx.heap.size wx).alloc (Nat.le_refl _) (.cells #[.int .u8 97, .int .u8 98] 5 (2, 3))
    exact ⟨g', cap, rfl, hb.trans ((hx.below (Nat.le_refl _) (by simp [Value.ownBlock])).mono hb.size), (bytes_of_own hx.own (by decide)).cut 25 (by decide) cap, (own_cap hx.own).1⟩
  have SN : Hid (∀ wx g cap, BytesIn wx (.slice (some ⟨g, 0, none⟩) 25 cap) ((noneB ++ frm [97, 98]).take 25) → 26 ≤ cap → Calls Try.prog 12 #[.slice (some ⟨g, 0, none⟩) 25 cap] wx fun e w' => ∃ a c, e = .returned (.tuple #[.slice a 1 c, .int .i64 12, .int .i64 4]) ∧ Below wx.heap.size wx w') := fun wx g cap h hc => by
    refine (fscan_any wx (some ⟨g, 0, none⟩) cap ((noneB ++ frm [97, 98]).take 25) h (Nat.le_trans (by decide) hc) (by decide)).mono ?_
    rintro e w' ⟨v, vs, rfl, hR, hb⟩
    rw [scan25] at *
    obtain ⟨a, c, rfl, _, _⟩ := hR.shape
    exact ⟨a, c, rfl, hb⟩
  have MK := make_bytes 1048577 (by decide) 1048577 rfl
  have AL : Hid (∀ wx a c, Calls Try.prog 11 #[.slice none 0 0, .slice a 1048577 c] wx fun e w' => e = .returned (.tuple #[.slice none 0 0, .int .i64 3]) ∧ w' = wx) := fun wx a c => fappend_long wx _ a c 1048577 (by decide)
  go_enter Try.func3, Try.ntmps3
  go_wp2_with (first
    | (go_at_call 9; have tok := P7; refine (EM.out _).mono ?_; rintro e w1 ⟨g1, rfl, B1, O1⟩; have V1 := P7.out _ _ _ O1; clear tok P7)
    | (go_at_call 10; have g := RD.out (noneB.take 7) 7 4 rfl read7 (by decide) _ _ V1.1; refine g.mono ?_; rintro e w2 ⟨v2, k2, rfl, b2⟩; have V2 := V1.2.later b2; have O2 := own_later O1 b2; have B2 := B1.trans (b2.mono B1.size); clear g V1 O1 b2)
    | (go_at_call 10; have g := RD.out (noneB.take 11) 11 4 rfl read11 (by decide) _ _ V2; refine g.mono ?_; rintro e w3 ⟨v3, k3, rfl, b3⟩; have O3 := own_later O2 b3; have B3 := B2.trans (b3.mono B2.size); clear g V2 O2 b3; have c3 := O3.cellAt 0 (by decide); have f3 := O3.frozenAt 0; have T3 : BytesIn (w3.setCell ⟨g1, 0, none⟩ (.int .u8 1)) (.slice (some ⟨g1, 0, none⟩) 12 12) (noneB.set 0 1) := bytes_of_own (O3.stored 0 (.int .u8 1)).1 (by decide); have zg := O3.lt g1 rfl; have S3 := B3.setCell (p := ⟨g1, 0, none⟩) zg.1 (.int .u8 1))
    | (go_at_call 10; have g := RD.out (noneB.set 0 1) 12 6 rfl read1 (by decide) _ _ T3; refine g.mono ?_; rintro e w4 ⟨v4, k4, rfl, b4⟩; have B4 := S3.trans (b4.mono S3.size); clear g T3 S3 O3 b4 B3)
    | (go_at_call 9; have tok := B4; refine (EM.out _).mono ?_; rintro e w5 ⟨g5, rfl, b5, O5⟩; have B5 := B4.trans (b5.mono B4.size); clear tok EM b5)
    | (go_at_call 11; have g := AB.out _ _ _ O5; refine g.mono ?_; rintro e w6 ⟨g6, cap6, rfl, b6, V6, y6⟩; have B6 := B5.trans (b6.mono B5.size); have i6 : (25 : Int) ≤ (cap6 : Int) := (by omega); have Y6 : Hid (26 ≤ cap6) := y6; clear g AB b6 O5 y6)
    | (go_at_call 12; refine (SN.out _ _ _ V6 Y6.out).mono ?_; rintro e w7 ⟨a7, c7, rfl, b7⟩; have B7 := B6.trans (b7.mono B6.size); have K7 := B7.alloc B7.size (.cells (zeros 1048577) 5); clear SN b7 V6)
    | (go_at_call 11; have g := K7; refine (AL.out _ _ _).mono ?_; rintro e w8 ⟨rfl, rfl⟩; clear g AL)
    | (go_at_call 13; refine (lives_any _).mono ?_; rintro e w9 ⟨rfl, b9⟩; have B9 := K7.trans (b9.mono K7.size); clear b9))
  go_ret
  exact ⟨rfl, B9⟩
set_option maxRecDepth 100000 in
theorem lifted (os : Os) (started : os.Started) (H : Type) (enc : TypeId × Value → H) :
    ReturnsInHanded {} Try.checked os 3 .any (Rows.frameNamesSpec.pre6 enc Try.prog Try.f3 Rows.frameNamesRow.domain false) (Rows.frameNamesSpec.post enc Try.prog Try.f3 false true false false) := by
  refine returnsInHanded_of_change (C := Try.checked) own started (by kernel_rfl) Try.func3
    (ChangeSpec.witness6 (enc := enc) (C := Try.checked) false ⟨#[], #[], []⟩ 8 (by kernel_rfl) (by kernel_rfl) (by kernel_rfl) (by kernel_rfl)) ?_
  intro W base args ds gs before hval0 hW hcnd _
  have hW' := hW
  obtain ⟨p, q, hA0, hV, rfl, hfz, hnd⟩ := hW
  have hA : DataW.TrodAll enc Try.prog W 0 (fun _ => true) true Try.f3.params.toList args.toList ds p := hA0
  rw [Try.params3] at hA
  obtain ⟨hargs, rfl, rfl⟩ := trodAll_nil hA
  obtain rfl : args = #[] := by cases args; simp_all
  obtain ⟨rfl, rfl⟩ := trodVars_none hV
  clear hA0 hval0
  simp only [List.append_nil] at hW'
  refine (walk W).mono fun e W' ⟨he, bel⟩ => ?_
  subst he
  exact ⟨_, rfl, _, _, _, [], [], [], hW', trodAll_mk1 (shut_bool Try.underlying4 _), trodAll_mk0, rfl, bel.frame _, fun h => by cases h⟩

theorem over : Rows.frameNamesRow.holds Try.pinned (OpenSpec.ofChange Rows.frameNamesSpec) :=
  OpenClaim.holds_of_wide 3 Try.f3 rfl rfl rfl rfl rfl rfl rfl ⟨rfl, rfl, rfl, rfl, rfl⟩ rfl rfl rfl rfl rfl (by kernel_rfl) Try.func3 (by kernel_rfl)
    (of_decide_eq_true (by kernel_rfl)) (by unfold Func.isWrapper; first | (rw [if_pos (by decide +kernel)]; kernel_rfl) | (rw [if_neg (by decide +kernel)]; exact ⟨rfl, rfl⟩))
    (fun os started H enc _ => lifted os started H enc)
end Go.Proofs.Ytmhehohiodggcaa.frameNames

namespace Go.Proofs.Ytmhehohiodggcaa
/-- THE STATEMENT. -/
theorem frameNames_holds : Rows.FrameNamesSaid := frameNames.over
#print axioms frameNames_holds
end Go.Proofs.Ytmhehohiodggcaa
