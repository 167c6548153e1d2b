/-
  The statements' own first question: the chapter's first examples hold, so it answers true; it leaves all that was there as it was.
-/
import Derived.Test.YtmhehohiodggcaaFAppend
import Derived.Test.YtmhehohiodggcaaFRead
import Derived.Test.YtmhehohiodggcaaKSame
namespace Go.Proofs.Ytmhehohiodggcaa
open Go.RowKit

def noneB : List UInt8 := [0, 0, 0, 0, 199, 75, 103, 72, 0, 0, 0, 0]
theorem noneB_frm : frm [] = noneB := by decide +kernel
theorem noneB_read : rdE noneB = 0 ∧ rdR noneB = [] ∧ rdN noneB = 12 := by
  have := read_frm [] [] (by decide)
  rw [List.append_nil, noneB_frm] at this
  exact this

theorem empty_any (w : World) : Calls Try.prog 9 #[] w fun e w' => e = .returned (.slice (some ⟨w.heap.size, 0, none⟩) 12 12) ∧ Ext w.heap.size w (.slice none 0 0) w' (.slice (some ⟨w.heap.size, 0, none⟩) 12 12) noneB := by
  go_enter Try.func9, Try.ntmps9
  go_wp2_with (fail)
  go_ret
  exact ⟨rfl, Ext.lit0 w.heap.size w _ noneB 12 (Nat.le_refl _) rfl rfl (by decide)⟩

theorem nil_bytes (w : World) : BytesIn w (.slice none 0 0) [] := ⟨⟨none, 0, rfl, fun h => absurd rfl h⟩, by decide⟩

set_option maxHeartbeats 1600000 in
theorem lives_any (w : World) : Calls Try.prog 13 #[] w fun e w' => e = .returned (.bool true) ∧ Below w.heap.size w w' := by
  have AP : Hid (Calls Try.prog 11 #[.slice none 0 0, .slice none 0 0] w fun e w' => ∃ g cap, e = .returned (.tuple #[.slice (some ⟨g, 0, none⟩) 12 cap, .int .i64 0]) ∧ Below w.heap.size w w' ∧ BytesIn w' (.slice (some ⟨g, 0, none⟩) 12 cap) noneB) := by
    refine (fappend_any w none none 0 0 [] [] (nil_bytes w) (nil_bytes w) (fun _ => rfl) (by decide) (by decide)).mono ?_
    rintro e w' ⟨g, cap, rfl, hx⟩
    rw [List.nil_append, noneB_frm] at hx
    exact ⟨g, cap, rfl, hx.below (Nat.le_refl _) (by simp [Value.ownBlock]), bytes_of_own hx.own (by decide)⟩
  have EM : Hid (∀ wx, Calls Try.prog 9 #[] wx fun e w' => ∃ g, e = .returned (.slice (some ⟨g, 0, none⟩) 12 12) ∧ Below wx.heap.size wx w' ∧ BytesIn w' (.slice (some ⟨g, 0, none⟩) 12 12) noneB) := fun wx => by
    refine (empty_any wx).mono ?_
    rintro e w' ⟨rfl, hx⟩
    exact ⟨_, rfl, hx.below (Nat.le_refl _) (by simp [Value.ownBlock]), bytes_of_own hx.own (by decide)⟩
  have RD : Hid (∀ wx g, BytesIn wx (.slice (some ⟨g, 0, none⟩) 12 12) noneB → Calls Try.prog 10 #[.slice (some ⟨g, 0, none⟩) 12 12] wx fun e w' => ∃ a c, e = .returned (.tuple #[.slice a 0 c, .int .i64 12, .int .i64 0]) ∧ Below wx.heap.size wx w') := fun wx g hg => by
    refine (fread_any wx (some ⟨g, 0, none⟩) 12 noneB hg (by decide)).mono ?_
    rintro e w' ⟨v, rfl, hx⟩
    rw [noneB_read.1, noneB_read.2.1, noneB_read.2.2] at *
    obtain ⟨a, c, rfl⟩ := hx.shape
    exact ⟨a, c, rfl, hx.below (Nat.le_refl _) (by simp [Value.ownBlock])⟩
  have SB : Hid (∀ wx v v', BytesIn wx v noneB → BytesIn wx v' noneB → Calls Try.prog 17 #[v, v'] wx fun e w' => e = .returned (.bool true) ∧ Below wx.heap.size wx w') := fun wx v v' h h' => by
    have := same_any wx v v' _ _ h h'
    rwa [decide_eq_true rfl] at this
  go_enter Try.func13, Try.ntmps13
  go_wp2_with (first
    | (go_at_call 11; refine AP.out.mono ?_; rintro e w1 ⟨g1, cap1, rfl, B1, V1⟩; clear AP)
    | (go_at_call 9; have tok := V1; refine (EM.out _).mono ?_; rintro e w2 ⟨g2, rfl, b2, V2⟩; have B2 := B1.trans (b2.mono B1.size); have U2 := V1.later b2; clear V1 tok b2)
    | (go_at_call 10; refine (RD.out _ _ V2).mono ?_; rintro e w3 ⟨a3, c3, rfl, b3⟩; have B3 := B2.trans (b3.mono B2.size); have U3 := U2.later b3; clear V2 U2 b3 RD)
    | (go_at_call 9; have tok := U3; refine (EM.out _).mono ?_; rintro e w4 ⟨g4, rfl, b4, V4⟩; have B4 := B3.trans (b4.mono B3.size); have U4 := U3.later b4; clear U3 tok b4)
    | (go_at_call 17; refine (SB.out _ _ _ U4 V4).mono ?_; rintro e w5 ⟨rfl, b5⟩; have B5 := B4.trans (b5.mono B4.size); clear SB b5 U4 V4))
  go_ret
  exact ⟨rfl, B5⟩
end Go.Proofs.Ytmhehohiodggcaa
