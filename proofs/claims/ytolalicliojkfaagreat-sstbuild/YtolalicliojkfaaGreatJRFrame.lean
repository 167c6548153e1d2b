/-
  Frames by their definition: the document's answer for a record's frame, and for bytes with a frame behind them.
-/
import Derived.Test.YtolalicliojkfaaGreatSC
import Derived.Test.YtolalicliojkfaaGreatJRSealed
import Derived.Test.YtolalicliojkfaaGreatSB
namespace Go.Proofs.YtolalicliojkfaaGreat
open Go.RowKit

set_option maxHeartbeats 1600000 in
theorem refFrame_any (w : World) (a1 : Option Addr) (c1 : Nat) (r : List UInt8) (h1 : BytesIn w (.slice a1 r.length c1) r) (n1 : a1 = none → c1 = 0) (hr : r.length ≤ 1048576) :
    Calls Tryz.prog 32 #[.slice a1 r.length c1] w fun e w' => ∃ g cap, e = .returned (.slice (some ⟨g, 0, none⟩) (r.length + 12) cap) ∧ Ext w.heap.size w (.slice none 0 0) w' (.slice (some ⟨g, 0, none⟩) (r.length + 12) cap) (frm r) := by
  obtain ⟨q, hq⟩ : ∃ q, q = Crc.le4 r.length := ⟨_, rfl⟩
  have lq : q.length = 4 := by rw [hq]; rfl
  have SE : Hid (∀ x0 x1 x2 x3 : Int, x0 = (r.length : Int) % 256 → x1 = (r.length : Int) / 256 % 256 → x2 = (r.length : Int) / 65536 % 256 → x3 = (r.length : Int) / 16777216 → Calls Tryz.prog 68 #[.slice (some ⟨w.heap.size, 0, none⟩) 4 4] (w.alloc (.cells #[.int .u8 x0, .int .u8 x1, .int .u8 x2, .int .u8 x3] 5)) fun e w' => ∃ g cap, e = .returned (.slice (some ⟨g, 0, none⟩) 8 cap) ∧ Ext w.heap.size w (.slice none 0 0) w' (.slice (some ⟨g, 0, none⟩) 8 cap) (sealB q)) := fun x0 x1 x2 x3 e0 e1 e2 e3 => by
    have hL := Ext.lit0 w.heap.size w #[.int .u8 x0, .int .u8 x1, .int .u8 x2, .int .u8 x3] q 4 (Nat.le_refl _) (by rw [hq, bc_le4 _ (by omega), e0, e1, e2, e3]) lq.symm (by decide)
    have := refSealed_any (w.alloc (.cells #[.int .u8 x0, .int .u8 x1, .int .u8 x2, .int .u8 x3] 5)) (some ⟨w.heap.size, 0, none⟩) 4 q (by rw [lq]; exact bytes_of_own hL.own (by omega)) (fun e => by cases e) (by omega)
    rw [lq] at this
    refine this.mono ?_
    rintro e w' ⟨g, cap, rfl, hx⟩
    exact ⟨g, cap, rfl, (⟨own_base hx.own (by simp), hx.grown, hx.lies⟩ : Ext w.heap.size _ _ _ _ _).unalloc⟩
  have SR : Hid (∀ wx, Below w.heap.size w wx → Calls Tryz.prog 68 #[.slice a1 r.length c1] wx fun e w' => ∃ g cap, e = .returned (.slice (some ⟨g, 0, none⟩) (r.length + 4) cap) ∧ Ext wx.heap.size wx (.slice none 0 0) w' (.slice (some ⟨g, 0, none⟩) (r.length + 4) cap) (sealB r) ∧ BytesIn w' (.slice (some ⟨g, 0, none⟩) (r.length + 4) cap) (sealB r)) := fun wx hw => by
    refine (refSealed_any wx a1 c1 r (h1.later hw) n1 (by omega)).mono ?_
    rintro e w' ⟨g, cap, rfl, hx⟩
    exact ⟨g, cap, rfl, hx, bytes_of_own hx.own (by rw [sealB_length]; omega)⟩
  have M1 : Hid ((sealB q).length = 8) := by show _ = _; rw [sealB_length, lq]
  have M2 : Hid ((sealB r).length = r.length + 4) := sealB_length r
  have FE : Hid (sealB q ++ sealB r = frm r) := by show _ = _; unfold frm; rw [hq]
  have Y2 : Hid ((sealB q).length + (sealB r).length ≤ 140737488355328) := by show _ ≤ _; rw [M1.out, M2.out]; omega
  have Y4 : Hid (∀ L, L = (sealB q ++ sealB r).length → L = r.length + 12) := fun L e => by rw [e, List.length_append, M1.out, M2.out]; omega
  have HR : Hid (r.length + 4 = (sealB r).length) := M2.out.symm
  have HQ : Hid (8 = (sealB q).length) := M1.out.symm
  have O8 : Hid (∀ (wx : World) (g cap : Nat), wx.ownsRow w.heap.size 5 1 (.slice (some ⟨g, 0, none⟩) 8 cap) (sealB q).length (bc (sealB q)) → wx.ownsRow w.heap.size 5 1 (.slice (some ⟨g, 0, none⟩) 8 cap) 8 (bc (sealB q))) := fun wx g cap h => by rw [M1.out] at h; exact h
  clear h1 hq lq
  go_enter Tryz.func32, Tryz.ntmps32
  go_wp2_with (first
    | (go_at_call 68; refine (SE.out _ _ _ _ (by first | rfl | omega) (by first | rfl | omega) (by first | rfl | omega) (by first | rfl | omega)).mono ?_; rintro e w1 ⟨g1, cap1, rfl, x1⟩; have B1 := x1.below (Nat.le_refl _) (by simp [Value.ownBlock]); clear SE)
    | (go_at_call 68; refine (SR.out _ B1).mono ?_; rintro e w2 ⟨g2, cap2, rfl, x2, V2⟩; have R2 := x1.beside x2; have O2 := O8.out _ _ _ R2.own; have z2 := R2.size; clear SR x2 x1 O8)
    | (at_builtin; refine wpList_app_bytes _ rfl _ _ rfl w.heap.size g1 cap1 (sealB q) (sealB r) 8 (r.length + 4) cap2 HQ.out HR.out rfl O2 _ rfl V2 (fun e => by cases e) Y2.out z2 ?_; intro g3 cap3 L3 w3 HL3 x3; have R3 := R2.trans x3; clear R2 x3 O2 V2))
  go_ret
  have e := Y4.out _ HL3.out
  subst e
  rw [FE.out] at R3
  exact ⟨g3, cap3, rfl, R3⟩

end Go.Proofs.YtolalicliojkfaaGreat
