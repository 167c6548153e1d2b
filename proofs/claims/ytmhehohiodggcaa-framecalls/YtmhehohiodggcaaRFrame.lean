/-
  Frames by their definition: the document's answer for a record's frame, and for bytes with a frame behind them.
-/
import Derived.Test.YtmhehohiodggcaaKApp
import Derived.Test.YtmhehohiodggcaaRSealed
import Derived.Test.YtmhehohiodggcaaFrm
namespace Go.Proofs.Ytmhehohiodggcaa
open Go.RowKit

set_option maxHeartbeats 1600000 in
theorem refFrame_any (w : World) (a1 : Option Addr) (c1 : Nat) (r : List UInt8) (h1 : BytesIn w (.slice a1 r.length c1) r) (n1 : a1 = none → c1 = 0) (hr : r.length ≤ 1048576) :
    Calls Try.prog 35 #[.slice a1 r.length c1] w fun e w' => ∃ g cap, e = .returned (.slice (some ⟨g, 0, none⟩) (r.length + 12) cap) ∧ Ext w.heap.size w (.slice none 0 0) w' (.slice (some ⟨g, 0, none⟩) (r.length + 12) cap) (frm r) := by
  obtain ⟨q, hq⟩ : ∃ q, q = Crc.le4 r.length := ⟨_, rfl⟩
  have lq : q.length = 4 := by rw [hq]; rfl
  have SE : Hid (∀ x0 x1 x2 x3 : Int, x0 = (r.length : Int) % 256 → x1 = (r.length : Int) / 256 % 256 → x2 = (r.length : Int) / 65536 % 256 → x3 = (r.length : Int) / 16777216 → Calls Try.prog 42 #[.slice (some ⟨w.heap.size, 0, none⟩) 4 4] (w.alloc (.cells #[.int .u8 x0, .int .u8 x1, .int .u8 x2, .int .u8 x3] 5)) fun e w' => ∃ g cap, e = .returned (.slice (some ⟨g, 0, none⟩) 8 cap) ∧ Ext w.heap.size w (.slice none 0 0) w' (.slice (some ⟨g, 0, none⟩) 8 cap) (sealB q)) := fun x0 x1 x2 x3 e0 e1 e2 e3 => by
    have hL := Ext.lit0 w.heap.size w #[.int .u8 x0, .int .u8 x1, .int .u8 x2, .int .u8 x3] q 4 (Nat.le_refl _) (by rw [hq, bc_le4 _ (by omega), e0, e1, e2, e3]) lq.symm (by decide)
    have := refSealed_any (w.alloc (.cells #[.int .u8 x0, .int .u8 x1, .int .u8 x2, .int .u8 x3] 5)) (some ⟨w.heap.size, 0, none⟩) 4 q (by rw [lq]; exact bytes_of_own hL.own (by omega)) (fun e => by cases e) (by omega)
    rw [lq] at this
    refine this.mono ?_
    rintro e w' ⟨g, cap, rfl, hx⟩
    exact ⟨g, cap, rfl, (⟨own_base hx.own (by simp), hx.grown, hx.lies⟩ : Ext w.heap.size _ _ _ _ _).unalloc⟩
  have SR : Hid (∀ wx, Below w.heap.size w wx → Calls Try.prog 42 #[.slice a1 r.length c1] wx fun e w' => ∃ g cap, e = .returned (.slice (some ⟨g, 0, none⟩) (r.length + 4) cap) ∧ Ext wx.heap.size wx (.slice none 0 0) w' (.slice (some ⟨g, 0, none⟩) (r.length + 4) cap) (sealB r) ∧ BytesIn w' (.slice (some ⟨g, 0, none⟩) (r.length + 4) cap) (sealB r)) := fun wx hw => by
    refine (refSealed_any wx a1 c1 r (h1.later hw) n1 (by omega)).mono ?_
    rintro e w' ⟨g, cap, rfl, hx⟩
    exact ⟨g, cap, rfl, hx, bytes_of_own hx.own (by rw [sealB_length]; omega)⟩
  have M1 : Hid ((sealB q).length = 8) := by show _ = _; rw [sealB_length, lq]
  have M2 : Hid ((sealB r).length = r.length + 4) := sealB_length r
  have FE : Hid (sealB q ++ sealB r = frm r) := by show _ = _; unfold frm; rw [hq]
  have Y2 : Hid ((sealB q).length + (sealB r).length ≤ 140737488355328) := by show _ ≤ _; rw [M1.out, M2.out]; omega
  have Y4 : Hid (∀ L, L = (sealB q ++ sealB r).length → L = r.length + 12) := fun L e => by rw [e, List.length_append, M1.out, M2.out]; omega
  have HR : Hid (r.length + 4 = (sealB r).length) := M2.out.symm
  have HQ : Hid (8 = (sealB q).length) := M1.out.symm
  have O8 : Hid (∀ (wx : World) (g cap : Nat), wx.ownsRow w.heap.size 5 1 (.slice (some ⟨g, 0, none⟩) 8 cap) (sealB q).length (bc (sealB q)) → wx.ownsRow w.heap.size 5 1 (.slice (some ⟨g, 0, none⟩) 8 cap) 8 (bc (sealB q))) := fun wx g cap h => by rw [M1.out] at h; exact h
  clear h1 hq lq
  go_enter Try.func35, Try.ntmps35
  go_wp2_with (first
    | (go_at_call 42; refine (SE.out _ _ _ _ (by first | rfl | omega) (by first | rfl | omega) (by first | rfl | omega) (by first | rfl | omega)).mono ?_; rintro e w1 ⟨g1, cap1, rfl, x1⟩; have B1 := x1.below (Nat.le_refl _) (by simp [Value.ownBlock]); clear SE)
    | (go_at_call 42; refine (SR.out _ B1).mono ?_; rintro e w2 ⟨g2, cap2, rfl, x2, V2⟩; have R2 := x1.beside x2; have O2 := O8.out _ _ _ R2.own; have z2 := R2.size; clear SR x2 x1 O8)
    | (at_builtin; refine wpList_app_bytes _ rfl _ _ rfl w.heap.size g1 cap1 (sealB q) (sealB r) 8 (r.length + 4) cap2 HQ.out HR.out rfl O2 _ rfl V2 (fun e => by cases e) Y2.out z2 ?_; intro g3 cap3 L3 w3 HL3 x3; have R3 := R2.trans x3; clear R2 x3 O2 V2))
  go_ret
  have e := Y4.out _ HL3.out
  subst e
  rw [FE.out] at R3
  exact ⟨g3, cap3, rfl, R3⟩

theorem refAppend_long (w : World) (v : Value) (a1 : Option Addr) (c1 n : Nat) (hn : 1048576 < n) :
    Calls Try.prog 15 #[v, .slice a1 n c1] w fun e w' => e = .returned (.tuple #[.slice none 0 0, .int .i64 3]) ∧ w' = w := by
  go_enter Try.func15, Try.ntmps15
  go_wp2_with (fail)
  go_ret2
  exact ⟨rfl, rfl⟩

set_option maxHeartbeats 1600000 in
theorem refAppend_any (w : World) (a0 a1 : Option Addr) (c0 c1 : Nat) (l r : List UInt8) (h0 : BytesIn w (.slice a0 l.length c0) l) (h1 : BytesIn w (.slice a1 r.length c1) r) (n0 : a0 = none → c0 = 0) (n1 : a1 = none → c1 = 0) (hr : r.length ≤ 1048576) (hs : l.length + r.length + 12 ≤ 140737488355328) :
    Calls Try.prog 15 #[.slice a0 l.length c0, .slice a1 r.length c1] w fun e w' => ∃ g cap, e = .returned (.tuple #[.slice (some ⟨g, 0, none⟩) (l.length + r.length + 12) cap, .int .i64 0]) ∧ Ext w.heap.size w (.slice none 0 0) w' (.slice (some ⟨g, 0, none⟩) (l.length + r.length + 12) cap) (l ++ frm r) := by
  have L0 := Ext.lit0 w.heap.size w #[] [] 0 (Nat.le_refl _) rfl rfl (by decide)
  have K0 : Below w.heap.size w (w.alloc (.cells #[] 5)) := (Below.refl _ _).alloc (Nat.le_refl _) _
  have V0 := h0.later K0
  have FR : Hid (∀ wx, Below w.heap.size w wx → Calls Try.prog 35 #[.slice a1 r.length c1] wx fun e w' => ∃ g cap, e = .returned (.slice (some ⟨g, 0, none⟩) (r.length + 12) cap) ∧ Ext wx.heap.size wx (.slice none 0 0) w' (.slice (some ⟨g, 0, none⟩) (r.length + 12) cap) (frm r) ∧ BytesIn w' (.slice (some ⟨g, 0, none⟩) (r.length + 12) cap) (frm r)) := fun wx hw => by
    refine (refFrame_any wx a1 c1 r (h1.later hw) n1 hr).mono ?_
    rintro e w' ⟨g, cap, rfl, hx⟩
    exact ⟨g, cap, rfl, hx, bytes_of_own hx.own (by rw [frm_length]; omega)⟩
  have Y1 : Hid (l.length + (frm r).length ≤ 140737488355328) := by show _ ≤ _; rw [frm_length]; omega
  have Y0 : Hid (([] : List UInt8).length + l.length ≤ 140737488355328) := by show _ ≤ _; rw [List.length_nil]; omega
  have Y4 : Hid (∀ L, L = (l ++ frm r).length → L = l.length + r.length + 12) := fun L e => by rw [e, List.length_append, frm_length]; omega
  have HR : Hid (r.length + 12 = (frm r).length) := (frm_length r).symm
  clear h0 h1
  go_enter Try.func15, Try.ntmps15
  go_wp2_with (first
    | (at_builtin; refine wpList_app_bytes _ rfl _ _ rfl w.heap.size w.heap.size 0 [] l 0 l.length c0 rfl rfl rfl L0.own a0 rfl V0 n0 Y0.out K0.size ?_; intro g1 cap1 L1 w1 HL1 x1; have R1 := L0.trans x1; rw [List.nil_append] at R1 HL1; have B1 := R1.below (Nat.le_refl _) (by simp [Value.ownBlock]); clear L0 x1 V0 K0)
    | (go_at_call 35; refine (FR.out _ B1).mono ?_; rintro e w2 ⟨g2, cap2, rfl, x2, V2⟩; have R2 := R1.beside x2; have O2 : w2.ownsRow w.heap.size 5 1 (.slice (some ⟨g1, 0, none⟩) L1 cap1) L1 (bc l) := (by have := R2.own; rw [← HL1.out] at this; exact this); have z2 := R2.size; clear FR x2 R1)
    | (at_builtin; refine wpList_app_bytes _ rfl _ _ rfl w.heap.size g1 cap1 l (frm r) L1 (r.length + 12) cap2 HL1.out HR.out rfl O2 _ rfl V2 (fun e => by cases e) Y1.out z2 ?_; intro g3 cap3 L3 w3 HL3 x3; have R3 := R2.trans x3; clear R2 x3 O2 V2))
  go_ret2
  have e := Y4.out _ HL3.out
  subst e
  exact ⟨g3, cap3, rfl, R3⟩
end Go.Proofs.Ytmhehohiodggcaa
