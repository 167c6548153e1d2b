/-
  A record's frame put behind bytes: what the program's call answers, and where.
-/
import Derived.Test.YtlhnjloimhcpfabGreatDoorYL
import Derived.Test.YtlhnjloimhcpfabGreatDoorFA
import Derived.Test.YtlhnjloimhcpfabGreatDoorCA
namespace Go.Proofs.YtlhnjloimhcpfabGreatDoor
open Go.RowKit

theorem fappend_long (w : World) (v : Value) (a1 : Option Addr) (c1 n : Nat) (hn : 1048576 < n) :
    Calls Tryz.prog 31 #[v, .slice a1 n c1] w fun e w' => e = .returned (.tuple #[.slice none 0 0, .int .i64 3]) ∧ w' = w := by
  go_enter Tryz.func31, Tryz.ntmps31
  go_wp2_with (fail)
  go_ret2
  exact ⟨rfl, rfl⟩

set_option maxHeartbeats 1600000 in
theorem fappend_any (w : World) (a0 a1 : Option Addr) (c0 c1 : Nat) (l r : List UInt8) (h0 : BytesIn w (.slice a0 l.length c0) l) (h1 : BytesIn w (.slice a1 r.length c1) r) (n0 : a0 = none → c0 = 0) (hr : r.length ≤ 1048576) (hs : l.length + r.length + 12 ≤ 140737488355328) :
    Calls Tryz.prog 31 #[.slice a0 l.length c0, .slice a1 r.length c1] w fun e w' => ∃ g cap, e = .returned (.tuple #[.slice (some ⟨g, 0, none⟩) (l.length + r.length + 12) cap, .int .i64 0]) ∧ Ext w.heap.size w (.slice none 0 0) w' (.slice (some ⟨g, 0, none⟩) (l.length + r.length + 12) cap) (l ++ frm r) := by
  have MK := make_room (l.length + r.length + 12) hs ((l.length : Int) + (r.length : Int) + 12) (by omega)
  have L0 := room_ext w (l.length + r.length + 12) hs
  have K0 : Below w.heap.size w (w.alloc (.cells (zeros (l.length + r.length + 12)) 5)) := (Below.refl _ _).alloc (Nat.le_refl _) _
  have V0 := h0.later K0
  obtain ⟨q, hq⟩ : ∃ q, q = Crc.le4 r.length := ⟨_, rfl⟩
  have lq : q.length = 4 := by rw [hq]; rfl
  have SZ : Hid (∀ wx, Calls Tryz.prog 60 #[.slice a1 r.length c1] wx fun e w' => e = .returned (.slice (some ⟨wx.heap.size, 0, none⟩) 4 4) ∧ Ext wx.heap.size wx (.slice none 0 0) w' (.slice (some ⟨wx.heap.size, 0, none⟩) 4 4) q) := fun wx => by rw [hq]; exact sizeOf_any wx a1 c1 r.length hr
  have SE : Hid (∀ wx g, BytesIn wx (.slice (some ⟨g, 0, none⟩) 4 4) q → Calls Tryz.prog 59 #[.slice (some ⟨g, 0, none⟩) 4 4] wx fun e w' => e = .returned (.slice (some ⟨wx.heap.size, 0, none⟩) 8 8) ∧ Ext wx.heap.size wx (.slice none 0 0) w' (.slice (some ⟨wx.heap.size, 0, none⟩) 8 8) (sealB q) ∧ BytesIn w' (.slice (some ⟨wx.heap.size, 0, none⟩) 8 8) (sealB q)) := fun wx g hg => by
    have := sealed_any wx (some ⟨g, 0, none⟩) 4 q (by rw [lq]; exact hg) (by omega)
    rw [lq] at this
    refine this.mono ?_
    rintro e w' ⟨rfl, hx⟩
    exact ⟨rfl, hx, bytes_of_own hx.own (by rw [sealB_length]; omega)⟩
  have SR : Hid (∀ wx, Below w.heap.size w wx → Calls Tryz.prog 59 #[.slice a1 r.length c1] wx fun e w' => e = .returned (.slice (some ⟨wx.heap.size, 0, none⟩) (r.length + 4) (r.length + 4)) ∧ Ext wx.heap.size wx (.slice none 0 0) w' (.slice (some ⟨wx.heap.size, 0, none⟩) (r.length + 4) (r.length + 4)) (sealB r) ∧ BytesIn w' (.slice (some ⟨wx.heap.size, 0, none⟩) (r.length + 4) (r.length + 4)) (sealB r)) := fun wx hw => by
    refine (sealed_any wx a1 c1 r (h1.later hw) (by omega)).mono ?_
    rintro e w' ⟨rfl, hx⟩
    exact ⟨rfl, hx, bytes_of_own hx.own (by rw [sealB_length]; omega)⟩
  have M1 : Hid ((sealB q).length = 8) := by show _ = _; rw [sealB_length, lq]
  have M2 : Hid ((sealB r).length = r.length + 4) := sealB_length r
  have FE : Hid (l ++ sealB q ++ sealB r = l ++ frm r) := by show _ = _; unfold frm; rw [hq, List.append_assoc]
  have Y1 : Hid (([] : List UInt8).length + l.length ≤ 140737488355328) := by show _ ≤ _; rw [List.length_nil]; omega
  have Y2 : Hid (l.length + (sealB q).length ≤ 140737488355328) := by show _ ≤ _; rw [M1.out]; omega
  have Y3 : Hid ((l ++ sealB q).length + (sealB r).length ≤ 140737488355328) := by show _ ≤ _; rw [List.length_append, M1.out, M2.out]; omega
  have Y4 : Hid (∀ L, L = (l ++ sealB q ++ sealB r).length → L = l.length + r.length + 12) := fun L e => by rw [e, List.length_append, List.length_append, M1.out, M2.out]; omega
  have lq4 : Hid (q.length ≤ 140737488355328) := by show _ ≤ _; omega
  have HR : Hid (r.length + 4 = (sealB r).length) := M2.out.symm
  have HQ : Hid (8 = (sealB q).length) := M1.out.symm
  clear h0 h1 hq lq
  go_enter Tryz.func31, Tryz.ntmps31
  go_wp2_with (first
    | (at_builtin; refine wpList_app_bytes _ rfl _ _ rfl w.heap.size w.heap.size _ [] l 0 l.length c0 rfl rfl rfl L0.own a0 rfl V0 n0 Y1.out K0.size ?_; intro g1 cap1 L1 w1 HL1 x1; have R1 := L0.trans x1; rw [List.nil_append] at R1 HL1; have B1 := R1.below (Nat.le_refl _) (by simp [Value.ownBlock]); clear L0 x1 V0 Y1 K0)
    | (go_at_call 60; refine (SZ.out _).mono ?_; rintro e w2 ⟨rfl, x2⟩; have R2 := R1.beside x2; have V2 := bytes_of_own x2.own lq4.out; clear SZ x2 R1)
    | (go_at_call 59; refine (SE.out _ _ V2).mono ?_; rintro e w3 ⟨rfl, x3, V3⟩; have R3 := R2.beside x3; have O3 : w3.ownsRow w.heap.size 5 1 (.slice (some ⟨g1, 0, none⟩) L1 cap1) L1 (bc l) := (by have := R3.own; rw [← HL1.out] at this; exact this); have z3 := R3.size; clear SE V2 x3 R2)
    | (at_builtin; refine wpList_app_bytes _ rfl _ _ rfl w.heap.size g1 cap1 l (sealB q) L1 8 8 HL1.out HQ.out rfl O3 _ rfl V3 (fun e => by cases e) Y2.out z3 ?_; intro g4 cap4 L4 w4 HL4 x4; have R4 := R3.trans x4; have B4 := R4.below (Nat.le_refl _) (by simp [Value.ownBlock]); clear R3 x4 O3 V3 Y2 HL1 z3)
    | (go_at_call 59; refine (SR.out _ B4).mono ?_; rintro e w5 ⟨rfl, x5, V5⟩; have R5 := R4.beside x5; have O5 : w5.ownsRow w.heap.size 5 1 (.slice (some ⟨g4, 0, none⟩) L4 cap4) L4 (bc (l ++ sealB q)) := (by have := R5.own; rw [← HL4.out] at this; exact this); have z5 := R5.size; clear SR x5 R4)
    | (at_builtin; refine wpList_app_bytes _ rfl _ _ rfl w.heap.size g4 cap4 (l ++ sealB q) (sealB r) L4 (r.length + 4) (r.length + 4) HL4.out HR.out rfl O5 _ rfl V5 (fun e => by cases e) Y3.out z5 ?_; intro g6 cap6 L6 w6 HL6 x6; have R6 := R5.trans x6; clear R5 x6 O5 V5 Y3 HL4 z5))
  go_ret2
  have e := Y4.out _ HL6.out
  subst e
  rw [FE.out] at R6
  exact ⟨g6, cap6, rfl, R6⟩
end Go.Proofs.YtlhnjloimhcpfabGreatDoor
