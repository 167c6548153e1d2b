/-
  Encode, and the edit that makes a version of the first one.
-/
import Derived.Test.YtlhnjloimhcpfaaGreatDoorYRec
namespace Go.Proofs.YtlhnjloimhcpfaaGreatDoor
open Go.RowKit

set_option maxRecDepth 100000 in
set_option maxHeartbeats 400000 in
theorem encode_ok (w : World) (a2 a3 : Option Addr) (cap2 cap3 : Nat) (e : Mf.Ed) (hd : IzAt w (.slice a2 e.drops.length cap2) e.drops) (ha : MtsAt w (.slice a3 e.adds.length cap3) e.adds) (hm : ∀ x ∈ e.adds, MtFit x) (he : Mf.encE e = 0) :
    Calls Tryz.prog 27 #[ev (.slice a2 e.drops.length cap2) (.slice a3 e.adds.length cap3) e.log e.seq e.next] w fun r w' => ∃ g n c, r = .returned (.tuple #[.slice (some ⟨g, 0, none⟩) n c, .int .i64 0]) ∧ Hid (n = (Mf.recB e).length) ∧ Hid (w'.ownsRow (w.heap.size + 1) 5 1 (.slice (some ⟨g, 0, none⟩) n c) (Mf.recB e).length (bc (Mf.recB e))) ∧ Below w.heap.size w w' := by
  have he' := he
  unfold Mf.encE at he'
  split at he'
  · cases he'
  rename_i hlong
  split at he'
  case isFalse => cases he'
  rename_i hb
  have W1 := World.size_alloc w (eO (.slice a2 e.drops.length cap2) (.slice a3 e.adds.length cap3) e.log e.seq e.next)
  have E0 := hide (EdIn.new w (.slice a2 e.drops.length cap2) (.slice a3 e.adds.length cap3) e.log e.seq e.next)
  have BD : Hid (∀ wx, Below w.heap.size w wx → Calls Tryz.prog 67 #[ev (.slice a2 e.drops.length cap2) (.slice a3 e.adds.length cap3) e.log e.seq e.next] wx fun r w' => r = .returned (.bool true) ∧ Below wx.heap.size wx w') := fun wx hw => by
    have := bounds_any wx a2 a3 cap2 cap3 e (hd.later hw) (ha.later hw) (by omega) (by omega) hm
    rw [hb] at this
    exact this
  have RC : Hid (∀ wx, Below w.heap.size w wx → Calls Tryz.prog 68 #[ev (.slice a2 e.drops.length cap2) (.slice a3 e.adds.length cap3) e.log e.seq e.next] wx fun r w' => ∃ g n c, r = .returned (.slice (some ⟨g, 0, none⟩) n c) ∧ Hid (n = (Mf.recB e).length) ∧ Hid (w'.ownsRow (wx.heap.size + 1) 5 1 (.slice (some ⟨g, 0, none⟩) n c) (Mf.recB e).length (bc (Mf.recB e))) ∧ Below wx.heap.size wx w') := fun wx hw => rec_any wx a2 a3 cap2 cap3 e (hd.later hw) (ha.later hw) (by omega) (by omega) hb
  obtain ⟨M, hM⟩ : ∃ M, M = e.drops.length := ⟨_, rfl⟩
  obtain ⟨K, hK⟩ : ∃ K, K = e.adds.length := ⟨_, rfl⟩
  rw [← hM, ← hK] at BD RC E0 ⊢
  have i1 : ¬ (M : Int) > 1024 := by omega
  have i2 : ¬ (K : Int) > 1024 := by omega
  generalize Mf.recB e = R at RC ⊢
  clear hd ha hm he hb he' hlong W1 hM hK
  go_enter Tryz.func27, Tryz.ntmps27
  go_wp2_with (first
    | (go_at_call 67; refine (BD.out _ E0.out.bel).mono ?_; rintro r w1 ⟨rfl, b1⟩; have E1 := hide (E0.out.later b1); obtain ⟨s0, s1, s2, s3, s4⟩ := E1.out.cells; clear BD)
    | (go_at_call 68; refine (RC.out _ E1.out.bel).mono ?_; rintro r w2 ⟨g, n, c, rfl, HN, HO, b2⟩; have E2 := hide (E1.out.later b2); clear RC))
  go_ret2
  exact ⟨g, n, c, rfl, HN, own_lift HO.out (by have := E1.out.bel.size; omega), E2.out.bel⟩
end Go.Proofs.YtlhnjloimhcpfaaGreatDoor
