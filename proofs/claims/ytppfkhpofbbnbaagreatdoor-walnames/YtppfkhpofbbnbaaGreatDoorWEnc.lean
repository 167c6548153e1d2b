/-
  Encode of a batch that may be, and Name of a number that may not.
-/
import Derived.Test.YtppfkhpofbbnbaaGreatDoorWName
import Derived.Test.YtppfkhpofbbnbaaGreatDoorWNum
import Derived.Test.YtppfkhpofbbnbaaGreatDoorWCheck2
import Derived.Test.YtppfkhpofbbnbaaGreatDoorKBat
namespace Go.Proofs.YtppfkhpofbbnbaaGreatDoor
open Go.RowKit

theorem wname_zero (w : World) : Calls Tryz.prog 10 #[.int .i64 0] w fun e w' => e = .returned (.tuple #[.string ⟨#[]⟩, .int .i64 2]) ∧ w' = w := by
  go_enter Tryz.func10, Tryz.ntmps10
  go_wp2_with (fail)
  go_ret2
  exact ⟨rfl, rfl⟩

set_option maxRecDepth 100000 in
set_option maxHeartbeats 1000000 in
theorem encode_ok (w : World) (a : Option Addr) (m c q : Nat) (l : List Wl.Wr) (h : WrsAt w (.slice a m c) l) (hm : m = l.length) (h1 : 1 ≤ q) (h2 : q ≤ 1073741824) (hk : Wl.checkE l = 0) (R : List UInt8) (HR : Hid (R = Wl.record q l)) :
    Calls Tryz.prog 8 #[.agg #[.int .i64 (q : Int), .slice a m c]] w fun e w' => ∃ g n cap, e = .returned (.tuple #[.slice (some ⟨g, 0, none⟩) n cap, .int .i64 0]) ∧ Hid (n = R.length) ∧ Hid (w'.ownsRow w.heap.size 5 1 (.slice (some ⟨g, 0, none⟩) n cap) n (bc R)) ∧ Below w.heap.size w w' := by
  obtain ⟨k1, k2, k3, k4⟩ := Wl.checkE_ok hk
  have hlen : ∀ x ∈ l, x.key.length ≤ 1000000 ∧ x.value.length ≤ 1000000 := fun x hx => by
    have := List.all_eq_true.1 k3 x hx
    unfold Wl.mayBe at this
    simp only [Bool.and_eq_true, decide_eq_true_eq] at this
    omega
  have B0 : Below w.heap.size w (w.alloc (.cells #[.int .i64 (q : Int), .slice a m c] 29)) := (Below.refl _ _).alloc (Nat.le_refl _) _
  have CK : Hid (Calls Tryz.prog 11 #[.slice a m c] (w.alloc (.cells #[.int .i64 (q : Int), .slice a m c] 29)) fun e w' => e = .returned (.int .i64 0) ∧ Below (w.heap.size + 1) (w.alloc (.cells #[.int .i64 (q : Int), .slice a m c] 29)) w') := by
    have := check_any _ a c m l (h.later B0) hm (by omega) hlen 0 hk.symm
    rw [World.size_alloc] at this
    exact this
  have RC : Hid (∀ wx, Below w.heap.size w wx → Calls Tryz.prog 39 #[.int .i64 (q : Int), .slice a m c] wx fun e w' => ∃ g cap, e = .returned (.slice (some ⟨g, 0, none⟩) R.length cap) ∧ Hid (w'.ownsRow wx.heap.size 5 1 (.slice (some ⟨g, 0, none⟩) R.length cap) R.length (bc R)) ∧ Below wx.heap.size wx w') := fun wx hw => by
    rw [HR.out]
    subst hm
    have := record_any wx a c q l (h.later hw) (by omega) hk
    exact this
  have CL : Hid (∀ wx, Below (w.heap.size + 1) (w.alloc (.cells #[.int .i64 (q : Int), .slice a m c] 29)) wx → wx.cell? ⟨w.heap.size, 0, none⟩ = some (.int .i64 (q : Int)) ∧ wx.cell? ⟨w.heap.size, 1, none⟩ = some (.slice a m c)) := fun wx hw => by
    have e := World.alloc_heap_new w (.cells #[.int .i64 (q : Int), .slice a m c] 29)
    have hb := (hw.block w.heap.size (by omega)).trans e
    exact ⟨Joins.cell_of_block hb 0, Joins.cell_of_block hb 1⟩
  have i1 : ¬ (q : Int) < 1 := by omega
  have i2 : ¬ (q : Int) > 1073741824 := by omega
  have HB0 := hide B0
  clear h hk k1 k2 k3 k4 hlen h1 h2 B0 hm HR
  obtain ⟨L, hL⟩ : ∃ L, L = R.length := ⟨_, rfl⟩
  have HL := hide hL
  rw [← hL] at RC
  clear hL
  go_enter Tryz.func8, Tryz.ntmps8
  go_wp2_with (first
    | (go_at_call 11; refine CK.out.mono ?_; rintro e w1 ⟨rfl, b1⟩; obtain ⟨c0, c1⟩ := CL.out _ b1; have D1 : Below w.heap.size w w1 := HB0.out.trans (b1.mono (by omega)); clear CK CL)
    | (go_at_call 39; refine (RC.out _ D1).mono ?_; rintro e w2 ⟨g, cap, rfl, o2, b2⟩; clear RC))
  go_ret2
  exact ⟨_, _, _, rfl, HL, hide (own_mono o2.out D1.size), D1.trans (b2.mono D1.size)⟩
end Go.Proofs.YtppfkhpofbbnbaaGreatDoor
