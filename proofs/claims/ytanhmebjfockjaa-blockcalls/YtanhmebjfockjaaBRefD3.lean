/-
  The document's own reading of one entry: the key is longer than what is left.
-/
import Derived.Test.YtanhmebjfockjaaBRefD2
namespace Go.Proofs.Ytanhmebjfockjaa
open Go.RowKit

set_option maxRecDepth 100000 in
set_option maxHeartbeats 800000 in
theorem rentry_three (w : World) (ao : Option Addr) (c n : Nat) (b a : List UInt8) (lo : Nat) (h : BytesIn w (.slice ao n c) b) (hn : n = b.length) (hcap : n ≤ c) (hlen : n ≤ 1000000000) (ha : a.length ≤ 1000000) (he : Enc.smE (b.drop lo) a.length = 0) (he2 : Enc.smE (Bk.q1 a (b.drop lo)) 512 = 0) (he3 : ¬ Bk.qm a (b.drop lo) ≤ (Bk.q2 a (b.drop lo)).length) :
    Calls Try.prog 79 #[.slice ao n c, .int .i64 (lo : Int), str a] w fun e w' => ∃ x r, e = .returned (.tuple #[entV x, .int .i64 r]) ∧ Hid (entR a b lo x r) ∧ Below w.heap.size w w' := by
  have B0 : Below w.heap.size w (w.alloc zE) := (Below.refl _ _).alloc (Nat.le_refl _) _
  have Z0 : Hid _ := World.alloc_heap_new w zE
  have HR : Hid (∀ x, entR a b lo x (-1)) := fun x => .inl ⟨by unfold Bk.pe; rw [if_neg (fun hc => he3 hc.2.2.1)], rfl⟩
  have hlo := sm_room he
  obtain ⟨X, N, eX, eN, hX, hN⟩ := sm_nat (b.drop lo) a.length
  rw [List.length_drop] at hN
  have hq1 : Bk.q1 a (b.drop lo) = b.drop (lo + N) := by unfold Bk.q1; rw [eN, Int.toNat_natCast, List.drop_drop]
  rw [hq1] at he2
  obtain ⟨p, hp⟩ : ∃ p, p = lo + N := ⟨_, rfl⟩
  rw [← hp] at he2 hq1
  have hpl := sm_room he2
  obtain ⟨M, N2, eM, eN2, hM, hN2⟩ := sm_nat (b.drop p) 512
  rw [List.length_drop] at hN2
  have hqm : Bk.qm a (b.drop lo) = M := by
    unfold Bk.qm
    rw [hq1]
    have : Enc.smX (b.drop p) 512 = (M : Int) := eM
    rw [this, Int.toNat_natCast]
  have hq2 : Bk.q2 a (b.drop lo) = b.drop (p + N2) := by
    unfold Bk.q2
    rw [hq1]
    have : Enc.smN (b.drop p) 512 = (N2 : Int) := eN2
    rw [this, Int.toNat_natCast, List.drop_drop]
  rw [hqm, hq2, List.length_drop] at he3
  have SM : Hid (∀ v, BytesIn (w.alloc zE) v (b.drop lo) → Calls Try.prog 78 #[v, .int .i64 (a.length : Int)] (w.alloc zE) fun e w' => e = .returned (.tuple #[.int .i64 (X : Int), .int .i64 (N : Int), .int .i64 0]) ∧ Below (w.alloc zE).heap.size (w.alloc zE) w') := fun v hv => rsm_any _ v _ _ (by omega) hv X N 0 eX eN he
  have SM2 : Hid (∀ wx v, BytesIn wx v (b.drop p) → Calls Try.prog 78 #[v, .int .i64 512] wx fun e w' => e = .returned (.tuple #[.int .i64 (M : Int), .int .i64 (N2 : Int), .int .i64 0]) ∧ Below wx.heap.size wx w') := fun wx v hv => rsm_any wx v _ 512 (by omega) hv M N2 0 eM eN2 he2
  have R1 : Hid _ := bytes_rest (h.later B0) lo _ rfl
  have R2 : Hid (∀ wx, Below w.heap.size w wx → BytesIn wx (.slice (ao.map fun x => x.add p) (n - p) (c - p)) (b.drop p)) := fun wx hb => bytes_rest (h.later hb) p _ rfl
  have k1 : (lo : Int) ≤ (n : Int) := by omega
  have k2 : (n : Int) ≤ (c : Int) := by omega
  have k3 : (lo : Int) ≤ (c : Int) := by omega
  have k4 : ¬ c = lo := by omega
  have k5 : (p : Int) ≤ (n : Int) := by omega
  have k6 : (p : Int) ≤ (c : Int) := by omega
  have k7 : ¬ c = p := by omega
  have hpi : (lo : Int) + (N : Int) = (p : Int) := by omega
  have wp : IntKind.i64.wrap (p : Int) = (p : Int) := by rw [IntKind.wrap_i64]; omega
  have w3 : IntKind.i64.wrap ((n : Int) - (p : Int)) = (n : Int) - (p : Int) := by rw [IntKind.wrap_i64]; omega
  have w4 : IntKind.i64.wrap ((n : Int) - (p : Int) - (N2 : Int)) = (n : Int) - (p : Int) - (N2 : Int) := by rw [IntKind.wrap_i64]; omega
  have k8 : (n : Int) - (p : Int) - (N2 : Int) < (M : Int) := by omega
  clear he he2 he3 h hn hq1 hqm hq2 eX eN eM eN2 hp hN hX hlo hN2 hM hpl
  go_enter Try.func79, Try.ntmps79
  go_wp2_with (first
    | (go_at_call 78; refine (SM2.out _ _ (R2.out _ D1)).mono ?_; rintro e w2 ⟨rfl, b2⟩; have Z2 := hide (keepB b2 Z1.out); obtain ⟨⟨c0, c1, c2, c3⟩, f0, f1, f2, f3⟩ := zE_cells Z2.out; clear SM2)
    | (go_at_call 78; refine (SM.out _ R1.out).mono ?_; rintro e w1 ⟨rfl, b1⟩; have Z1 := hide (keepB b1 Z0.out); have D1 := B0.trans (b1.mono B0.size); clear SM))
  have G1 := putX_heap (y := ⟨[], [], 0, false⟩) Z2.out ⟨[], [], 0, false⟩
  have L1 := putX_below (D1.trans (b2.mono D1.size)) w.heap.size (Nat.le_refl _) ⟨[], [], 0, false⟩
  refine bodyPost_ret (v := .tuple #[entV ⟨[], [], 0, false⟩, .int .i64 (-1)]) ?_ rfl ⟨⟨[], [], 0, false⟩, -1, rfl, HR.out _, L1⟩
  exact ret_entry (T := w.heap.size) (x := ⟨[], [], 0, false⟩) rfl rfl G1
end Go.Proofs.Ytanhmebjfockjaa
