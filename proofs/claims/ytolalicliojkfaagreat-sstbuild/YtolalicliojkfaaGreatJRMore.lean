/-
  The checksum by its definition, bit by bit: what the calls of the document's own answer tell.
-/
import Derived.Test.YtolalicliojkfaaGreatSE
namespace Go.Proofs.YtolalicliojkfaaGreat
open Go.RowKit

set_option maxHeartbeats 800000 in
theorem turned_any (w : World) (s c : Nat) (hs : s < 4294967296) (hc : c < 256) :
    Calls Tryz.prog 106 #[.int .u32 (s : Int), .int .u8 (c : Int)] w fun e w' => e = .returned (.int .u32 ((Crc.turn s c : Nat) : Int)) ∧ w' = w := by
  obtain ⟨t, ht⟩ : ∃ t, t = s ^^^ c := ⟨_, rfl⟩
  have X1 : bits .xor .u32 (s : Int) (c : Int) = (t : Int) := by rw [ht]; exact u32_xor_nat s c hs (by omega)
  have htl : t < 4294967296 := by rw [ht]; exact Crc.xor_lt32 hs (by omega)
  have HT : Hid (Crc.steps 8 t = Crc.turn s c) := by show _ = _; rw [ht]; rfl
  clear ht
  go_enter Tryz.func106, Tryz.ntmps106
  go_wp2_with (fail)
  go_loopw [0, 5] (fun x i wr2 => ∃ (k q : Nat), k ≤ 8 ∧ i = .int .i64 k ∧ x = .int .u32 q ∧ q < 4294967296 ∧ Hid (q = Crc.steps k t) ∧ wr2 = w) (fun _ i _ => 8 - (intOf i).toNat)
  case atStart => exact ⟨0, t, by omega, rfl, rfl, htl, rfl, rfl⟩
  case round =>
    obtain ⟨k, q, hk, rfl, rfl, hq, HQ, rfl⟩ := hrel
    clear X1
    by_cases hk8 : k < 8
    · have HS : Hid (Crc.step q = Crc.steps (k + 1) t) := by show _ = _; rw [steps_succ, ← HQ.out]
      have hst := Crc.step_lt q hq
      obtain ⟨q', hq'⟩ : ∃ q', q' = Crc.step q := ⟨_, rfl⟩
      rcases Nat.mod_two_eq_zero_or_one q with h2 | h2
      · have E := step_even q h2
        rw [← hq'] at E HS hst
        clear hq'
        go_wp2_with (fail)
        exact ⟨⟨k + 1, q', by omega, by go_num, rfl, hst, HS, trivial⟩, by simp [intOf]; omega⟩
      · have E := step_odd q hq h2
        rw [← hq'] at E HS hst
        clear hq'
        go_wp2_with (fail)
        exact ⟨⟨k + 1, q', by omega, by go_num, rfl, hst, HS, trivial⟩, by simp [intOf]; omega⟩
    · have e8 : k = 8 := by omega
      subst e8
      go_wp2_with (fail)
      go_ret
      rw [HQ.out, HT.out]
      exact ⟨rfl, rfl⟩

set_option maxHeartbeats 800000 in
theorem refMore_some (w : World) (s : Nat) (hs : s < 4294967296) (b off cap : Nat) (l : List UInt8) (h : BytesAt w b off l) (hl : l.length ≤ 140737488355328) :
    Calls Tryz.prog 96 #[.int .u32 (s : Int), .slice (some ⟨b, off, none⟩) l.length cap] w fun e w' => e = .returned (.int .u32 ((Crc.more s l : Nat) : Int)) ∧ Below w.heap.size w w' := by
  have hsg : ¬ IntKind.u32.signed = true := by decide
  have N1 := not32 s hs
  obtain ⟨r0, hr0⟩ : ∃ r, r = s ^^^ Crc.ones := ⟨_, rfl⟩
  rw [← hr0] at N1
  have hr0l : r0 < 4294967296 := by rw [hr0]; exact Crc.xor_lt32 hs (by decide)
  have HR0 : Hid (r0 = s ^^^ Crc.ones) := hr0
  clear hr0
  go_enter Tryz.func96, Tryz.ntmps96
  go_wp2_with (fail)
  go_loopw [5, 6] (fun x i wr => ∃ (j r : Nat), j ≤ l.length ∧ i = .int .i64 j ∧ x = .int .u32 r ∧ r < 4294967296 ∧ Hid (r = Crc.reg r0 (l.take j)) ∧ Below w.heap.size w wr) (fun _ i _ => l.length - (intOf i).toNat)
  case atStart => exact ⟨0, r0, Nat.zero_le _, rfl, rfl, hr0l, rfl, Below.refl _ _⟩
  case round =>
    obtain ⟨j, r, hj, rfl, rfl, hr, HR, hbel⟩ := hrel
    clear N1
    by_cases hlt : j < l.length
    · obtain ⟨c, hc⟩ : ∃ c : Nat, c = (l[j]).toNat := ⟨_, rfl⟩
      have hc256 : c < 256 := by rw [hc]; exact UInt8.toNat_lt _
      have d0 : wr.cell? ⟨b, off + j, none⟩ = some (.int .u8 (c : Int)) := by rw [h.later hbel j hlt, ← hc]
      obtain ⟨q, hq⟩ : ∃ q, q = Crc.turn r c := ⟨_, rfl⟩
      have hql : q < 4294967296 := by rw [hq, hc]; exact Crc.turn_lt r _ hr
      have HT : Hid (q = Crc.reg r0 (l.take (j + 1))) := by show _ = _; rw [reg_take r0 l j hlt, ← HR.out, ← hc, hq]
      have TU : Hid (∀ wx, Calls Tryz.prog 106 #[.int .u32 (r : Int), .int .u8 (c : Int)] wx fun e w' => e = .returned (.int .u32 (q : Int)) ∧ w' = wx) := fun wx => by rw [hq]; exact turned_any wx r c hr hc256
      clear hc hq
      go_wp2_with (go_at_call 106; refine (TU.out _).mono ?_; rintro e w1 ⟨rfl, rfl⟩)
      exact ⟨⟨j + 1, q, by omega, by go_num, rfl, hql, HT, hbel⟩, by simp [intOf]; omega⟩
    · have ej : j = l.length := by omega
      subst ej
      have N2 := not32 r hr
      obtain ⟨z, hz⟩ : ∃ z, z = r ^^^ Crc.ones := ⟨_, rfl⟩
      rw [← hz] at N2
      have HZ : Hid (z = Crc.more s l) := by show _ = _; rw [hz, HR.out, HR0.out, List.take_length]; rfl
      clear hz
      go_wp2_with (fail)
      go_ret
      rw [HZ.out]
      exact ⟨rfl, hbel⟩

set_option maxHeartbeats 800000 in
theorem refMore_none (w : World) (s : Nat) (hs : s < 4294967296) (a : Option Addr) (cap : Nat) :
    Calls Tryz.prog 96 #[.int .u32 (s : Int), .slice a 0 cap] w fun e w' => e = .returned (.int .u32 ((Crc.more s [] : Nat) : Int)) ∧ w' = w := by
  have hsg : ¬ IntKind.u32.signed = true := by decide
  have N1 := not32 s hs
  obtain ⟨r0, hr0⟩ : ∃ r, r = s ^^^ Crc.ones := ⟨_, rfl⟩
  rw [← hr0] at N1
  have hr0l : r0 < 4294967296 := by rw [hr0]; exact Crc.xor_lt32 hs (by decide)
  have N2 := not32 r0 hr0l
  obtain ⟨z, hz⟩ : ∃ z, z = r0 ^^^ Crc.ones := ⟨_, rfl⟩
  rw [← hz] at N2
  have HZ : Hid (z = Crc.more s []) := by show _ = _; rw [hz, hr0]; rfl
  clear hz hr0
  go_enter Tryz.func96, Tryz.ntmps96
  go_wp2_with (fail)
  refine wp_loop_rounds 1 ?_
  rw [rounds_succ]
  go_wp2_with (fail)
  go_ret
  rw [HZ.out]
  exact ⟨rfl, rfl⟩

theorem refMore_any (w : World) (s : Nat) (hs : s < 4294967296) (v : Value) (l : List UInt8) (h : BytesIn w v l) :
    Calls Tryz.prog 96 #[.int .u32 (s : Int), v] w fun e w' => e = .returned (.int .u32 ((Crc.more s l : Nat) : Int)) ∧ Below w.heap.size w w' := by
  obtain ⟨⟨a, cap, rfl, hf⟩, hlen⟩ := h
  by_cases h0 : l = []
  · subst h0
    refine (refMore_none w s hs a cap).mono ?_
    rintro e w' ⟨rfl, rfl⟩
    exact ⟨rfl, Below.refl _ _⟩
  · obtain ⟨b, off, rfl, hv⟩ := hf h0
    exact refMore_some w s hs b off cap l hv hlen

theorem refSum_any (w : World) (v : Value) (l : List UInt8) (h : BytesIn w v l) :
    Calls Tryz.prog 85 #[v] w fun e w' => e = .returned (.int .u32 ((Crc.sum l : Nat) : Int)) ∧ Below w.heap.size w w' := by
  have M : Hid (Calls Tryz.prog 96 #[.int .u32 0, v] w fun e w' => e = .returned (.int .u32 ((Crc.sum l : Nat) : Int)) ∧ Below w.heap.size w w') := refMore_any w 0 (by decide) v l h
  clear h
  go_enter Tryz.func85, Tryz.ntmps85
  go_wp2_with (go_at_call 96; refine M.out.mono ?_; rintro e w1 ⟨rfl, hb⟩)
  go_ret
  exact ⟨rfl, hb⟩
end Go.Proofs.YtolalicliojkfaaGreat
