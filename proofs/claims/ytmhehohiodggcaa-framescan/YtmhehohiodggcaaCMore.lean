/-
  The checksum that goes on, and the checksum: what the program's two calls answer.
-/
import Derived.Test.YtmhehohiodggcaaKBytes
import Derived.Test.YtmhehohiodggcaaCrc
import Derived.Laws.BitsAllLaws
namespace Go.Proofs.Ytmhehohiodggcaa
open Go.RowKit

theorem not32 (s : Nat) (h : s < 4294967296) : bits .xor .u32 IntKind.u32.max (s : Int) = ((s ^^^ Crc.ones : Nat) : Int) := by
  have := u32_xor_nat 4294967295 s (by decide) h
  rw [Nat.xor_comm] at this
  exact this
theorem steps_succ (k s : Nat) : Crc.steps (k + 1) s = Crc.step (Crc.steps k s) := by rw [Crc.steps_add]; rfl
theorem reg_take (r0 : Nat) (l : List UInt8) (j : Nat) (h : j < l.length) : Crc.reg r0 (l.take (j + 1)) = Crc.turn (Crc.reg r0 (l.take j)) (l[j]).toNat := by
  rw [List.take_succ_eq_append_getElem h, Crc.reg_append]; rfl
/-- The lowest bit, cut off: one step. -/
theorem step_odd (q : Nat) (h : q < 4294967296) (h1 : q % 2 = 1) : bits .xor .u32 ((q : Int) / 2) 2197175160 = ((Crc.step q : Nat) : Int) := by
  have := u32_xor_nat (q / 2) 2197175160 (by omega) (by decide)
  unfold Crc.step
  rw [if_pos h1]
  have e : (((q / 2 : Nat)) : Int) = (q : Int) / 2 := by omega
  rw [e] at this
  exact this
theorem step_even (q : Nat) (h1 : q % 2 = 0) : ((q : Int) / 2) = ((Crc.step q : Nat) : Int) := by
  unfold Crc.step
  rw [if_neg (by omega)]
  simp
theorem low_one (q : Nat) (h : q < 4294967296) : bits .and .u32 (q : Int) 1 = ((q % 2 : Nat) : Int) := by
  have := u32_and_nat q 1 h (by decide)
  rw [Nat.and_one_is_mod] at this
  exact this

set_option maxHeartbeats 800000 in
theorem more_some (w : World) (s : Nat) (hs : s < 4294967296) (b off cap : Nat) (l : List UInt8) (h : BytesAt w b off l) (hl : l.length ≤ 140737488355328) :
    Calls Try.prog 43 #[.int .u32 (s : Int), .slice (some ⟨b, off, none⟩) l.length cap] w fun e w' => e = .returned (.int .u32 ((Crc.more s l : Nat) : Int)) ∧ w' = w := by
  have hsg : ¬ IntKind.u32.signed = true := by decide
  have N1 := not32 s hs
  obtain ⟨r0, hr0⟩ : ∃ r, r = s ^^^ Crc.ones := ⟨_, rfl⟩
  rw [← hr0] at N1
  have hr0l : r0 < 4294967296 := by rw [hr0]; exact Crc.xor_lt32 hs (by decide)
  have HR0 : Hid (r0 = s ^^^ Crc.ones) := hr0
  clear hr0
  go_enter Try.func43, Try.ntmps43
  go_wp2_with (fail)
  go_loopw [5, 13] (fun x i wr => ∃ (j r : Nat), j ≤ l.length ∧ i = .int .i64 j ∧ x = .int .u32 r ∧ r < 4294967296 ∧ Hid (r = Crc.reg r0 (l.take j)) ∧ wr = w) (fun _ i _ => l.length - (intOf i).toNat)
  case atStart => exact ⟨0, r0, Nat.zero_le _, rfl, rfl, hr0l, rfl, rfl⟩
  case round =>
    obtain ⟨j, r, hj, rfl, rfl, hr, HR, rfl⟩ := hrel
    clear N1
    by_cases hlt : j < l.length
    · obtain ⟨c, hc⟩ : ∃ c : Nat, c = (l[j]).toNat := ⟨_, rfl⟩
      have hc256 : c < 256 := by rw [hc]; exact UInt8.toNat_lt _
      have d0 : wr.cell? ⟨b, off + j, none⟩ = some (.int .u8 (c : Int)) := by rw [h j hlt, ← hc]
      obtain ⟨t, ht⟩ : ∃ t, t = r ^^^ c := ⟨_, rfl⟩
      have X1 : bits .xor .u32 (r : Int) (c : Int) = (t : Int) := by rw [ht]; exact u32_xor_nat r c hr (by omega)
      have htl : t < 4294967296 := by rw [ht]; exact Crc.xor_lt32 hr (by omega)
      have HT : Hid (Crc.steps 8 t = Crc.reg r0 (l.take (j + 1))) := by show _ = _; rw [reg_take r0 l j hlt, ← HR.out, ← hc, ht]; rfl
      have H := h
      have HB : Hid (BytesAt wr b off l) := h
      clear hc ht h H
      go_wp2_with (fail)
      go_loopw [5, 21] (fun x i wr2 => ∃ (k q : Nat), k ≤ 8 ∧ i = .int .i64 k ∧ x = .int .u32 q ∧ q < 4294967296 ∧ Hid (q = Crc.steps k t) ∧ wr2 = wr) (fun _ i _ => 8 - (intOf i).toNat)
      case atStart => exact ⟨0, t, by omega, rfl, rfl, htl, rfl, rfl⟩
      case round =>
        obtain ⟨k, q, hk, rfl, rfl, hq, HQ, rfl⟩ := hrel
        clear X1
        by_cases hk8 : k < 8
        · have A1 := low_one q hq
          have HS : Hid (Crc.step q = Crc.steps (k + 1) t) := by show _ = _; rw [steps_succ, ← HQ.out]
          have hst := Crc.step_lt q hq
          obtain ⟨q', hq'⟩ : ∃ q', q' = Crc.step q := ⟨_, rfl⟩
          rcases Nat.mod_two_eq_zero_or_one q with h2 | h2
          · have E := step_even q h2
            rw [h2] at A1
            rw [← hq'] at E HS hst
            clear hq' h2
            go_wp2_with (fail)
            exact ⟨⟨k + 1, q', by omega, by go_num, rfl, hst, HS, trivial⟩, by simp [intOf]; omega⟩
          · have E := step_odd q hq h2
            rw [h2] at A1
            rw [← hq'] at E HS hst
            clear hq' h2
            go_wp2_with (fail)
            exact ⟨⟨k + 1, q', by omega, by go_num, rfl, hst, HS, trivial⟩, by simp [intOf]; omega⟩
        · have e8 : k = 8 := by omega
          subst e8
          go_wp2_with (fail)
          exact ⟨⟨j + 1, q, by omega, by go_num, rfl, hq, by show _ = _; rw [HQ.out, HT.out], trivial⟩, by simp [intOf]; omega⟩
    · have ej : j = l.length := by omega
      subst ej
      have N2 := not32 r hr
      obtain ⟨z, hz⟩ : ∃ z, z = r ^^^ Crc.ones := ⟨_, rfl⟩
      rw [← hz] at N2
      have HZ : Hid (z = Crc.more s l) := by show _ = _; rw [hz, HR.out, HR0.out, List.take_length]; rfl
      clear hz
      go_wp2_with (fail)
      go_ret
      rw [HZ.out]
      exact ⟨rfl, rfl⟩

set_option maxHeartbeats 800000 in
theorem more_none (w : World) (s : Nat) (hs : s < 4294967296) (a : Option Addr) (cap : Nat) :
    Calls Try.prog 43 #[.int .u32 (s : Int), .slice a 0 cap] w fun e w' => e = .returned (.int .u32 ((Crc.more s [] : Nat) : Int)) ∧ w' = w := by
  have hsg : ¬ IntKind.u32.signed = true := by decide
  have N1 := not32 s hs
  obtain ⟨r0, hr0⟩ : ∃ r, r = s ^^^ Crc.ones := ⟨_, rfl⟩
  rw [← hr0] at N1
  have hr0l : r0 < 4294967296 := by rw [hr0]; exact Crc.xor_lt32 hs (by decide)
  have N2 := not32 r0 hr0l
  obtain ⟨z, hz⟩ : ∃ z, z = r0 ^^^ Crc.ones := ⟨_, rfl⟩
  rw [← hz] at N2
  have HZ : Hid (z = Crc.more s []) := by show _ = _; rw [hz, hr0]; rfl
  clear hz hr0
  go_enter Try.func43, Try.ntmps43
  go_wp2_with (fail)
  refine wp_loop_rounds 1 ?_
  rw [rounds_succ]
  go_wp2_with (fail)
  go_ret
  rw [HZ.out]
  exact ⟨rfl, rfl⟩

theorem more_any (w : World) (s : Nat) (hs : s < 4294967296) (v : Value) (l : List UInt8) (h : BytesIn w v l) :
    Calls Try.prog 43 #[.int .u32 (s : Int), v] w fun e w' => e = .returned (.int .u32 ((Crc.more s l : Nat) : Int)) ∧ w' = w := by
  obtain ⟨⟨a, cap, rfl, hf⟩, hlen⟩ := h
  by_cases h0 : l = []
  · subst h0; exact more_none w s hs a cap
  · obtain ⟨b, off, rfl, hv⟩ := hf h0
    exact more_some w s hs b off cap l hv hlen

theorem sum_any (w : World) (v : Value) (l : List UInt8) (h : BytesIn w v l) :
    Calls Try.prog 41 #[v] w fun e w' => e = .returned (.int .u32 ((Crc.sum l : Nat) : Int)) ∧ w' = w := by
  have M : Hid (Calls Try.prog 43 #[.int .u32 0, v] w fun e w' => e = .returned (.int .u32 ((Crc.sum l : Nat) : Int)) ∧ w' = w) := more_any w 0 (by decide) v l h
  clear h
  go_enter Try.func41, Try.ntmps41
  go_wp2_with (go_at_call 43; refine M.out.mono ?_; rintro e w1 ⟨rfl, rfl⟩)
  go_ret
  exact ⟨rfl, rfl⟩
end Go.Proofs.Ytmhehohiodggcaa
