/-
  Two lists of bytes held against each other: the call of the kit answers whether they are the same.
-/
import Derived.Test.YtbdgdigpnfpnhaaKB
namespace Go.Proofs.Ytbdgdigpnfpnhaa.Q
open Go.RowKit

theorem take_same {l m : List UInt8} {j : Nat} (h : l.take j = m.take j) (hl : j < l.length) (hm : j < m.length) (e : l[j] = m[j]) : l.take (j + 1) = m.take (j + 1) := by
  rw [List.take_succ_eq_append_getElem hl, List.take_succ_eq_append_getElem hm, h, e]

set_option maxHeartbeats 800000 in
theorem same_len (w : World) (a a2 : Option Addr) (cap cap2 n m : Nat) (hne : n ≠ m) :
    Calls Try.prog 60 #[.slice a n cap, .slice a2 m cap2] w fun e w' => e = .returned (.bool false) ∧ w' = w := by
  have h : ((n : Int) != (m : Int)) = true := by simp; omega
  go_enter Try.func60, Try.ntmps60
  go_wp2
  go_ret
  exact ⟨rfl, rfl⟩

set_option maxHeartbeats 800000 in
theorem same_none (w : World) (a a2 : Option Addr) (cap cap2 : Nat) :
    Calls Try.prog 60 #[.slice a 0 cap, .slice a2 0 cap2] w fun e w' => e = .returned (.bool true) ∧ w' = w := by
  go_enter Try.func60, Try.ntmps60
  go_wp2
  refine wp_loop_rounds 1 ?_
  rw [rounds_succ]
  go_wp2
  go_ret
  exact ⟨rfl, rfl⟩

set_option maxHeartbeats 800000 in
theorem same_some (w : World) (b off cap b2 off2 cap2 : Nat) (l m : List UInt8) (hv : BytesAt w b off l) (hv2 : BytesAt w b2 off2 m) (hlen : l.length ≤ 140737488355328) (he : m.length = l.length) :
    Calls Try.prog 60 #[.slice (some ⟨b, off, none⟩) l.length cap, .slice (some ⟨b2, off2, none⟩) l.length cap2] w fun e w' => e = .returned (.bool (decide (l = m))) ∧ Below w.heap.size w w' := by
  have HE : Hid (m.length = l.length) := he
  clear he
  go_enter Try.func60, Try.ntmps60
  go_wp2
  go_loopw [5] (fun i wr => ∃ j : Nat, j ≤ l.length ∧ i = .int .i64 j ∧ Below w.heap.size w wr ∧ l.take j = m.take j) (fun i _ => l.length - (intOf i).toNat)
  case atStart => exact ⟨0, Nat.zero_le _, rfl, Below.refl _ _, rfl⟩
  case round =>
    obtain ⟨j, hj, rfl, hbel, ht⟩ := hrel
    have HT : Hid (l.take j = m.take j) := ht
    clear ht
    by_cases hlt : j < l.length
    · have hltm : j < m.length := by rw [HE.out]; exact hlt
      have hb : b < w.heap.size := World.block_lt_of_cell? w _ (hv j hlt)
      have hb2 : b2 < w.heap.size := World.block_lt_of_cell? w _ (hv2 j hltm)
      have d0 := (hbel.cell (p := ⟨b, off + j, none⟩) hb).trans (hv j hlt)
      have e0 := (hbel.cell (p := ⟨b2, off2 + j, none⟩) hb2).trans (hv2 j hltm)
      obtain ⟨c, hc⟩ : ∃ c : Nat, c = (l[j]).toNat := ⟨_, rfl⟩
      obtain ⟨d, hd⟩ : ∃ d : Nat, d = (m[j]).toNat := ⟨_, rfl⟩
      rw [← hc] at d0
      rw [← hd] at e0
      by_cases hcd : c = d
      · have HR : Hid (l.take (j + 1) = m.take (j + 1)) := take_same HT.out hlt hltm (by apply UInt8.toNat_inj.mp; rw [← hc, ← hd]; exact hcd)
        have hbb : ((c : Int) != (d : Int)) = false := by simp [hcd]
        clear hc hd hcd hv hv2
        go_wp2
        go_quiet (fail)
        go_wp2
        go_roundw
        case rel => exact ⟨j + 1, by omega, by go_num, below_drewN hbel _, HR.out⟩
        case measure => simp [intOf]; omega
      · have HR : Hid (decide (l = m) = false) := by
          show _ = _
          rw [decide_eq_false_iff_not]
          intro h
          subst h
          exact hcd (by rw [hc, hd])
        have hbb : ((c : Int) != (d : Int)) = true := by simp; omega
        clear hc hd hcd hv hv2
        go_wp2
        go_quiet (fail)
        go_wp2
        go_ret
        exact ⟨by rw [HR.out]; rfl, below_drewN hbel _⟩
    · have HR : Hid (decide (l = m) = true) := by
        show _ = _
        rw [decide_eq_true_iff]
        have h := HT.out
        rw [List.take_of_length_le (by omega), List.take_of_length_le (by rw [HE.out]; omega)] at h
        exact h
      go_wp2
      go_ret
      exact ⟨by rw [HR.out]; rfl, hbel⟩

theorem same_any (w : World) (v v2 : Value) (l m : List UInt8) (h : BytesIn w v l) (h2 : BytesIn w v2 m) :
    Calls Try.prog 60 #[v, v2] w fun e w' => e = .returned (.bool (decide (l = m))) ∧ Below w.heap.size w w' := by
  obtain ⟨⟨a, cap, rfl, hf⟩, hlen⟩ := h
  obtain ⟨⟨a2, cap2, rfl, hf2⟩, _⟩ := h2
  by_cases he : l.length = m.length
  · by_cases h0 : l = []
    · subst h0
      have : m = [] := List.eq_nil_of_length_eq_zero he.symm
      subst this
      refine (same_none w a a2 cap cap2).mono ?_
      rintro e w' ⟨rfl, rfl⟩
      exact ⟨by simp, Below.refl _ _⟩
    · have h02 : m ≠ [] := fun h => h0 (List.eq_nil_of_length_eq_zero (by rw [he, h]; rfl))
      obtain ⟨b, off, rfl, hv⟩ := hf h0
      obtain ⟨b2, off2, rfl, hv2⟩ := hf2 h02
      rw [← he]
      exact same_some w b off cap b2 off2 cap2 l m hv hv2 hlen he.symm
  · refine (same_len w a a2 cap cap2 l.length m.length he).mono ?_
    rintro e w' ⟨rfl, rfl⟩
    have : decide (l = m) = false := by rw [decide_eq_false_iff_not]; intro h; exact he (by rw [h])
    exact ⟨by rw [this], Below.refl _ _⟩

end Go.Proofs.Ytbdgdigpnfpnhaa.Q
