/-
  Whether entries are gone through.
-/
import Derived.Test.YtbdgdigpnfpnhaaJMem
namespace Go.Proofs.Ytbdgdigpnfpnhaa.Q
open Go.RowKit

def shortE (x : Mm.Ent) : Bool := decide (x.key.length ≤ 600) && decide (x.value.length ≤ 600)
def smallB (l : List Mm.Ent) : Bool := l.all shortE && decide (l.length ≤ 70)

set_option maxRecDepth 100000 in
set_option maxHeartbeats 2000000 in
theorem small_any (w : World) (a : Option Addr) (c n : Nat) (l : List Mm.Ent) (h : EntsAt w (.slice a n c) l) (hn : n = l.length) (hl : n ≤ maxLen) (hk : ∀ x ∈ l, x.key.length ≤ maxLen ∧ x.value.length ≤ maxLen) (S : Bool) (HS : Hid (S = smallB l)) :
    Calls Try.prog 25 #[.slice a n c] w fun e w' => e = .returned (.bool S) ∧ Below w.heap.size w w' := by
  have H := hide h
  have HN : Hid (n = l.length) := hn
  have HK := hide hk
  have hl' : n ≤ 9223372036854775807 := by unfold maxLen at hl; omega
  clear h hn hk hl
  go_enter Try.func25, Try.ntmps25
  go_wp2_with (fail)
  go_loopw [3] (fun i wr => wr = w ∧ ∃ j : Nat, j ≤ n ∧ i = .int .i64 j ∧ Hid ((l.take j).all shortE = true)) (fun i _ => n - (intOf i).toNat)
  case atStart => exact ⟨rfl, 0, Nat.zero_le _, rfl, by show _ = _; simp⟩
  case round =>
    obtain ⟨rfl, j, hj, rfl, HT⟩ := hrel
    by_cases hlt : j < n
    · have jl : j < l.length := by have := HN.out; omega
      obtain ⟨b, off, rfl⟩ := H.out.some (by omega)
      obtain ⟨c0, c1, c2, c3⟩ := H.out.cells j jl
      clear c2 c3
      have hk := HK.out l[j] (List.getElem_mem jl)
      obtain ⟨x, hx⟩ : ∃ x, x = l[j] := ⟨_, rfl⟩
      rw [← hx] at c0 c1 hk
      have FT : Hid ((l.take (j + 1)).all shortE = shortE x) := by
        show _ = _
        rw [hx, List.take_succ_eq_append_getElem jl, List.all_append, HT.out]
        simp
      have FN : Hid (shortE x = false → S = false) := fun hf => by
        rw [HS.out]
        unfold smallB
        rw [show l.all shortE = false from List.all_eq_false.2 ⟨l[j], List.getElem_mem jl, by rw [← hx, hf]; simp⟩]
        rfl
      clear hx H HS HT HN HK jl
      obtain ⟨K, V, Q, D⟩ := x
      obtain ⟨hK, hV⟩ := hk
      simp only at c0 c1 hK hV
      have hK' : K.length ≤ 9223372036854775807 := by unfold maxLen at hK; omega
      have hV' : V.length ≤ 9223372036854775807 := by unfold maxLen at hV; omega
      clear hK hV
      by_cases g0 : (K.length : Int) > 600
      · have HF : Hid (S = false) := FN.out (by simp only [shortE]; rw [decide_eq_false (p := K.length ≤ 600) (by omega)]; rfl)
        clear FN FT
        go_wp2_with (fail)
        go_ret
        exact ⟨by rw [HF.out]; rfl, Below.refl _ _⟩
      by_cases g1 : (V.length : Int) > 600
      · have HF : Hid (S = false) := FN.out (by simp only [shortE]; rw [decide_eq_false (p := V.length ≤ 600) (by omega), Bool.and_false])
        clear FN FT
        go_wp2_with (fail)
        go_ret
        exact ⟨by rw [HF.out]; rfl, Below.refl _ _⟩
      have HF : Hid ((l.take (j + 1)).all shortE = true) := by
        show _ = _
        rw [FT.out]
        simp only [shortE]
        rw [decide_eq_true (p := K.length ≤ 600) (by omega), decide_eq_true (p := V.length ≤ 600) (by omega)]
        rfl
      clear FN FT
      go_wp2_with (fail)
      exact ⟨⟨trivial, j + 1, by omega, by go_num, HF⟩, by simp [intOf]; omega⟩
    · have i3 : ¬ (j : Int) < (n : Int) := by omega
      have HF : Hid (S = decide ((n : Int) ≤ 70)) := by
        show _ = _
        have := HT.out
        rw [List.take_of_length_le (by have := HN.out; omega)] at this
        rw [HS.out]
        unfold smallB
        rw [this, ← HN.out, Bool.true_and]
        by_cases h6 : n ≤ 70
        · rw [decide_eq_true h6, decide_eq_true (by omega)]
        · rw [decide_eq_false h6, decide_eq_false (by omega)]
      clear HT H HK HN HS
      by_cases h6 : (n : Int) ≤ 70
      · have HF2 : Hid (S = true) := by show _ = _; rw [HF.out]; exact decide_eq_true h6
        clear HF
        go_wp2_with (fail)
        go_ret
        exact ⟨by rw [HF2.out]; rfl, Below.refl _ _⟩
      · have HF2 : Hid (S = false) := by show _ = _; rw [HF.out]; exact decide_eq_false h6
        clear HF
        go_wp2_with (fail)
        go_ret
        exact ⟨by rw [HF2.out]; rfl, Below.refl _ _⟩
end Go.Proofs.Ytbdgdigpnfpnhaa.Q
