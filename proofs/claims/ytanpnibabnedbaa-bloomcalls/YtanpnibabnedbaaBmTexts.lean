/-
  Lists of texts: where they lie; whether they are few and short.
-/
import Derived.Test.YtanpnibabnedbaaKBytes
namespace Go.Proofs.Ytanpnibabnedbaa
open Go.RowKit

/-- A list of texts lies there. -/
def TextsIn (w : World) (v : Value) (l : List ByteArray) : Prop := ∃ a cap, v = .slice a l.length cap ∧ l.length ≤ cap ∧ cap ≤ 9223372036854775807 ∧ (a = none → cap = 0) ∧ (l ≠ [] → ∃ b off, a = some ⟨b, off, none⟩ ∧ ∀ j (h : j < l.length), w.cell? ⟨b, off + j, none⟩ = some (.string l[j]))
theorem TextsIn.later {w w' : World} {v : Value} {l : List ByteArray} (h : TextsIn w v l) (hb : Below w.heap.size w w') : TextsIn w' v l := by
  obtain ⟨a, cap, e, h1, h2, h3, hf⟩ := h
  refine ⟨a, cap, e, h1, h2, h3, fun h0 => ?_⟩
  obtain ⟨b, off, ha, hat⟩ := hf h0
  exact ⟨b, off, ha, fun j hj => keepC hb (hat j hj)⟩

def smallB (l : List ByteArray) : Bool := decide (l.length ≤ 200) && l.all fun s => decide (s.size ≤ 600)
theorem smallB_iff (l : List ByteArray) : smallB l = true ↔ l.length ≤ 200 ∧ ∀ s ∈ l, s.size ≤ 600 := by unfold smallB; simp
theorem all_take (l : List ByteArray) (j : Nat) (h : j < l.length) (ha : ∀ s ∈ l.take j, s.size ≤ 600) (hs : l[j].size ≤ 600) : ∀ s ∈ l.take (j + 1), s.size ≤ 600 := by
  intro s hm
  rw [List.take_succ_eq_append_getElem h] at hm
  rcases List.mem_append.mp hm with h1 | h1
  · exact ha s h1
  · rw [List.mem_singleton.mp h1]; exact hs

set_option maxHeartbeats 800000 in
theorem small_any (w : World) (v : Value) (l : List ByteArray) (h : TextsIn w v l) :
    Calls Try.prog 12 #[v] w fun e w' => e = .returned (.bool (smallB l)) ∧ w' = w := by
  obtain ⟨a, cap, rfl, h1, h2, h3, hf⟩ := h
  have HF : Hid (l ≠ [] → ∃ b off, a = some ⟨b, off, none⟩ ∧ ∀ j (h : j < l.length), w.cell? ⟨b, off + j, none⟩ = some (.string l[j])) := hf
  clear hf h3
  go_enter Try.func12, Try.ntmps12
  go_wp2_with (fail)
  go_loopw [3] (fun i wr => ∃ j : Nat, j ≤ l.length ∧ i = .int .i64 j ∧ wr = w ∧ Hid (∀ s ∈ l.take j, s.size ≤ 600)) (fun i _ => l.length - (intOf i).toNat)
  case atStart => exact ⟨0, Nat.zero_le _, rfl, rfl, fun s hs => by simp at hs⟩
  case round =>
    obtain ⟨j, hj, rfl, rfl, HA⟩ := hrel
    by_cases hlt : j < l.length
    · obtain ⟨b, off, rfl, hat⟩ := HF.out (fun h0 => by rw [h0] at hlt; cases hlt)
      have c1 := hat j hlt
      obtain ⟨s, hs⟩ : ∃ s, s = l[j] := ⟨_, rfl⟩
      rw [← hs] at c1
      have HS : Hid (s = l[j]) := hs
      clear hat hs
      by_cases h6 : s.size ≤ 600
      · have i6 : ¬ (s.size : Int) > 600 := by omega
        have HN : Hid (∀ s ∈ l.take (j + 1), s.size ≤ 600) := all_take l j hlt HA.out (by rw [← HS.out]; exact h6)
        go_wp2_with (fail)
        exact ⟨⟨j + 1, by omega, by go_num, trivial, HN⟩, by simp [intOf]; omega⟩
      · have i6 : (s.size : Int) > 600 := by omega
        have HZ : Hid (smallB l = false) := by
          show _ = _
          rw [Bool.eq_false_iff]
          intro hb
          exact h6 (by rw [HS.out]; exact ((smallB_iff l).mp hb).2 _ (List.getElem_mem hlt))
        go_wp2_with (fail)
        go_ret
        rw [HZ.out]
        exact ⟨rfl, rfl⟩
    · have ej : j = l.length := by omega
      subst ej
      have HZ : Hid (smallB l = decide ((l.length : Int) ≤ 200)) := by
        show _ = _
        have ha := HA.out
        rw [List.take_length] at ha
        rw [Bool.eq_iff_iff, smallB_iff, decide_eq_true_iff]
        exact ⟨fun h => by omega, fun h => ⟨by omega, ha⟩⟩
      go_wp2_with (fail)
      go_ret
      rw [HZ.out]
      exact ⟨rfl, rfl⟩
end Go.Proofs.Ytanpnibabnedbaa
