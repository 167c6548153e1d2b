/-
  Lists of lists of entries that came in; and two entries held against each other.
-/
import Derived.Test.YtbdgdigpnfpnhaaKN
import Derived.Test.YtbdgdigpnfpnhaaKK
import Derived.Laws.StructEq
namespace Go.Proofs.Ytbdgdigpnfpnhaa.Q
open Go.ChangeShapes Go.WideShapes Go.ChangeAt Go.RowKit

theorem lists_in {H : Type} {enc : TypeId × Value → H} {W : World} {fuel : Nat} {c : Value} {x : DataW H × List MemPlace} (hf : DataW.trod enc Try.prog W 0 (fun _ => true) true fuel 51 [c] = some x) :
    ∃ (ls : List (List Mm.Ent)) (vs : List Value) (a : Option Addr) (cap : Nat), c = .slice a ls.length cap ∧ LLs W vs ls ∧ (ls ≠ [] → ∃ b off, a = some ⟨b, off, none⟩ ∧ ∀ k (h : k < vs.length), W.cell? ⟨b, off + k, none⟩ = some vs[k]) ∧ ls.length ≤ maxLen ∧ ∀ x ∈ ls, x.length ≤ maxLen ∧ ∀ y ∈ x, y.key.length ≤ maxLen ∧ y.value.length ≤ maxLen := by
  rcases Deep.open_slice1 Try.underlying51 (by kernel_rfl) hf with ⟨hcs, _⟩ | ⟨ad, len, cap, m, n, V, D, Pl, hcs, _, hl, hmx, hm, _, hall⟩
  · simp at hcs
    subst hcs
    exact ⟨[], [], none, 0, rfl, ⟨rfl, fun k h => by simp at h⟩, fun h => absurd rfl h, Nat.zero_le _, by simp⟩
  · simp at hcs
    subst hcs
    simp only [if_true] at hm
    subst hm
    obtain ⟨L, hLs⟩ := @Deep.choose_lt (List Mm.Ent) ⟨[]⟩ len (fun i l => W.cell? (ad.add i) = some (V i) ∧ (∃ a c, V i = .slice a l.length c ∧ l.length ≤ c ∧ c ≤ 9223372036854775807 ∧ EntsAt W (.slice a l.length c) l) ∧ l.length ≤ maxLen ∧ ∀ y ∈ l, y.key.length ≤ maxLen ∧ y.value.length ≤ maxLen) (fun i hi => by
      obtain ⟨h1, h2⟩ := hall i (by omega)
      obtain ⟨l, a, c, e, hat, hlen, hok⟩ := ents_in h2
      refine ⟨l, h1, ⟨a, c, e, ?_, ?_, hat⟩, hlen, fun y hy => (hok y hy).1⟩
      · rw [e] at h2
        exact cap_in h2
      · rw [e] at h2
        rcases Deep.open_slice Try.underlying23 h2 with ⟨hcs, _⟩ | ⟨ad', len', cap', m', n', D', Pl', hcs, _, hl', hmx', _⟩
        · simp at hcs; omega
        · simp at hcs
          unfold maxLen at hmx'
          omega)
    refine ⟨(List.range len).map L, (List.range len).map V, some ad, m, by simp, ⟨by simp, fun k h1 h2 => ?_⟩, fun h0 => ?_, by simp; omega, fun x hx => ?_⟩
    · have hk : k < len := by simpa using h1
      simp only [List.getElem_map, List.getElem_range]
      exact (hLs k hk).2.1
    · have hl0 : 0 < len := by
        rcases Nat.eq_zero_or_pos len with h | h
        · subst h; exact absurd (by simp) h0
        · exact h
      obtain ⟨b, off, spot⟩ := ad
      have hspot : spot = none := by simpa [Addr.add] using World.cell?_spot (hLs 0 hl0).1
      subst hspot
      refine ⟨b, off, rfl, fun k hk => ?_⟩
      have hk' : k < len := by simpa using hk
      have := (hLs k hk').1
      have hadd : (⟨b, off, none⟩ : Addr).add k = ⟨b, off + k, none⟩ := by unfold Addr.add; split <;> simp_all
      rw [hadd] at this
      rw [this]
      simp
    · obtain ⟨k, hk, rfl⟩ := List.mem_map.1 hx
      have hk' : k < len := List.mem_range.1 hk
      exact (hLs k hk').2.2

/-- Are two entries the same? -/
def sameE (X Y : Mm.Ent) : Bool := X.key == Y.key && (X.value == Y.value && (X.seq == Y.seq && X.del == Y.del))
theorem sameE_iff (X Y : Mm.Ent) : sameE X Y = true ↔ X = Y := by
  cases X with
  | mk k v s d =>
    cases Y with
    | mk k' v' s' d' =>
      unfold sameE
      simp

set_option maxRecDepth 100000 in
theorem eql_ent (X Y : Mm.Ent) (W : World) : (binOp .eql 38 (.agg #[str X.key, str X.value, .int .i64 X.seq, .bool X.del]) (.agg #[str Y.key, str Y.value, .int .i64 Y.seq, .bool Y.del])).run Try.prog W = .ok (.bool (sameE X Y)) W := by
  have hu : Try.prog.underlying 38 = some (.struct (Try.prog.fieldsOf 38)) := by kernel_rfl
  have hp : Try.prog.stoodInHeld 38 = false := by kernel_rfl
  rw [run_eql_struct, run_equalIn_agg _ _ _ _ _ hu hp]
  clear hu hp
  unfold sameE
  cases h1 : (X.key == Y.key) <;> cases h2 : (X.value == Y.value) <;> cases h3 : (X.seq == Y.seq) <;> cases h4 : (X.del == Y.del)
  all_goals
    go_simp
end Go.Proofs.Ytbdgdigpnfpnhaa.Q
