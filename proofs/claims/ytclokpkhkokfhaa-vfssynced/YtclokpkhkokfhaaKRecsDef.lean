/-
  Lists of lists of bytes, where they can be read.
-/
import Derived.Test.YtclokpkhkokfhaaKBytes
namespace Go.Proofs.Ytclokpkhkokfhaa
open Go.RowKit

/-- One list of bytes, as a value. -/
def RecAt (w : World) (u : Value) (r : List UInt8) : Prop :=
  ∃ ad c, u = .slice ad r.length c ∧ r.length ≤ c ∧ c ≤ 9223372036854775807 ∧ (ad = none → c = 0) ∧ (r ≠ [] → ∃ b off, ad = some ⟨b, off, none⟩ ∧ BytesAt w b off r)
/-- A list of them. -/
def RecsAt (w : World) (v : Value) (rs : List (List UInt8)) : Prop :=
  ∃ a cap, v = .slice a rs.length cap ∧ rs.length ≤ cap ∧ cap ≤ 9223372036854775807 ∧ (a = none → cap = 0) ∧ (rs ≠ [] → ∃ b off, a = some ⟨b, off, none⟩ ∧ ∀ k (h : k < rs.length), ∃ u, w.cell? ⟨b, off + k, none⟩ = some u ∧ RecAt w u rs[k])

theorem RecAt.later {w w' : World} {u : Value} {r : List UInt8} (h : RecAt w u r) (hb : Below w.heap.size w w') : RecAt w' u r := by
  obtain ⟨ad, c, h1, h2, h3, h4, h5⟩ := h
  exact ⟨ad, c, h1, h2, h3, h4, fun h0 => by obtain ⟨b, off, e, hat⟩ := h5 h0; exact ⟨b, off, e, hat.later hb⟩⟩
theorem RecsAt.later {w w' : World} {v : Value} {rs : List (List UInt8)} (h : RecsAt w v rs) (hb : Below w.heap.size w w') : RecsAt w' v rs := by
  obtain ⟨a, cap, h1, h2, h3, h4, h5⟩ := h
  refine ⟨a, cap, h1, h2, h3, h4, fun h0 => ?_⟩
  obtain ⟨b, off, e, hat⟩ := h5 h0
  refine ⟨b, off, e, fun k hk => ?_⟩
  obtain ⟨u, hc, hu⟩ := hat k hk
  exact ⟨u, keepC hb hc, hu.later hb⟩
theorem RecAt.bytes {w : World} {u : Value} {r : List UInt8} (h : RecAt w u r) (hl : r.length ≤ 140737488355328) : BytesIn w u r := by
  obtain ⟨ad, c, h1, h2, h3, h4, h5⟩ := h
  exact ⟨⟨ad, c, h1, h5⟩, hl⟩
theorem RecsAt.nil (w : World) : RecsAt w (.slice none 0 0) [] := ⟨none, 0, rfl, Nat.le_refl _, by decide, fun _ => rfl, fun h => absurd rfl h⟩
theorem RecsAt.get {w : World} {a : Option Addr} {n cap : Nat} {rs : List (List UInt8)} (h : RecsAt w (.slice a n cap) rs) (k : Nat) (hk : k < rs.length) : ∃ b off ad c, a = some ⟨b, off, none⟩ ∧ w.cell? ⟨b, off + k, none⟩ = some (.slice ad (rs[k]).length c) ∧ RecAt w (.slice ad (rs[k]).length c) rs[k] := by
  obtain ⟨a', cap', h1, _, _, _, h5⟩ := h
  simp only [Value.slice.injEq] at h1
  obtain ⟨rfl, _, rfl⟩ := h1
  obtain ⟨b, off, e, hat⟩ := h5 (by intro e; rw [e] at hk; simp at hk)
  obtain ⟨u, hc, hu⟩ := hat k hk
  have hu' := hu
  obtain ⟨ad, c, rfl, _⟩ := hu
  exact ⟨b, off, ad, c, e, hc, hu'⟩
theorem RecsAt.cut {w : World} {a : Option Addr} {n cap : Nat} {rs : List (List UInt8)} (h : RecsAt w (.slice a n cap) rs) (k : Nat) (hk : k ≤ rs.length) : RecsAt w (.slice a k cap) (rs.take k) := by
  obtain ⟨a', cap', h1, h2, h3, h4, h5⟩ := h
  simp only [Value.slice.injEq] at h1
  obtain ⟨rfl, rfl, rfl⟩ := h1
  have hl : (rs.take k).length = k := by rw [List.length_take]; omega
  refine ⟨a, cap, by rw [hl], by omega, h3, h4, fun h0 => ?_⟩
  obtain ⟨b, off, e, hat⟩ := h5 (by intro e; rw [e] at h0; simp at h0)
  refine ⟨b, off, e, fun j hj => ?_⟩
  obtain ⟨u, hc, hu⟩ := hat j (by rw [hl] at hj; omega)
  refine ⟨u, hc, ?_⟩
  rw [List.getElem_take]
  exact hu
end Go.Proofs.Ytclokpkhkokfhaa
