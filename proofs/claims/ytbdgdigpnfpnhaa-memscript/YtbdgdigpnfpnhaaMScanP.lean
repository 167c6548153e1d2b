/-
  What a scan tells, in plain words; and what Get answers of the entries that were added; nothing here speaks of the program.
-/
import Derived.Test.YtbdgdigpnfpnhaaBTell
import Derived.Test.YtbdgdigpnfpnhaaMOrdP
import Derived.Test.YtbdgdigpnfpnhaaMIn
namespace Go.Proofs.Ytbdgdigpnfpnhaa.Q.P
end Go.Proofs.Ytbdgdigpnfpnhaa.Q.P
namespace Go.Proofs.Ytbdgdigpnfpnhaa.Q.Mm

/-- The entries of a span, in a table's order. -/
def spanE (lo hi : Bs) (l : List It) : List Ent := ((backL ⟨lo, [], 1073741824, false⟩ l).map (·.1)).takeWhile fun x => inB x.key lo hi

/-- At a greater number no older version is told. -/
theorem told_more {s1 s2 : Int} (hs : s1 ≤ s2) {l : List Ent} (h : Up l) : ∀ x ∈ told s1 l, ∃ y ∈ told s2 l, y.key = x.key ∧ x.seq ≤ y.seq := fun x hx => by
  obtain ⟨h1, h2⟩ := (told_ok s1 l h).mem x hx
  exact (told_ok s2 l h).all x h1 (by omega)
theorem span_up {lo hi : Bs} {l : List It} (h : SortedL l) : Up (spanE lo hi l) := by
  refine List.Pairwise.sublist (List.takeWhile_sublist _) (up_map ?_)
  exact List.Pairwise.sublist (List.dropWhile_sublist _) h
theorem span_len (lo hi : Bs) (l : List It) : (spanE lo hi l).length ≤ l.length := by
  have h1 := (List.takeWhile_sublist (l := (backL ⟨lo, [], 1073741824, false⟩ l).map (·.1)) fun x => inB x.key lo hi).length_le
  have h2 : (backL ⟨lo, [], 1073741824, false⟩ l).length ≤ l.length := (List.dropWhile_sublist _).length_le
  rw [List.length_map] at h1
  unfold spanE
  omega
/-- Where one looks next, in a list whose keys rise and that has the key. -/
theorem lookK (high : List Ent) (x : Ent) (k : Nat) (hu : high.Pairwise fun a b => Op.bytesLess a.key b.key = true) (hy : ∃ y ∈ high, y.key = x.key ∧ x.seq ≤ y.seq) (hk : ∀ j (h : j < high.length), j < k → Op.bytesLess high[j].key x.key = true) :
    ∃ h : k < high.length, Op.bytesLess high[k].key x.key = true ∨ (high[k].key = x.key ∧ x.seq ≤ high[k].seq) := by
  obtain ⟨y, hm, e, hs⟩ := hy
  obtain ⟨q, hq, rfl⟩ := List.mem_iff_getElem.1 hm
  have hkq : k ≤ q := by
    rcases Nat.lt_or_ge q k with h | h
    · have := hk q hq h
      rw [e, bl_irrefl] at this
      cases this
    · exact h
  refine ⟨by omega, ?_⟩
  rcases Nat.lt_or_eq_of_le hkq with h | h
  · have := List.pairwise_iff_getElem.1 hu k q (by omega) hq h
    rw [e] at this
    exact .inl this
  · subst h; exact .inr ⟨e, hs⟩
end Go.Proofs.Ytbdgdigpnfpnhaa.Q.Mm
namespace Go.Proofs.Ytbdgdigpnfpnhaa.Q.P
open Go.RowKit
end Go.Proofs.Ytbdgdigpnfpnhaa.Q.P
