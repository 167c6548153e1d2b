/-
  The walk of MemLanes: each lane is part of the one below it, and no search looks at more than the entries and twelve.
-/
import Derived.Test.YtaadcpmapdbodaaMNamesWalk
import Derived.Test.YtaadcpmapdbodaaMOrdWalk
namespace Go.Proofs.Ytaadcpmapdbodaa
open Go.RowKit

theorem nats_cell {w : World} {a : Option Addr} {n cap : Nat} {l : List Nat} (h : IntsAt w (.slice a n cap) (l.map fun (x : Nat) => (x : Int))) (j : Nat) (hj : j < l.length) : ∃ b off, a = some ⟨b, off, none⟩ ∧ w.cell? ⟨b, off + j, none⟩ = some (.int .i64 ((l[j] : Nat) : Int)) := by
  obtain ⟨b, off, ha, hc⟩ := ints_cell h j (by simpa using hj)
  refine ⟨b, off, ha, ?_⟩
  rw [hc]
  simp
namespace Mm
/-- Where one looks next, in a lane that rises and has the place. -/
theorem look (low : List Nat) (y k : Nat) (hu : low.Pairwise (· < ·)) (hy : y ∈ low) (hk : ∀ j (h : j < low.length), j < k → low[j] < y) : ∃ h : k < low.length, low[k] < y ∨ low[k] = y := by
  obtain ⟨q, hq, rfl⟩ := List.mem_iff_getElem.1 hy
  have hkq : k ≤ q := by
    rcases Nat.lt_or_ge q k with h | h
    · have := hk q hq h; omega
    · exact h
  refine ⟨by omega, ?_⟩
  rcases Nat.lt_or_eq_of_le hkq with h | h
  · exact .inl (List.pairwise_iff_getElem.1 hu k q (by omega) hq h)
  · subst h; exact .inr rfl
theorem costL_le (l : List It) (k : Bs) (s : Int) : costL l k s ≤ l.length + 12 := by
  unfold costL cost
  have h1 := costs_le (back ⟨k, [], s, false⟩ (l.map mk)) 12 (front ⟨k, [], s, false⟩ (l.map mk))
  have h2 : (l.map mk).length = (front ⟨k, [], s, false⟩ (l.map mk)).length + (back ⟨k, [], s, false⟩ (l.map mk)).length := by rw [← List.length_append, parts]
  rw [List.length_map] at h2
  omega
end Mm
theorem TabS.tall {S : Nat → Prop} {w : World} {b : Nat} {hs : List Nat} {l : List Mm.It} (h : TabS S w b hs l) : ∀ x ∈ l, 1 ≤ x.2 := by
  obtain ⟨hv, hd', ns, T, e, hS⟩ := h
  rw [← e]
  intro x hx
  obtain ⟨y, hy, rfl⟩ := List.mem_map.1 hx
  exact (T.tall y hy).1

namespace memLanes
abbrev askO (k lo hi : Mm.Bs) (s ln : Int) : Obj := .cells #[str k, .int .i64 s, str lo, str hi, .int .i64 ln] 54
/-- A table of the call's own, and the question, behind some calls. -/
structure Ln (w : World) (N : Nat) (k lo hi : Mm.Bs) (s ln : Int) (t : Nat) (hs : List Nat) (L : List Mm.It) (wr : World) : Prop where
  tab : TabS (fun i => N ≤ i) wr t hs L
  ask : wr.heap[w.heap.size]? = some (askO k lo hi s ln)
  big : N ≤ wr.heap.size
  low : w.heap.size < N
  bel : Below w.heap.size w wr
theorem Ln.later {w : World} {N : Nat} {k lo hi : Mm.Bs} {s ln : Int} {t : Nat} {hs : List Nat} {L : List Mm.It} {wr w' : World} (h : Ln w N k lo hi s ln t hs L wr) (hb : Below wr.heap.size wr w') : Ln w N k lo hi s ln t hs L w' :=
  ⟨h.tab.later hb, keepB hb h.ask, Nat.le_trans h.big hb.size, h.low, h.bel.trans (hb.mono h.bel.size)⟩

end memLanes
end Go.Proofs.Ytaadcpmapdbodaa
