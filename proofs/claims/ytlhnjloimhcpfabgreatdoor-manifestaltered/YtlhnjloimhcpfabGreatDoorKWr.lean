/-
  Writes and batches in memory: where they can be read, and lists of them that a call owns.
-/
import Derived.Test.YtlhnjloimhcpfabGreatDoorWlP
import Derived.Test.YtlhnjloimhcpfabGreatDoorVA
import Derived.Test.YtlhnjloimhcpfabGreatDoorKMake
import Derived.Lib.OwnKind
namespace Go.Proofs.YtlhnjloimhcpfabGreatDoor
open Go.RowKit

theorem hide {p : Prop} (h : p) : Hid p := h

/-- The cells of a write. -/
def wc (x : Wl.Wr) : List Value := [str x.key, str x.value, .bool x.del]
def wcs (l : List Wl.Wr) : List Value := l.flatMap wc
theorem wcs_length (l : List Wl.Wr) : (wcs l).length = l.length * 3 := by
  induction l with
  | nil => rfl
  | cons s r ih =>
    have : wcs (s :: r) = wc s ++ wcs r := rfl
    rw [this, List.length_append, ih, List.length_cons]
    show 3 + _ = _
    omega
theorem wcs_append (l m : List Wl.Wr) : wcs (l ++ m) = wcs l ++ wcs m := by simp [wcs]
theorem wcs_get (l : List Wl.Wr) (j : Nat) (h : j < l.length) : (wcs l)[j * 3]? = some (str l[j].key) ∧ (wcs l)[j * 3 + 1]? = some (str l[j].value) ∧ (wcs l)[j * 3 + 2]? = some (.bool l[j].del) := by
  induction l generalizing j with
  | nil => simp at h
  | cons s r ih =>
    have e : wcs (s :: r) = str s.key :: str s.value :: .bool s.del :: wcs r := rfl
    cases j with
    | zero => rw [e]; exact ⟨rfl, rfl, rfl⟩
    | succ j =>
      have := ih j (by simpa using h)
      have e1 : (j + 1) * 3 = j * 3 + 1 + 1 + 1 := by omega
      rw [e, e1]
      exact this
theorem wcs_one (l : List Wl.Wr) : ∀ u ∈ wcs l, u.oneCell' = true := by
  intro u hu
  simp only [wcs, List.mem_flatMap, wc] at hu
  obtain ⟨x, _, hx⟩ := hu
  simp only [List.mem_cons, List.not_mem_nil, or_false] at hx
  rcases hx with rfl | rfl | rfl <;> rfl

/-- Writes, where they can be read. -/
structure WrsAt (w : World) (v : Value) (l : List Wl.Wr) : Prop where
  form : ∃ a cap, v = .slice a l.length cap ∧ (l ≠ [] → ∃ b off, a = some ⟨b, off, none⟩ ∧ ∀ j (h : j < l.length), w.cell? ⟨b, off + j * 3, none⟩ = some (str l[j].key) ∧ w.cell? ⟨b, off + j * 3 + 1, none⟩ = some (str l[j].value) ∧ w.cell? ⟨b, off + j * 3 + 2, none⟩ = some (.bool l[j].del))

theorem WrsAt.same {w w' : World} {v : Value} {l : List Wl.Wr} (h : WrsAt w v l) (hs : ∀ a n c, v = .slice (some a) n c → l ≠ [] → w'.heap[a.block]? = w.heap[a.block]?) : WrsAt w' v l := by
  obtain ⟨⟨a, cap, e, hf⟩⟩ := h
  refine ⟨⟨a, cap, e, fun h0 => ?_⟩⟩
  obtain ⟨b, off, ha, hat⟩ := hf h0
  subst ha
  have hb := hs _ _ _ e h0
  refine ⟨b, off, rfl, fun j hj => ?_⟩
  have hc : ∀ i, w'.cell? ⟨b, i, none⟩ = w.cell? ⟨b, i, none⟩ := fun i => by
    simp only [World.cell?]
    show (match w'.heap[b]? with | _ => _) = (match w.heap[b]? with | _ => _)
    rw [show w'.heap[b]? = w.heap[b]? from hb]
  obtain ⟨c0, c1, c2⟩ := hat j hj
  rw [hc, hc, hc]
  exact ⟨c0, c1, c2⟩
theorem WrsAt.later {w w' : World} {v : Value} {l : List Wl.Wr} (h : WrsAt w v l) (hb : Below w.heap.size w w') : WrsAt w' v l := by
  obtain ⟨⟨a, cap, e, hf⟩⟩ := h
  refine ⟨⟨a, cap, e, fun h0 => ?_⟩⟩
  obtain ⟨b, off, ha, hat⟩ := hf h0
  exact ⟨b, off, ha, fun j hj => ⟨keepC hb (hat j hj).1, keepC hb (hat j hj).2.1, keepC hb (hat j hj).2.2⟩⟩
theorem WrsAt.cells {w : World} {b off n cap : Nat} {l : List Wl.Wr} (h : WrsAt w (.slice (some ⟨b, off, none⟩) n cap) l) (j : Nat) (hj : j < l.length) :
    w.cell? ⟨b, off + j * 3, none⟩ = some (str l[j].key) ∧ w.cell? ⟨b, off + j * 3 + 1, none⟩ = some (str l[j].value) ∧ w.cell? ⟨b, off + j * 3 + 2, none⟩ = some (.bool l[j].del) := by
  obtain ⟨⟨a, c, e, hf⟩⟩ := h
  obtain ⟨b', off', ha, hat⟩ := hf (fun h0 => by rw [h0] at hj; cases hj)
  cases e
  cases ha
  exact hat j hj
theorem WrsAt.some {w : World} {a : Option Addr} {n cap : Nat} {l : List Wl.Wr} (h : WrsAt w (.slice a n cap) l) (h0 : 0 < l.length) : ∃ b off, a = some ⟨b, off, none⟩ := by
  obtain ⟨⟨a', c', e, hf⟩⟩ := h
  obtain ⟨b, off, ha, _⟩ := hf (fun h1 => by rw [h1] at h0; cases h0)
  cases e
  exact ⟨b, off, ha⟩
theorem WrsAt.len {w : World} {a : Option Addr} {n cap : Nat} {l : List Wl.Wr} (h : WrsAt w (.slice a n cap) l) : n = l.length := by
  obtain ⟨⟨a', c', e, _⟩⟩ := h
  cases e; rfl
theorem WrsAt.nil (w : World) (a : Option Addr) (c : Nat) : WrsAt w (.slice a 0 c) [] := ⟨⟨a, c, rfl, fun h => absurd rfl h⟩⟩
end Go.Proofs.YtlhnjloimhcpfabGreatDoor
