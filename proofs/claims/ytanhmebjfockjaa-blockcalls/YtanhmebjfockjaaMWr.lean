/-
  Writes in plain words, and where they can be read.
-/
import Derived.Test.YtanhmebjfockjaaMBase
import Derived.Maps.OwnSet
import Derived.Maps.OwnOps
namespace Go.Proofs.Ytanhmebjfockjaa
open Go.RowKit Go.Maps Go.MapKept Go.ChangeMaps

theorem lawS : Keyed Try.prog 9 := string_keyed Try.underlying9
theorem keyS (k : Vf.Bs) (h : k.length ≤ 1000000) : keyOf Try.prog 9 (str k) = some (.string k) := by
  have := WideMaps.keyOf_string_mk (P := Try.prog) (k := 9) Try.underlying9 (s := ⟨k.toArray⟩) (by show k.toArray.size ≤ maxLen; simp [maxLen]; omega)
  simpa using this
theorem keyLitS (k : Vf.Bs) : WideAt.IsKeyLit (.string k) := by trivial

namespace Wl
abbrev Bs := List UInt8
structure Wr where
  key : Bs
  value : Bs
  del : Bool
/-- May a write be? -/
def mayBe (x : Wr) : Bool := decide (x.key ≠ []) && decide (x.key.length ≤ 512) && decide (x.value.length ≤ 4096) && (!x.del || decide (x.value = []))
/-- Have two one key? -/
def shared : List Wr → Bool
  | [] => false
  | x :: r => r.any (fun y => decide (y.key = x.key)) || shared r
def checkE (l : List Wr) : Int :=
  if l.length = 0 then 2 else if l.length > 64 then 3 else if l.all mayBe then if shared l then 9 else 0 else 2
end Wl

/-- Writes, where they can be read. -/
structure WrsAt (w : World) (v : Value) (l : List Wl.Wr) : Prop where
  form : ∃ a cap, v = .slice a l.length cap ∧ (l ≠ [] → ∃ b off, a = some ⟨b, off, none⟩ ∧ ∀ j (h : j < l.length), w.cell? ⟨b, off + j * 3, none⟩ = some (str l[j].key) ∧ w.cell? ⟨b, off + j * 3 + 1, none⟩ = some (str l[j].value) ∧ w.cell? ⟨b, off + j * 3 + 2, none⟩ = some (.bool l[j].del))

theorem WrsAt.same {w w' : World} {v : Value} {l : List Wl.Wr} (h : WrsAt w v l) (hs : ∀ a n c, v = .slice (some a) n c → l ≠ [] → w'.heap[a.block]? = w.heap[a.block]?) : WrsAt w' v l := by
  obtain ⟨⟨a, cap, e, hf⟩⟩ := h
  refine ⟨⟨a, cap, e, fun h0 => ?_⟩⟩
  obtain ⟨b, off, ha, hat⟩ := hf h0
  subst ha
  have hb := hs _ _ _ e h0
  refine ⟨b, off, rfl, fun j hj => ?_⟩
  have hc : ∀ i, w'.cell? ⟨b, i, none⟩ = w.cell? ⟨b, i, none⟩ := fun i => by
    simp only [World.cell?]
    show (match w'.heap[b]? with | _ => _) = (match w.heap[b]? with | _ => _)
    rw [show w'.heap[b]? = w.heap[b]? from hb]
  obtain ⟨c0, c1, c2⟩ := hat j hj
  rw [hc, hc, hc]
  exact ⟨c0, c1, c2⟩
theorem WrsAt.later {w w' : World} {v : Value} {l : List Wl.Wr} (h : WrsAt w v l) (hb : Below w.heap.size w w') : WrsAt w' v l := by
  obtain ⟨⟨a, cap, e, hf⟩⟩ := h
  refine ⟨⟨a, cap, e, fun h0 => ?_⟩⟩
  obtain ⟨b, off, ha, hat⟩ := hf h0
  exact ⟨b, off, ha, fun j hj => ⟨keepC hb (hat j hj).1, keepC hb (hat j hj).2.1, keepC hb (hat j hj).2.2⟩⟩
theorem WrsAt.cells {w : World} {b off n cap : Nat} {l : List Wl.Wr} (h : WrsAt w (.slice (some ⟨b, off, none⟩) n cap) l) (j : Nat) (hj : j < l.length) :
    w.cell? ⟨b, off + j * 3, none⟩ = some (str l[j].key) ∧ w.cell? ⟨b, off + j * 3 + 1, none⟩ = some (str l[j].value) ∧ w.cell? ⟨b, off + j * 3 + 2, none⟩ = some (.bool l[j].del) := by
  obtain ⟨⟨a, c, e, hf⟩⟩ := h
  obtain ⟨b', off', ha, hat⟩ := hf (fun h0 => by rw [h0] at hj; cases hj)
  cases e
  cases ha
  exact hat j hj
theorem WrsAt.some {w : World} {a : Option Addr} {n cap : Nat} {l : List Wl.Wr} (h : WrsAt w (.slice a n cap) l) (h0 : 0 < l.length) : ∃ b off, a = some ⟨b, off, none⟩ := by
  obtain ⟨⟨a', c', e, hf⟩⟩ := h
  obtain ⟨b, off, ha, _⟩ := hf (fun h1 => by rw [h1] at h0; cases h0)
  cases e
  exact ⟨b, off, ha⟩
theorem WrsAt.len {w : World} {a : Option Addr} {n cap : Nat} {l : List Wl.Wr} (h : WrsAt w (.slice a n cap) l) : n = l.length := by
  obtain ⟨⟨a', c', e, _⟩⟩ := h
  cases e; rfl
theorem WrsAt.nil (w : World) (a : Option Addr) (c : Nat) : WrsAt w (.slice a 0 c) [] := ⟨⟨a, c, rfl, fun h => absurd rfl h⟩⟩
end Go.Proofs.Ytanhmebjfockjaa
