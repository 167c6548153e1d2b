/-
  Lists of texts, and what is read as a text.
-/
import Derived.Test.YtclokpkhkokfhabVLives
namespace Go.Proofs.Ytclokpkhkokfhab
open Go.RowKit Go.Maps Go.Sort

/-- A list of texts lies there. -/
def TextsAt (w : World) (v : Value) (l : List Vf.Bs) : Prop := ∃ a cap, v = .slice a l.length cap ∧ (l ≠ [] → ∃ b off, a = some ⟨b, off, none⟩ ∧ ∀ j (h : j < l.length), w.cell? ⟨b, off + j, none⟩ = some (str l[j]))
theorem TextsAt.later {w w' : World} {v : Value} {l : List Vf.Bs} (h : TextsAt w v l) (hb : Below w.heap.size w w') : TextsAt w' v l := by
  obtain ⟨a, cap, e, hf⟩ := h
  refine ⟨a, cap, e, fun h0 => ?_⟩
  obtain ⟨b, off, ha, hat⟩ := hf h0
  exact ⟨b, off, ha, fun j hj => keepC hb (hat j hj)⟩
theorem texts_of_own {w : World} {base : Nat} {v : Value} {l : List Vf.Bs} (h : w.ownsRow base 9 1 v l.length (l.map str)) : TextsAt w v l := by
  rcases h.2 with ⟨rfl, h0⟩ | ⟨g, cap, cur, rfl, _⟩
  · have : l = [] := List.eq_nil_of_length_eq_zero h0
    subst this
    exact ⟨none, 0, rfl, fun h => absurd rfl h⟩
  · refine ⟨_, cap, rfl, fun _ => ⟨g, 0, rfl, fun j hj => ?_⟩⟩
    rw [Nat.zero_add, h.cellAt j (by omega)]
    simp [hj]
theorem texts_new (w : World) (l : List Vf.Bs) : TextsAt (w.alloc (.cells (l.map str).toArray 9)) (.slice (some ⟨w.heap.size, 0, none⟩) l.length l.length) l := by
  refine ⟨_, l.length, rfl, fun _ => ⟨w.heap.size, 0, rfl, fun j hj => ?_⟩⟩
  rw [Nat.zero_add]
  refine (Joins.cell_of_block (World.alloc_heap_new w _) j).trans ?_
  simp [hj]

theorem take_ne {l m : List Vf.Bs} {j : Nat} (h : j < l.length) (h' : j < m.length) (hne : l[j] ≠ m[j]) : l ≠ m := fun e => by subst e; exact hne rfl
/-- Bytes as a text. -/
theorem own_str {w : World} {base : Nat} {v : Value} {l : Vf.Bs} (h : w.ownsRow base 5 1 v l.length (bc l)) : (convert 30 9 v).run Try.prog w = .ok (.string ⟨l.toArray⟩) w :=
  Ext.str (base := base) (a := w) (b := w) (u := v) ⟨h, World.grownBy.refl w _, .inl rfl⟩

/-- Bytes that are written out. -/
theorem const_free {base lim : Nat} (u : World) (l : Vf.Bs) (n m : Nat) (h : lim ≤ u.heap.size) (hl : l.length ≤ 1000) (hn : n = l.length) : Free base lim (u.alloc (.cells (bc l).toArray 5 (n, m))) (.slice (some ⟨u.heap.size, 0, none⟩) n n) l := by
  subst hn
  refine ⟨BytesIn.block (B := u.heap.size) (World.alloc_heap_new u _) _ (by omega) (fun j hj => ?_) _ _ rfl, fun a m c e _ => ?_, fun a m c e _ => ?_⟩
  · have := bc_get l j hj
    simpa using this
  · cases e; exact .inr h
  · cases e; exact Nat.le_refl _

theorem rising_two (a b : Vf.Bs) : rising [a, b] = if a ≤ b then [a, b] else [b, a] := by
  unfold rising
  simp [List.mergeSort, List.MergeSort.Internal.splitInTwo, List.merge]
theorem names_two {σ : Vf.St} {a b : Vf.Bs} (ho : σ.on = true) (hh : σ.held.map (·.1) = [a, b]) (h : a ≤ b) : namesOf σ = [a, b] := by
  unfold namesOf; rw [if_pos ho, hh, rising_two, if_pos h]
theorem names_back {σ : Vf.St} {a b : Vf.Bs} (ho : σ.on = true) (hh : σ.held.map (·.1) = [b, a]) (h : ¬ b ≤ a) : namesOf σ = [a, b] := by
  unfold namesOf; rw [if_pos ho, hh, rising_two, if_neg h]
end Go.Proofs.Ytclokpkhkokfhab
