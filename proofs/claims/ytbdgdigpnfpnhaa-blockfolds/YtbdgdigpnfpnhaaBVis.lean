/-
  Visible: what it answers of entries in order.
-/
import Derived.Test.YtbdgdigpnfpnhaaKE
import Derived.Test.YtbdgdigpnfpnhaaBDec2
import Derived.Deep.Cut
import Derived.Deep.CutRange
namespace Go.Proofs.Ytbdgdigpnfpnhaa
open Go.RowKit

theorem EntsAt.drop {w : World} {a : Option Addr} {n c : Nat} {l : List Mm.Ent} (h : EntsAt w (.slice a n c) l) (r c' : Nat) : EntsAt w (.slice (a.map fun x => x.add (r * 4)) (n - r) c') (l.drop r) := by
  obtain ⟨⟨a', c2, e, hf⟩⟩ := h
  cases e
  refine ⟨⟨_, _, by rw [List.length_drop], fun h0 => ?_⟩⟩
  obtain ⟨b, off, rfl, hat⟩ := hf (fun e => h0 (by rw [e]; simp))
  have hadd : (⟨b, off, none⟩ : Addr).add (r * 4) = ⟨b, off + r * 4, none⟩ := by unfold Addr.add; split <;> simp_all
  refine ⟨b, off + r * 4, by show Option.some (Addr.add _ _) = _; rw [hadd], fun j hj => ?_⟩
  rw [List.length_drop] at hj
  have := hat (r + j) (by omega)
  rw [List.getElem_drop]
  rw [show off + r * 4 + j * 4 = off + (r + j) * 4 by rw [Nat.add_mul]; omega]
  exact this
theorem takeWhile_at {α : Type} (p : α → Bool) (l : List α) (j : Nat) (h : j < l.length) (h1 : ∀ x ∈ l.take j, p x = true) (h2 : p l[j] = false) : l.takeWhile p = l.take j := by
  have e : l = l.take j ++ l[j] :: l.drop (j + 1) := by rw [← List.drop_eq_getElem_cons h, List.take_append_drop]
  conv => lhs; rw [e]
  rw [List.takeWhile_append_of_pos h1, List.takeWhile_cons, h2]
  simp
theorem takeWhile_all {α : Type} (p : α → Bool) (l : List α) (h1 : ∀ x ∈ l, p x = true) : l.takeWhile p = l := by
  induction l with
  | nil => rfl
  | cons a r ih => rw [List.takeWhile_cons, h1 a (by simp), if_pos rfl, ih (fun x hx => h1 x (by simp [hx]))]
theorem own_someE {w : World} {base e size n : Nat} {v : Value} {xs : List Value} (h : w.ownsRow base e size v n xs) (h0 : n ≠ 0) : ∃ g cap, v = .slice (some ⟨g, 0, none⟩) n cap := by
  rcases h.2 with ⟨_, h1⟩ | ⟨g, cap, cur, rfl, _⟩
  · exact absurd h1 h0
  · exact ⟨g, cap, rfl⟩
theorem last_cell {w : World} {g n cap : Nat} {o : List Mm.Ent} {y : Mm.Ent} (h : EntsAt w (.slice (some ⟨g, 0, none⟩) n cap) (o ++ [y])) : w.cell? ⟨g, o.length * 4, none⟩ = some (str y.key) := by
  have := (h.cells o.length (by simp)).1
  rw [Nat.zero_add] at this
  simpa using this
/-- Is the key told already? -/
def toldB (out : List Mm.Ent) (x : Mm.Ent) : Bool := decide (out.getLast?.map (·.key) = some x.key)
theorem toldB_snoc (o : List Mm.Ent) (y x : Mm.Ent) : toldB (o ++ [y]) x = (y.key == x.key) := by
  have h : (o ++ [y]).getLast?.map (·.key) = some y.key := by simp
  by_cases e : y.key = x.key
  · rw [e]
    simp only [beq_self_eq_true]
    exact decide_eq_true (h.trans (by rw [e]))
  · rw [beq_eq_false_iff_ne.2 e]
    exact decide_eq_false (fun h2 => e (Option.some.inj (h.symm.trans h2)))
theorem tell_yes {seq : Int} {out : List Mm.Ent} {x : Mm.Ent} (h : x.seq ≤ seq) (ht : toldB out x = false) : Mm.tell seq out x = out ++ [x] := by
  unfold Mm.tell
  exact if_pos ⟨h, of_decide_eq_false ht⟩
theorem tell_no {seq : Int} {out : List Mm.Ent} {x : Mm.Ent} (h : ¬ x.seq ≤ seq ∨ toldB out x = true) : Mm.tell seq out x = out := by
  unfold Mm.tell
  refine if_neg (fun hc => ?_)
  rcases h with h | h
  · exact h hc.1
  · exact hc.2 (of_decide_eq_true h)

end Go.Proofs.Ytbdgdigpnfpnhaa
