/-
  Kinds: a list of them, whether one is no kind, which kind is asked for, and what Gives answers of any list.
-/
import Derived.Test.YtjddhakaebkkeaaDoorUTake
namespace Go.Proofs.YtjddhakaebkkeaaDoor
open Go.RowKit
attribute [local go_sem ↓] Go.wp_at_zero Go.wp_at_succ

/-- Where the kinds of a slice lie. -/
def KindsAt (w : World) (b off : Nat) (l : List Int) : Prop := ∀ j (h : j < l.length), w.cell? ⟨b, off + j, none⟩ = some (.int .u8 l[j])
structure KindsIn (w : World) (v : Value) (l : List Int) : Prop where
  form : ∃ a cap, v = .slice a l.length cap ∧ (l ≠ [] → ∃ b off, a = some ⟨b, off, none⟩ ∧ KindsAt w b off l)
  len : l.length ≤ 1099511627776000
theorem KindsAt.later {w w' : World} {b off : Nat} {l : List Int} (h : KindsAt w b off l) (hb : Below w.heap.size w w') : KindsAt w' b off l := fun j hj =>
  (hb.cell (World.block_lt_of_cell? w _ (h j hj))).trans (h j hj)
theorem KindsIn.later {w w' : World} {v : Value} {l : List Int} (h : KindsIn w v l) (hb : Below w.heap.size w w') : KindsIn w' v l := by
  obtain ⟨⟨a, cap, hv, hf⟩, hlen⟩ := h
  exact ⟨⟨a, cap, hv, fun h0 => by obtain ⟨b, off, ha, hat⟩ := hf h0; exact ⟨b, off, ha, hat.later hb⟩⟩, hlen⟩

theorem still {f : FuncId} {args : Array Value} {w : World} {v : Ending} (c : Calls Tryd.prog f args w fun e w' => e = v ∧ w' = w) {K : Ending → World → Prop} (h : K v w) : Calls Tryd.prog f args w K := c.mono (by rintro e w' ⟨rfl, rfl⟩; exact h)

theorem any_take {α : Type} (p : α → Bool) (l : List α) (j : Nat) (h : j < l.length) (h0 : (l.take j).any p = false) : (l.take (j + 1)).any p = p l[j] := by
  rw [List.take_succ_eq_append_getElem h, List.any_append, h0]; simp
theorem any_there {α : Type} (p : α → Bool) (l : List α) (j : Nat) (h : j < l.length) (h1 : p l[j] = true) : l.any p = true := List.any_eq_true.mpr ⟨l[j], List.getElem_mem h, h1⟩

theorem firstK_take (l : List Int) (j : Nat) (h : j < l.length) (h0 : firstK l = firstK (l.drop j)) : (l[j] = 0 → firstK l = firstK (l.drop (j + 1))) ∧ (¬ l[j] = 0 → firstK l = l[j]) := by
  rw [List.drop_eq_getElem_cons h, firstK] at h0
  exact ⟨fun e => by rw [h0, if_pos e], fun e => by rw [h0, if_neg e]⟩

/-- The operations by what they ask for. -/
theorem op_ways (op : Int) : (op = 3 ∨ op = 4 ∨ op = 5 ∨ op = 6 ∨ op = 7 ∨ op = 18) ∨ op = 8 ∨ (op = 15 ∨ op = 16 ∨ op = 17) ∨ ((op == 3) = false ∧ (op == 4) = false ∧ (op == 5) = false ∧ (op == 6) = false ∧ (op == 7) = false ∧ (op == 18) = false ∧ (op == 8) = false ∧ (op == 15) = false ∧ (op == 16) = false ∧ (op == 17) = false) := by
  simp only [beq_eq_false_iff_ne]; omega

theorem oddK_ways (x k : Int) : (k = 0 ∧ oddK x k = false) ∨ ((k != 0) = true ∧ (k != x) = false ∧ oddK x k = false) ∨ ((k != 0) = true ∧ (k != x) = true ∧ oddK x k = true) := by
  by_cases h : k = 0
  · exact .inl ⟨h, by simp [oddK, h]⟩
  · by_cases h2 : k = x
    · exact .inr (.inl ⟨by simpa using h, by simpa using h2, by simp [oddK, h2]⟩)
    · exact .inr (.inr ⟨by simpa using h, by simpa using h2, by simp [oddK, h, h2]⟩)

end Go.Proofs.YtjddhakaebkkeaaDoor
