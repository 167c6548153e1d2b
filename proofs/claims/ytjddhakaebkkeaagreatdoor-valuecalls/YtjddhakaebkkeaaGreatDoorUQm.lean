/-
  The document's own Do, of any operation and any values.
-/
import Derived.Test.YtjddhakaebkkeaaGreatDoorUQg
import Derived.Test.YtjddhakaebkkeaaGreatDoorUQi
import Derived.Test.YtjddhakaebkkeaaGreatDoorUQj
import Derived.Test.YtjddhakaebkkeaaGreatDoorUQk
import Derived.Test.YtjddhakaebkkeaaGreatDoorUQl
namespace Go.Proofs.YtjddhakaebkkeaaGreatDoor
open Go.RowKit

/-- Do of the document, of any operation and any values (a list's capacity holds it). -/
theorem rdo_any (w : World) (op : Int) (v : Value) (l : List Val) (h : ValsIn w v l) (hcap : ∀ a n c, v = .slice a n c → n ≤ c) :
    Calls Tryz.prog 7 #[.int .u8 op, v] w fun e w' => e = .returned (tupR (doR op l)) ∧ Below w.heap.size w w' := by
  by_cases hr : refE op l = 0
  · obtain ⟨j, m, _⟩ := ref_just hr
    have m' : ∀ x ∈ l, x.may = true := List.all_eq_true.mp m
    have l2 : (op = 17 ∨ op = 18 ∨ op = 19 ∨ op = 20) ∨ (3 ≤ op ∧ op ≤ 16) ∧ l.length = 2 := by
      unfold justB takes at j
      simp only [Bool.and_eq_true, decide_eq_true_eq] at j
      split at j
      · omega
      · split at j <;> omega
    have l1 : (op = 17 ∨ op = 18 ∨ op = 19 ∨ op = 20) → ∃ x, l = [x] := fun ho => by
      have t1 : takes op = 1 := by rcases ho with rfl | rfl | rfl | rfl <;> rfl
      have l1 : l.length = 1 := by unfold justB at j; rw [t1] at j; simp at j; omega
      exact List.length_eq_one_iff.mp l1
    have two : l.length = 2 → ∃ x y, l = [x, y] := fun h2 => by
      match l, h2 with
      | [x, y], _ => exact ⟨x, y, rfl⟩
    rcases l2 with ho | ⟨ho, h2⟩
    · obtain ⟨x, hx⟩ := l1 ho
      by_cases h19 : op = 19 ∨ op = 20
      · exact rdo_null1 w op v l h hr h19 x hx
      have h17 : op = 17 ∨ op = 18 := by omega
      cases hn : l.any isN
      · rcases h17 with h17 | h18
        · exact rdo_not w op v l h hr h17 x hx hn
        · exact rdo_neg w op v l h hr h18 x hx hn
      · exact rdo_null w op v l h hr ⟨by simp; omega, by simp; omega, by simp; omega, by simp; omega⟩ hn
    · obtain ⟨x, y, hx⟩ := two h2
      by_cases h15 : op = 15 ∨ op = 16
      · exact rdo_logic w op v l h hr h15 x y hx
      cases hn : l.any isN
      · by_cases h7 : op ≤ 7
        · exact rdo_count w op v l h hr ⟨ho.1, h7⟩ x y hx hn
        by_cases h8 : op = 8
        · exact rdo_join w op v l h hr h8 x y hx hn
        exact rdo_cmp w op v l h hr ⟨by omega, by omega⟩ x y hx hn hcap
      · exact rdo_null w op v l h hr ⟨by simp; omega, by simp; omega, by simp; omega, by simp; omega⟩ hn
  · exact rdo_bad w op v l h hr
end Go.Proofs.YtjddhakaebkkeaaGreatDoor
