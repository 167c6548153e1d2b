/-
  Do, of any operation and any values: the other ways, and all of them together.
-/
import Derived.Test.YtjddhakaebkkeaaDoorXE
namespace Go.Proofs.YtjddhakaebkkeaaDoor
open Go.RowKit
attribute [local go_sem ↓] Go.wp_at_zero Go.wp_at_succ

theorem cells_far {W : World} {B b o : Nat} {p q r : Value} (h : b < B) : (((W.setCell ⟨B, 0, none⟩ p).setCell ⟨B, 1, none⟩ q).setCell ⟨B, 2, none⟩ r).cell? ⟨b, o, none⟩ = W.cell? ⟨b, o, none⟩ :=
  ((((Below.refl B W).setCell (p := ⟨B, 0, none⟩) (Nat.le_refl _) p).setCell (p := ⟨B, 1, none⟩) (Nat.le_refl _) q).setCell (p := ⟨B, 2, none⟩) (Nat.le_refl _) r).cell (p := ⟨b, o, none⟩) h

theorem ref_just {op : Int} {l : List Val} (h : refE op l = 0) : justB op l.length = true ∧ l.all Val.may = true ∧ givesE op (l.map Val.k) = 0 := by
  unfold refE at h
  by_cases c : (justB op l.length && l.all Val.may) = true
  · rw [if_pos c] at h
    rw [Bool.and_eq_true] at c
    exact ⟨c.1, c.2, h⟩
  · rw [if_neg c] at h; cases h

theorem may_size {v : Val} (h : v.may = true) : v.t.size ≤ 1000 := by
  rcases may_cases v h with ⟨_, _, c⟩ | ⟨_, _, c⟩ | ⟨_, c⟩ | ⟨_, _, c⟩
  all_goals first
    | omega
    | (have : v.t.size = 0 := by
        rw [ByteArray.toList_eq] at c
        show v.t.data.size = 0
        rw [← Array.length_toList, c]; rfl
       omega)

end Go.Proofs.YtjddhakaebkkeaaDoor
