/-
  Why an operation is refused, and what decides of two Bools.
-/
import Derived.Test.YtfkfljpajeeclaaDoorUTwo
namespace Go.Proofs.YtfkfljpajeeclaaDoor
open Go.RowKit
attribute [local go_sem ↓] Go.wp_at_zero Go.wp_at_succ

theorem just_len {op : Int} {n : Nat} (h : justB op n = true) : n = 1 ∨ n = 2 := by
  unfold justB at h
  simp only [Bool.and_eq_true, decide_eq_true_eq] at h
  rcases takes_cases op with e | e | e <;> omega

theorem take_kinds (l : List Val) (j : Nat) (h : j < l.length) : (l.map Val.k).take (j + 1) = (l.map Val.k).take j ++ [l[j].k] := by
  rw [List.take_succ_eq_append_getElem (by simpa using h), List.getElem_map]

end Go.Proofs.YtfkfljpajeeclaaDoor
