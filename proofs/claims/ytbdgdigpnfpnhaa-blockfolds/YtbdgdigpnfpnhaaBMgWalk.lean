/-
  Merged lists are in order, and have all that was in them: the walk.
-/
import Derived.Test.YtbdgdigpnfpnhaaBMergeW
import Derived.Test.YtbdgdigpnfpnhaaBMgF
import Derived.Test.YtbdgdigpnfpnhaaBAsk
import Derived.Test.YtbdgdigpnfpnhaaBLives
import Derived.Test.YtbdgdigpnfpnhaaBSmall
namespace Go.Proofs.Ytbdgdigpnfpnhaa.Q.blockMerge
open Go.RowKit
open Go.Proofs.Ytbdgdigpnfpnhaa.Q

theorem small_facts {l : List Mm.Ent} (h : smallB l = true) : l.length ≤ 70 ∧ ∀ y ∈ l, y.key.length ≤ 600 ∧ y.value.length ≤ 600 := by
  unfold smallB at h
  simp only [Bool.and_eq_true, decide_eq_true_eq] at h
  refine ⟨h.2, fun y hy => ?_⟩
  have := List.all_eq_true.1 h.1 y hy
  unfold shortE at this
  simpa using this
theorem total_take (ls : List (List Mm.Ent)) (j : Nat) (h : j < ls.length) : Bk.total (ls.take (j + 1)) = Bk.total (ls.take j) + ls[j].length := by
  unfold Bk.total
  rw [List.take_succ_eq_append_getElem h, List.map_append, List.sum_append]
  simp
theorem total_le (ls : List (List Mm.Ent)) (h : ∀ x ∈ ls, x.length ≤ 70) : Bk.total ls ≤ ls.length * 70 := by
  induction ls with
  | nil => simp [Bk.total]
  | cons x ls ih =>
    have h1 := h x (by simp)
    have h2 := ih fun y hy => h y (by simp [hy])
    rw [Bk.total_cons, List.length_cons]
    omega

end Go.Proofs.Ytbdgdigpnfpnhaa.Q.blockMerge
