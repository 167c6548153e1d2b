/-
  The order of entries as the statements ask it; the puts of entries.
-/
import Derived.Test.YtbdgdigpnfpnhaaKL
import Derived.Test.YtbdgdigpnfpnhaaKR
import Derived.Test.YtbdgdigpnfpnhaaKG
namespace Go.Proofs.Ytbdgdigpnfpnhaa.Q
open Go.RowKit

theorem up_inOrd {l : List Mm.Ent} (h : Bk.inOrd l = true) : Mm.Up l := by
  induction l with
  | nil => exact List.Pairwise.nil
  | cons a r ih =>
    cases r with
    | nil => exact List.pairwise_singleton _ _
    | cons b r =>
      rw [Bk.inOrd, Bool.and_eq_true] at h
      have hr := ih h.2
      refine List.pairwise_cons.2 ⟨fun x hx => ?_, hr⟩
      rcases List.mem_cons.1 hx with rfl | hx
      · exact h.1
      · exact Mm.ahead_trans h.1 ((List.pairwise_cons.1 hr).1 x hx)

end Go.Proofs.Ytbdgdigpnfpnhaa.Q
