/-
  The document's own Find and Scan; a list's front.
-/
import Derived.Test.YtbdgdigpnfpnhaaKI
import Derived.Test.YtbdgdigpnfpnhaaKM
namespace Go.Proofs.Ytbdgdigpnfpnhaa.Q
open Go.RowKit

theorem ents_front {w : World} {b off m c c' : Nat} {l r : List Mm.Ent} (h : EntsAt w (.slice (some ⟨b, off, none⟩) m c) (l ++ r)) : EntsAt w (.slice (some ⟨b, off, none⟩) l.length c') l := by
  refine ⟨⟨_, _, rfl, fun _ => ⟨b, off, rfl, fun j hj => ?_⟩⟩⟩
  have := h.cells j (by rw [List.length_append]; omega)
  rw [List.getElem_append_left hj] at this
  exact this

end Go.Proofs.Ytbdgdigpnfpnhaa.Q
