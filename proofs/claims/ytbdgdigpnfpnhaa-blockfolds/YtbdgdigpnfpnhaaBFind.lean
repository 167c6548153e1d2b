/-
  Find: the latest version of a key up to a number.
-/
import Derived.Test.YtbdgdigpnfpnhaaBVis
import Derived.Test.YtbdgdigpnfpnhaaBFoldP
namespace Go.Proofs.Ytbdgdigpnfpnhaa
open Go.RowKit

/-- What Find answers. -/
def findE (l : List Mm.Ent) (k : List UInt8) (q : Int) : Option Mm.Ent :=
  match (l.dropWhile fun x => Mm.ahead x ⟨k, [], q, false⟩).head? with
  | none => none
  | some x => if x.key = k then some x else none
theorem drop_ahead {l : List Mm.Ent} (W : Mm.Ent) (r : Nat) (hr : r ≤ l.length) (h1 : ∀ k (h : k < l.length), k < r → Mm.ahead l[k] W = true) (h2 : ∀ h : r < l.length, Mm.ahead l[r] W = false) : l.dropWhile (fun x => Mm.ahead x W) = l.drop r := by
  have e : l = l.take r ++ l.drop r := (List.take_append_drop r l).symm
  conv => lhs; rw [e]
  rw [List.dropWhile_append_of_pos (fun x hx => by
    obtain ⟨k, hk, rfl⟩ := List.mem_iff_getElem.1 hx
    rw [List.length_take] at hk
    rw [List.getElem_take]
    exact h1 k (by omega) (by omega))]
  by_cases hlt : r < l.length
  · rw [List.drop_eq_getElem_cons hlt, List.dropWhile_cons, h2 hlt]
    simp
  · rw [List.drop_eq_nil_of_le (by omega)]
    rfl
abbrev foundV : Option Mm.Ent → Value
  | none => .tuple #[entV ⟨[], [], 0, false⟩, .bool false]
  | some x => .tuple #[entV x, .bool true]

end Go.Proofs.Ytbdgdigpnfpnhaa
