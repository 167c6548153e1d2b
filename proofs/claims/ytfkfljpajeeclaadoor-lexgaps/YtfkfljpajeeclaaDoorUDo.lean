/-
  What an operation does to any values: the value and the error that Do answers, of every list.
-/
import Derived.Test.YtfkfljpajeeclaaDoorUDo0
namespace Go.Proofs.YtfkfljpajeeclaaDoor
open Go.RowKit
attribute [local go_sem ↓] Go.wp_at_zero Go.wp_at_succ

/-- The Bool that decides, if it is among them; else Null, if one is; else the other Bool. -/
def decL (d : Bool) (l : List Val) : Val := if l.any (sameV (tv d)) then tv d else if l.any isN then nullV else tv (!d)
def v0 (l : List Val) : Val := l.headD nullV
def v1 (l : List Val) : Val := (l.drop 1).headD nullV
/-- What an operation makes of values that it is not refused of. -/
def makesR (op : Int) (l : List Val) : Val × Int :=
  if op = 19 then (tv (isN (v0 l)), 0) else if op = 20 then (tv (!isN (v0 l)), 0) else if op = 15 then (decL false l, 0) else if op = 16 then (decL true l, 0)
  else if l.any isN then (nullV, 0) else if op = 17 then (tv (!isT (v0 l)), 0) else if op = 18 then fitR (0 - (v0 l).n) else twoR op (v0 l) (v1 l)
def doR (op : Int) (l : List Val) : Val × Int := if refE op l = 0 then makesR op l else (nullV, refE op l)

theorem isT_tv (d : Bool) : isT (tv d) = d := by cases d <;> simp [isT, sameV, tv]

/-- The block ahead of the last one, behind a call. -/
theorem ahead_slot {w w2 : World} {x y z : Value} {t : TypeId} {o : Obj} (hb : Below ((w.alloc (.cells #[x, y, z] t)).alloc o).heap.size ((w.alloc (.cells #[x, y, z] t)).alloc o) w2) :
    w2.cell? ⟨w.heap.size, 0, none⟩ = some x ∧ w2.cell? ⟨w.heap.size, 1, none⟩ = some y ∧ w2.cell? ⟨w.heap.size, 2, none⟩ = some z := by
  refine ⟨(hb.cell (p := ⟨w.heap.size, 0, none⟩) (by simp; omega)).trans (by simp), (hb.cell (p := ⟨w.heap.size, 1, none⟩) (by simp; omega)).trans (by simp), (hb.cell (p := ⟨w.heap.size, 2, none⟩) (by simp; omega)).trans (by simp)⟩

end Go.Proofs.YtfkfljpajeeclaaDoor
