/-
  Where one value lies, and that it stays there; calls one behind the other.
-/
import Derived.Test.YtoaliblndieaiaaDoorULaw
namespace Go.Proofs.YtoaliblndieaiaaDoor
open Go.RowKit

/-- The value v lies in block B. -/
structure Cel (w : World) (B : Nat) (v : Val) : Prop where
  k : w.cell? ⟨B, 0, none⟩ = some (.int .u8 v.k)
  n : w.cell? ⟨B, 1, none⟩ = some (.int .i64 v.n)
  t : w.cell? ⟨B, 2, none⟩ = some (.string v.t)
  lt : B < w.heap.size
theorem Cel.later {w w' : World} {B : Nat} {v : Val} (h : Cel w B v) (hb : Below w.heap.size w w') : Cel w' B v :=
  ⟨(hb.cell (p := ⟨B, 0, none⟩) h.lt).trans h.k, (hb.cell (p := ⟨B, 1, none⟩) h.lt).trans h.n, (hb.cell (p := ⟨B, 2, none⟩) h.lt).trans h.t, Nat.lt_of_lt_of_le h.lt hb.size⟩
theorem Cel.alloc {w : World} {B : Nat} {v : Val} (h : Cel w B v) (o : Obj) : Cel (w.alloc o) B v := h.later ((Below.refl _ _).alloc (Nat.le_refl _) o)
theorem Cel.drew {w : World} {B : Nat} {v : Val} (h : Cel w B v) : Cel w.drew B v := h.later (Below.refl _ _).drew
theorem Cel.new {w : World} {B : Nat} {v : Val} (hB : B = w.heap.size) : Cel (w.alloc (.cells #[.int .u8 v.k, .int .i64 v.n, .string v.t] 24)) B v := by
  subst hB
  exact ⟨by simp, by simp, by simp, by simp⟩
theorem Cel.at {w : World} {B : Nat} {v : Val} {x y z : Value} (hB : B = w.heap.size) (hx : x = .int .u8 v.k) (hy : y = .int .i64 v.n) (hz : z = .string v.t) : Cel (w.alloc (.cells #[x, y, z] 24)) B v := by
  subst hx; subst hy; subst hz; exact Cel.new hB
theorem bmore {w a : World} (h : Below w.heap.size w a) (o : Obj) : Below w.heap.size w (a.alloc o) := h.alloc h.size o
theorem bthen {w a b : World} (h : Below w.heap.size w a) (k : Below a.heap.size a b) : Below w.heap.size w b := h.trans (k.mono h.size)

theorem Cel.wrote {W : World} {B : Nat} {K : Val} {x y z : Value} (q0 : W.cell? ⟨B, 0, none⟩ = some x) (q1 : W.cell? ⟨B, 1, none⟩ = some y) (q2 : W.cell? ⟨B, 2, none⟩ = some z) (r : B < W.heap.size) : Cel (((W.setCell ⟨B, 0, none⟩ (.int .u8 K.k)).setCell ⟨B, 1, none⟩ (.int .i64 K.n)).setCell ⟨B, 2, none⟩ (.string K.t)) B K := by
  have n01 : (⟨B, 0, none⟩ : Addr) ≠ ⟨B, 1, none⟩ := by simp
  have n02 : (⟨B, 0, none⟩ : Addr) ≠ ⟨B, 2, none⟩ := by simp
  have n12 : (⟨B, 1, none⟩ : Addr) ≠ ⟨B, 2, none⟩ := by simp
  refine ⟨?_, ?_, ?_, by simpa [World.setCell] using r⟩
  · exact (World.cell?_setCell_other _ _ _ _ n02.symm).trans ((World.cell?_setCell_other _ _ _ _ n01.symm).trans (World.cell?_setCell_same _ _ _ q0))
  · exact (World.cell?_setCell_other _ _ _ _ n12.symm).trans (World.cell?_setCell_same _ _ _ ((World.cell?_setCell_other _ _ _ _ n01).trans q1))
  · exact World.cell?_setCell_same _ _ _ ((World.cell?_setCell_other _ _ _ _ n12).trans ((World.cell?_setCell_other _ _ _ _ n02).trans q2))
theorem Cel.set3 {W : World} {B B' : Nat} {v : Val} {p q r : Value} (h : Cel W B' v) (hlt : B' < B) : Cel (((W.setCell ⟨B, 0, none⟩ p).setCell ⟨B, 1, none⟩ q).setCell ⟨B, 2, none⟩ r) B' v :=
  ⟨(cells_far hlt).trans h.k, (cells_far hlt).trans h.n, (cells_far hlt).trans h.t, by simpa [World.setCell] using h.lt⟩

theorem one_in' (w : World) (v : Val) (hv : v.wf) {B : Nat} (hB : B = w.heap.size) : ValsIn (w.alloc (.cells #[.int .u8 v.k, .int .i64 v.n, .string v.t] 24)) (.slice (some ⟨B, 0, none⟩) 1 1) [v] := one_in w v hv hB

/-- True, false and unknown. -/
def triV (n : Int) : Val := if n.tmod 3 = 0 then nullV else if n.tmod 3 = 1 ∨ n.tmod 3 = -1 then tv true else tv false
def Tri (v : Val) : Prop := v = nullV ∨ v = tv true ∨ v = tv false
theorem triV_tri (n : Int) : Tri (triV n) := by
  unfold triV; split
  · exact .inl rfl
  · split
    · exact .inr (.inl rfl)
    · exact .inr (.inr rfl)
theorem Tri.wf {v : Val} (h : Tri v) : v.wf := by
  rcases h with rfl | rfl | rfl
  · exact nullV_wf
  · exact tv_wf _
  · exact tv_wf _

end Go.Proofs.YtoaliblndieaiaaDoor
