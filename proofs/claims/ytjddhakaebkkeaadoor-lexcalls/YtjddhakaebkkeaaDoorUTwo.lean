/-
  What an operation of two values that go with it makes of them; what decides of two Bools; why an operation is refused.
-/
import Derived.Test.YtjddhakaebkkeaaDoorURefuse
import Derived.Test.YtjddhakaebkkeaaDoorUArith
namespace Go.Proofs.YtjddhakaebkkeaaDoor
open Go.RowKit
attribute [local go_sem ↓] Go.wp_at_zero Go.wp_at_succ

/-- What an operation of two values that go with it makes of them, neither Null. -/
def twoR (op : Int) (a b : Val) : Val × Int :=
  if op = 3 then fitR (a.n + b.n) else if op = 4 then fitR (a.n - b.n) else if op = 5 then fitR (a.n * b.n) else if op = 6 then divR a.n b.n else if op = 7 then modR a.n b.n else if op = 8 then joinR a.t b.t else (tv (holdsB op (cmpV a b)), 0)

theorem Val.wf.i {v : Val} (h : v.wf) : I64 v.n := ⟨h.n0, h.n1⟩

theorem one_in (w : World) (v : Val) (hv : v.wf) {B : Nat} (hB : B = w.heap.size) : ValsIn (w.alloc (.cells #[.int .u8 v.k, .int .i64 v.n, .string v.t] 64)) (.slice (some ⟨B, 0, none⟩) 1 1) [v] := by
  subst hB
  refine ⟨⟨_, 1, rfl, fun _ => ⟨_, _, rfl, ?_⟩⟩, by simpa using hv, by simp⟩
  intro j hj
  have e : j = 0 := by simp at hj; omega
  subst e
  simp [go_sem]
/-- What is held of a call's own block of three cells behind another call. -/
theorem three_slot {w w2 : World} {x y z : Value} {t : TypeId} {B : Nat} (hB : B = w.heap.size) (hb : Below (w.alloc (.cells #[x, y, z] t)).heap.size (w.alloc (.cells #[x, y, z] t)) w2) :
    w2.cell? ⟨B, 0, none⟩ = some x ∧ w2.cell? ⟨B, 1, none⟩ = some y ∧ w2.cell? ⟨B, 2, none⟩ = some z ∧ w2.frozen? ⟨B, 0, none⟩ = false ∧ w2.frozen? ⟨B, 1, none⟩ = false ∧ w2.frozen? ⟨B, 2, none⟩ = false ∧ B < w2.heap.size := by
  subst hB
  refine ⟨(hb.cell (p := ⟨w.heap.size, 0, none⟩) (by simp)).trans (by simp), (hb.cell (p := ⟨w.heap.size, 1, none⟩) (by simp)).trans (by simp), (hb.cell (p := ⟨w.heap.size, 2, none⟩) (by simp)).trans (by simp), (hb.frozen (p := ⟨w.heap.size, 0, none⟩) (by simp)).trans (by simp), (hb.frozen (p := ⟨w.heap.size, 1, none⟩) (by simp)).trans (by simp), (hb.frozen (p := ⟨w.heap.size, 2, none⟩) (by simp)).trans (by simp), ?_⟩
  have := hb.size
  simp at this; omega
theorem below_two {W w2 : World} {o o' : Obj} (h : Below ((W.alloc o).alloc o').heap.size ((W.alloc o).alloc o') w2) : Below W.heap.size W w2 :=
  (((Below.refl _ _).alloc (Nat.le_refl _) o).alloc (by simp) o').trans (h.mono (by simp; omega))
theorem cmpL_one (a b : Val) : cmpL [a] [b] = cmpV a b := by
  rw [cmpL]
  split
  · next h => rw [h]; rfl
  · rfl

end Go.Proofs.YtjddhakaebkkeaaDoor
