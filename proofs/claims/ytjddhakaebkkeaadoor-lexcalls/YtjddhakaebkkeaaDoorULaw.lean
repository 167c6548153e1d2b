/-
  The statements' own small questions: does an operation of two come to a value, does it have an error, do some examples hold?
-/
import Derived.Test.YtjddhakaebkkeaaDoorUDo3
namespace Go.Proofs.YtjddhakaebkkeaaDoor
open Go.RowKit
attribute [local go_sem ↓] Go.wp_at_zero Go.wp_at_succ

theorem two_in (w : World) (a b : Val) (ha : a.wf) (hb : b.wf) {B : Nat} (hB : B = w.heap.size) : ValsIn (w.alloc (.cells #[.int .u8 a.k, .int .i64 a.n, .string a.t, .int .u8 b.k, .int .i64 b.n, .string b.t] 64)) (.slice (some ⟨B, 0, none⟩) 2 2) [a, b] := by
  subst hB
  refine ⟨⟨_, 2, rfl, fun _ => ⟨_, _, rfl, ?_⟩⟩, ?_, by simp⟩
  · intro j hj
    have e : j = 0 ∨ j = 1 := by simp at hj; omega
    rcases e with rfl | rfl <;> simp [go_sem]
  · intro v hv
    simp at hv
    rcases hv with rfl | rfl <;> assumption

theorem ahead_at {w w2 : World} {x y z : Value} {t : TypeId} {o : Obj} {B : Nat} (hB : B = w.heap.size) (hb : Below ((w.alloc (.cells #[x, y, z] t)).alloc o).heap.size ((w.alloc (.cells #[x, y, z] t)).alloc o) w2) :
    w2.cell? ⟨B, 0, none⟩ = some x ∧ w2.cell? ⟨B, 1, none⟩ = some y ∧ w2.cell? ⟨B, 2, none⟩ = some z ∧ B < w2.heap.size := by
  subst hB
  obtain ⟨h0, h1, h2⟩ := ahead_slot hb
  exact ⟨h0, h1, h2, World.block_lt_of_cell? w2 _ h0⟩

/-- Does an operation of two come to a value? Does it have an error? -/
def isB (op : Int) (a b x : Val) : Bool := ((doR op [a, b]).2 == 0) && sameV (doR op [a, b]).1 x
def failsB (op : Int) (a b : Val) (e : Int) : Bool := ((doR op [a, b]).2 == e) && sameV (doR op [a, b]).1 nullV

theorem numV_wf {n : Int} (h : I64 n) : (numV n).wf := ⟨(by decide : (0 : Int) ≤ 2), (by decide : (2 : Int) ≤ 255), h.lo, h.hi, (by decide : (⟨#[]⟩ : ByteArray).size ≤ maxLen)⟩
theorem nullV_wf : nullV.wf := ⟨by decide, by decide, by decide, by decide, by decide⟩
theorem tv_wf (b : Bool) : (tv b).wf := by cases b <;> exact ⟨by decide, by decide, by decide, by decide, by decide⟩

theorem live1 : isB 6 (numV (-7)) (numV 2) (numV (-3)) = true := by decide +kernel
theorem live2 : isB 15 nullV (tv false) (tv false) = true := by decide +kernel
theorem live3 : failsB 6 (numV 1) (numV 0) 222 = true := by decide +kernel

end Go.Proofs.YtjddhakaebkkeaaDoor
