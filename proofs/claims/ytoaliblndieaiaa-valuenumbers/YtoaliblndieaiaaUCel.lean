/-
  Where one value lies, and that it stays there; calls one behind the other.
-/
import Derived.Test.YtoaliblndieaiaaULaw
namespace Go.Proofs.Ytoaliblndieaiaa
open Go.RowKit

/-- The value v lies in block B. -/
structure Cel (w : World) (B : Nat) (v : Val) : Prop where
  k : w.cell? ⟨B, 0, none⟩ = some (.int .u8 v.k)
  n : w.cell? ⟨B, 1, none⟩ = some (.int .i64 v.n)
  t : w.cell? ⟨B, 2, none⟩ = some (.string v.t)
  lt : B < w.heap.size
theorem Cel.later {w w' : World} {B : Nat} {v : Val} (h : Cel w B v) (hb : Below w.heap.size w w') : Cel w' B v :=
  ⟨(hb.cell (p := ⟨B, 0, none⟩) h.lt).trans h.k, (hb.cell (p := ⟨B, 1, none⟩) h.lt).trans h.n, (hb.cell (p := ⟨B, 2, none⟩) h.lt).trans h.t, Nat.lt_of_lt_of_le h.lt hb.size⟩
theorem Cel.alloc {w : World} {B : Nat} {v : Val} (h : Cel w B v) (o : Obj) : Cel (w.alloc o) B v := h.later ((Below.refl _ _).alloc (Nat.le_refl _) o)
theorem Cel.drew {w : World} {B : Nat} {v : Val} (h : Cel w B v) : Cel w.drew B v := h.later (Below.refl _ _).drew
theorem Cel.new {w : World} {B : Nat} {v : Val} (hB : B = w.heap.size) : Cel (w.alloc (.cells #[.int .u8 v.k, .int .i64 v.n, .string v.t] 25)) B v := by
  subst hB
  exact ⟨by simp, by simp, by simp, by simp⟩
theorem Cel.at {w : World} {B : Nat} {v : Val} {x y z : Value} (hB : B = w.heap.size) (hx : x = .int .u8 v.k) (hy : y = .int .i64 v.n) (hz : z = .string v.t) : Cel (w.alloc (.cells #[x, y, z] 25)) B v := by
  subst hx; subst hy; subst hz; exact Cel.new hB
theorem bmore {w a : World} (h : Below w.heap.size w a) (o : Obj) : Below w.heap.size w (a.alloc o) := h.alloc h.size o
theorem bthen {w a b : World} (h : Below w.heap.size w a) (k : Below a.heap.size a b) : Below w.heap.size w b := h.trans (k.mono h.size)

theorem Cel.wrote {W : World} {B : Nat} {K : Val} {x y z : Value} (q0 : W.cell? ⟨B, 0, none⟩ = some x) (q1 : W.cell? ⟨B, 1, none⟩ = some y) (q2 : W.cell? ⟨B, 2, none⟩ = some z) (r : B < W.heap.size) : Cel (((W.setCell ⟨B, 0, none⟩ (.int .u8 K.k)).setCell ⟨B, 1, none⟩ (.int .i64 K.n)).setCell ⟨B, 2, none⟩ (.string K.t)) B K := by
  have n01 : (⟨B, 0, none⟩ : Addr) ≠ ⟨B, 1, none⟩ := by simp
  have n02 : (⟨B, 0, none⟩ : Addr) ≠ ⟨B, 2, none⟩ := by simp
  have n12 : (⟨B, 1, none⟩ : Addr) ≠ ⟨B, 2, none⟩ := by simp
  refine ⟨?_, ?_, ?_, by simpa [World.setCell] using r⟩
  · exact (World.cell?_setCell_other _ _ _ _ n02.symm).trans ((World.cell?_setCell_other _ _ _ _ n01.symm).trans (World.cell?_setCell_same _ _ _ q0))
  · exact (World.cell?_setCell_other _ _ _ _ n12.symm).trans (World.cell?_setCell_same _ _ _ ((World.cell?_setCell_other _ _ _ _ n01).trans q1))
  · exact World.cell?_setCell_same _ _ _ ((World.cell?_setCell_other _ _ _ _ n12).trans ((World.cell?_setCell_other _ _ _ _ n02).trans q2))
theorem Cel.set3 {W : World} {B B' : Nat} {v : Val} {p q r : Value} (h : Cel W B' v) (hlt : B' < B) : Cel (((W.setCell ⟨B, 0, none⟩ p).setCell ⟨B, 1, none⟩ q).setCell ⟨B, 2, none⟩ r) B' v :=
  ⟨(cells_far hlt).trans h.k, (cells_far hlt).trans h.n, (cells_far hlt).trans h.t, by simpa [World.setCell] using h.lt⟩

theorem one_in' (w : World) (v : Val) (hv : v.wf) {B : Nat} (hB : B = w.heap.size) : ValsIn (w.alloc (.cells #[.int .u8 v.k, .int .i64 v.n, .string v.t] 25)) (.slice (some ⟨B, 0, none⟩) 1 1) [v] := one_in w v hv hB

/-- True, false and unknown. -/
def triV (n : Int) : Val := if n.tmod 3 = 0 then nullV else if n.tmod 3 = 1 ∨ n.tmod 3 = -1 then tv true else tv false
def Tri (v : Val) : Prop := v = nullV ∨ v = tv true ∨ v = tv false
theorem triV_tri (n : Int) : Tri (triV n) := by
  unfold triV; split
  · exact .inl rfl
  · split
    · exact .inr (.inl rfl)
    · exact .inr (.inr rfl)
theorem Tri.wf {v : Val} (h : Tri v) : v.wf := by
  rcases h with rfl | rfl | rfl
  · exact nullV_wf
  · exact tv_wf _
  · exact tv_wf _

set_option maxHeartbeats 800000 in
theorem three_any (w : World) (n : Int) : Calls Try.prog 15 #[.int .i64 n] w fun e w' => e = .returned (.agg #[.int .u8 (triV n).k, .int .i64 (triV n).n, .string (triV n).t]) ∧ Below w.heap.size w w' := by
  obtain ⟨m, hm⟩ : ∃ m, n.tmod 3 = m := ⟨_, rfl⟩
  have hb : -2 ≤ m ∧ m ≤ 2 := by
    have h1 := Int.natAbs_tmod n 3
    rw [hm] at h1
    have h2 : n.natAbs % (3 : Int).natAbs < 3 := Nat.mod_lt _ (by decide)
    omega
  have ws : IntKind.i64.wrap (n.tmod 3) = m := by rw [hm, IntKind.wrap_i64]; omega
  have hc : m = 0 ∨ m = 1 ∨ m = -1 ∨ m = 2 ∨ m = -2 := by omega
  have ht : triV n = if m = 0 then nullV else if m = 1 ∨ m = -1 then tv true else tv false := by unfold triV; rw [hm]
  rw [ht]
  clear hb ht
  rcases hc with rfl | rfl | rfl | rfl | rfl
  all_goals
    go_enter Try.func15, Try.ntmps15
    go_wp2_with (go_at_call 14; refine (ltruth_any _ _).mono ?_; rintro e w' ⟨rfl, rfl⟩)
  · refine bodyPost_ret (v := .agg #[.int .u8 0, .int .i64 0, .string ⟨#[]⟩]) (by simp [results, Try.results15, go_sem]; try rfl) rfl ⟨rfl, ?_⟩
    exact (Below.refl _ _).alloc (Nat.le_refl _) _
  · refine bodyPost_ret (v := .agg #[.int .u8 1, .int .i64 1, .string ⟨#[]⟩]) (by simp [results, Try.results15, go_sem]; try rfl) rfl ⟨rfl, ?_⟩
    exact ((Below.refl _ _).alloc (Nat.le_refl _) _).alloc (by simp) _
  · refine bodyPost_ret (v := .agg #[.int .u8 1, .int .i64 1, .string ⟨#[]⟩]) (by simp [results, Try.results15, go_sem]; try rfl) rfl ⟨rfl, ?_⟩
    exact ((Below.refl _ _).alloc (Nat.le_refl _) _).alloc (by simp) _
  · refine bodyPost_ret (v := .agg #[.int .u8 1, .int .i64 0, .string ⟨#[]⟩]) (by simp [results, Try.results15, go_sem]; try rfl) rfl ⟨rfl, ?_⟩
    exact ((Below.refl _ _).alloc (Nat.le_refl _) _).alloc (by simp) _
  · refine bodyPost_ret (v := .agg #[.int .u8 1, .int .i64 0, .string ⟨#[]⟩]) (by simp [results, Try.results15, go_sem]; try rfl) rfl ⟨rfl, ?_⟩
    exact ((Below.refl _ _).alloc (Nat.le_refl _) _).alloc (by simp) _
end Go.Proofs.Ytoaliblndieaiaa
