/-
  Why an operation is refused, and what decides of two Bools. .. and what follows from it.
-/
import Derived.Test.YtedamaccflhmfaaGreatDoorXUd
namespace Go.Proofs.YtedamaccflhmfaaGreatDoor
open Go.RowKit
attribute [local go_sem ↓] Go.wp_at_zero Go.wp_at_succ

theorem just_len {op : Int} {n : Nat} (h : justB op n = true) : n = 1 ∨ n = 2 := by
  unfold justB at h
  simp only [Bool.and_eq_true, decide_eq_true_eq] at h
  rcases takes_cases op with e | e | e <;> omega

theorem take_kinds (l : List Val) (j : Nat) (h : j < l.length) : (l.map Val.k).take (j + 1) = (l.map Val.k).take j ++ [l[j].k] := by
  rw [List.take_succ_eq_append_getElem (by simpa using h), List.getElem_map]

end Go.Proofs.YtedamaccflhmfaaGreatDoor
namespace Go.Proofs.YtedamaccflhmfaaGreatDoor
open Go.RowKit
attribute [local go_sem ↓] Go.wp_at_zero Go.wp_at_succ

/-- The Bool that decides, if it is among them; else Null, if one is; else the other Bool. -/
def decL (d : Bool) (l : List Val) : Val := if l.any (sameV (tv d)) then tv d else if l.any isN then nullV else tv (!d)
def v0 (l : List Val) : Val := l.headD nullV
def v1 (l : List Val) : Val := (l.drop 1).headD nullV
/-- What an operation makes of values that it is not refused of. -/
def makesR (op : Int) (l : List Val) : Val × Int :=
  if op = 19 then (tv (isN (v0 l)), 0) else if op = 20 then (tv (!isN (v0 l)), 0) else if op = 15 then (decL false l, 0) else if op = 16 then (decL true l, 0)
  else if l.any isN then (nullV, 0) else if op = 17 then (tv (!isT (v0 l)), 0) else if op = 18 then fitR (0 - (v0 l).n) else twoR op (v0 l) (v1 l)
def doR (op : Int) (l : List Val) : Val × Int := if refE op l = 0 then makesR op l else (nullV, refE op l)

theorem isT_tv (d : Bool) : isT (tv d) = d := by cases d <;> simp [isT, sameV, tv]

/-- The block ahead of the last one, behind a call. -/
theorem ahead_slot {w w2 : World} {x y z : Value} {t : TypeId} {o : Obj} (hb : Below ((w.alloc (.cells #[x, y, z] t)).alloc o).heap.size ((w.alloc (.cells #[x, y, z] t)).alloc o) w2) :
    w2.cell? ⟨w.heap.size, 0, none⟩ = some x ∧ w2.cell? ⟨w.heap.size, 1, none⟩ = some y ∧ w2.cell? ⟨w.heap.size, 2, none⟩ = some z := by
  refine ⟨(hb.cell (p := ⟨w.heap.size, 0, none⟩) (by simp; omega)).trans (by simp), (hb.cell (p := ⟨w.heap.size, 1, none⟩) (by simp; omega)).trans (by simp), (hb.cell (p := ⟨w.heap.size, 2, none⟩) (by simp; omega)).trans (by simp)⟩

end Go.Proofs.YtedamaccflhmfaaGreatDoor
namespace Go.Proofs.YtedamaccflhmfaaGreatDoor
open Go.RowKit
attribute [local go_sem ↓] Go.wp_at_zero Go.wp_at_succ

/-- Where the values of a list of one, of two, lie. -/
theorem one_at {w : World} {v : Value} {x : Val} (h : ValsIn w v [x]) : ∃ b off cap, v = .slice (some ⟨b, off, none⟩) 1 cap ∧ w.cell? ⟨b, off, none⟩ = some (.int .u8 x.k) ∧ w.cell? ⟨b, off + 1, none⟩ = some (.int .i64 x.n) ∧ w.cell? ⟨b, off + 2, none⟩ = some (.string x.t) := by
  obtain ⟨⟨a, cap, rfl, hf⟩, _, _⟩ := h
  obtain ⟨b, off, rfl, hv⟩ := hf (by simp)
  obtain ⟨h0, h1, h2⟩ := hv 0 (by simp)
  exact ⟨b, off, cap, rfl, by simpa using h0, by simpa using h1, by simpa using h2⟩
theorem two_at {w : World} {v : Value} {x y : Val} (h : ValsIn w v [x, y]) : ∃ b off cap, v = .slice (some ⟨b, off, none⟩) 2 cap ∧ (w.cell? ⟨b, off, none⟩ = some (.int .u8 x.k) ∧ w.cell? ⟨b, off + 1, none⟩ = some (.int .i64 x.n) ∧ w.cell? ⟨b, off + 2, none⟩ = some (.string x.t)) ∧ w.cell? ⟨b, off + 3, none⟩ = some (.int .u8 y.k) ∧ w.cell? ⟨b, off + 3 + 1, none⟩ = some (.int .i64 y.n) ∧ w.cell? ⟨b, off + 3 + 2, none⟩ = some (.string y.t) := by
  obtain ⟨⟨a, cap, rfl, hf⟩, _, _⟩ := h
  obtain ⟨b, off, rfl, hv⟩ := hf (by simp)
  obtain ⟨h0, h1, h2⟩ := hv 0 (by simp)
  obtain ⟨k0, k1, k2⟩ := hv 1 (by simp)
  exact ⟨b, off, cap, rfl, ⟨by simpa using h0, by simpa using h1, by simpa using h2⟩, by simpa using k0, by simpa using k1, by simpa using k2⟩

/-- The block of a call's first result, behind its first call. -/
theorem first_res {w w2 : World} {x y z : Value} {t : TypeId} (hb : Below (w.alloc (.cells #[x, y, z] t)).heap.size (w.alloc (.cells #[x, y, z] t)) w2) : Below w.heap.size w w2 := ((Below.refl _ _).alloc (Nat.le_refl _) _).trans (hb.mono (by simp))

theorem below_cells {w W : World} {B : Nat} {p q r : Value} (h : Below w.heap.size w W) (hB : w.heap.size ≤ B) : Below w.heap.size w (((W.setCell ⟨B, 0, none⟩ p).setCell ⟨B, 1, none⟩ q).setCell ⟨B, 2, none⟩ r) :=
  ((h.setCell (p := ⟨B, 0, none⟩) hB p).setCell (p := ⟨B, 1, none⟩) hB q).setCell (p := ⟨B, 2, none⟩) hB r

end Go.Proofs.YtedamaccflhmfaaGreatDoor
