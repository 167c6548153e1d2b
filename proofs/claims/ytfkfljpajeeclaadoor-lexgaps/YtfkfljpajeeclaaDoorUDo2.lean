/-
  Do, of any operation and any values.
-/
import Derived.Test.YtfkfljpajeeclaaDoorUDo
namespace Go.Proofs.YtfkfljpajeeclaaDoor
open Go.RowKit
attribute [local go_sem ↓] Go.wp_at_zero Go.wp_at_succ

/-- Where the values of a list of one, of two, lie. -/
theorem one_at {w : World} {v : Value} {x : Val} (h : ValsIn w v [x]) : ∃ b off cap, v = .slice (some ⟨b, off, none⟩) 1 cap ∧ w.cell? ⟨b, off, none⟩ = some (.int .u8 x.k) ∧ w.cell? ⟨b, off + 1, none⟩ = some (.int .i64 x.n) ∧ w.cell? ⟨b, off + 2, none⟩ = some (.string x.t) := by
  obtain ⟨⟨a, cap, rfl, hf⟩, _, _⟩ := h
  obtain ⟨b, off, rfl, hv⟩ := hf (by simp)
  obtain ⟨h0, h1, h2⟩ := hv 0 (by simp)
  exact ⟨b, off, cap, rfl, by simpa using h0, by simpa using h1, by simpa using h2⟩
theorem two_at {w : World} {v : Value} {x y : Val} (h : ValsIn w v [x, y]) : ∃ b off cap, v = .slice (some ⟨b, off, none⟩) 2 cap ∧ (w.cell? ⟨b, off, none⟩ = some (.int .u8 x.k) ∧ w.cell? ⟨b, off + 1, none⟩ = some (.int .i64 x.n) ∧ w.cell? ⟨b, off + 2, none⟩ = some (.string x.t)) ∧ w.cell? ⟨b, off + 3, none⟩ = some (.int .u8 y.k) ∧ w.cell? ⟨b, off + 3 + 1, none⟩ = some (.int .i64 y.n) ∧ w.cell? ⟨b, off + 3 + 2, none⟩ = some (.string y.t) := by
  obtain ⟨⟨a, cap, rfl, hf⟩, _, _⟩ := h
  obtain ⟨b, off, rfl, hv⟩ := hf (by simp)
  obtain ⟨h0, h1, h2⟩ := hv 0 (by simp)
  obtain ⟨k0, k1, k2⟩ := hv 1 (by simp)
  exact ⟨b, off, cap, rfl, ⟨by simpa using h0, by simpa using h1, by simpa using h2⟩, by simpa using k0, by simpa using k1, by simpa using k2⟩

/-- The block of a call's first result, behind its first call. -/
theorem first_res {w w2 : World} {x y z : Value} {t : TypeId} (hb : Below (w.alloc (.cells #[x, y, z] t)).heap.size (w.alloc (.cells #[x, y, z] t)) w2) : Below w.heap.size w w2 := ((Below.refl _ _).alloc (Nat.le_refl _) _).trans (hb.mono (by simp))

theorem below_cells {w W : World} {B : Nat} {p q r : Value} (h : Below w.heap.size w W) (hB : w.heap.size ≤ B) : Below w.heap.size w (((W.setCell ⟨B, 0, none⟩ p).setCell ⟨B, 1, none⟩ q).setCell ⟨B, 2, none⟩ r) :=
  ((h.setCell (p := ⟨B, 0, none⟩) hB p).setCell (p := ⟨B, 1, none⟩) hB q).setCell (p := ⟨B, 2, none⟩) hB r

end Go.Proofs.YtfkfljpajeeclaaDoor
