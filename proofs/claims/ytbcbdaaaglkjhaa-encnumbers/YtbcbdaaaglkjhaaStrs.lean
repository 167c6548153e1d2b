/-
  Plain facts on texts: their order, what begins with what, and the least text above all that begin with one.
-/
import Derived.Test.YtbcbdaaaglkjhaaBase
import Derived.Lib.Strings
namespace Go.Proofs.Ytbcbdaaaglkjhaa
open Go.RowKit

/-- The least text above all that begin with l, or the empty one. -/
def aft : List UInt8 → List UInt8
  | [] => []
  | c :: r => if aft r = [] then (if c.toNat < 255 then [UInt8.ofNat (c.toNat + 1)] else []) else c :: aft r

theorem aft_split (p : List UInt8) (c : UInt8) (r : List UInt8) (hr : aft r = []) (hc : c.toNat < 255) : aft (p ++ c :: r) = p ++ [UInt8.ofNat (c.toNat + 1)] := by
  induction p with
  | nil => simp [aft, hr, hc]
  | cons d p ih => simp [aft, ih]

theorem aft_255 (c : UInt8) (r : List UInt8) (hr : aft r = []) (hc : ¬ c.toNat < 255) : aft (c :: r) = [] := by simp [aft, hr, hc]

theorem aft_length (l : List UInt8) : (aft l).length ≤ l.length := by
  induction l with
  | nil => simp [aft]
  | cons c r ih =>
    unfold aft
    split
    · split <;> simp
    · simp; exact ih

theorem succ_toNat (c : UInt8) (h : c.toNat < 255) : (UInt8.ofNat (c.toNat + 1)).toNat = c.toNat + 1 := by
  rw [UInt8.toNat_ofNat']; omega

/-- Is a text in the span? -/
def inB (k f t : List UInt8) : Bool := !Op.bytesLess k f && (t.isEmpty || Op.bytesLess k t)

theorem bytesLess_irrefl (l : List UInt8) : Op.bytesLess l l = false := by
  induction l with
  | nil => rfl
  | cons c r ih => simp [Op.bytesLess, ih]

theorem u8_lt (a b : UInt8) : (a < b) = (a.toNat < b.toNat) := rfl
theorem u8_eq (a b : UInt8) : (a == b) = decide (a.toNat = b.toNat) := by
  rw [Bool.eq_iff_iff]; simp [UInt8.toNat_inj]

theorem bl_cons (a b : UInt8) (x y : List UInt8) : Op.bytesLess (a :: x) (b :: y) = (decide (a.toNat < b.toNat) || (decide (a.toNat = b.toNat) && Op.bytesLess x y)) := by
  simp [Op.bytesLess, u8_eq, UInt8.lt_iff_toNat_lt]

theorem isPrefixOf_cons (c d : UInt8) (r u : List UInt8) : (c :: r).isPrefixOf (d :: u) = (decide (c.toNat = d.toNat) && r.isPrefixOf u) := by
  simp [List.isPrefixOf, u8_eq]

/-- What begins with l is in the span from l to aft l, and nothing else is. -/
theorem in_aft (l : List UInt8) : ∀ t, inB t l (aft l) = l.isPrefixOf t := by
  induction l with
  | nil => intro t; cases t <;> simp [inB, aft, Op.bytesLess]
  | cons c r ih =>
    intro t
    cases t with
    | nil => simp [inB, Op.bytesLess]
    | cons d u =>
      have hi := ih u
      have hd : d.toNat < 256 := d.toNat_lt
      rw [isPrefixOf_cons]
      unfold inB at hi ⊢
      rw [bl_cons]
      unfold aft
      by_cases he : aft r = []
      · rw [if_pos he]
        rw [he] at hi
        simp only [List.isEmpty_nil, Bool.true_or, Bool.and_true] at hi
        by_cases hc : c.toNat < 255
        · rw [if_pos hc, bl_cons, succ_toNat c hc]
          rw [← hi]
          by_cases h1 : d.toNat < c.toNat
          · simp [h1]; intro h; omega
          · by_cases h2 : d.toNat = c.toNat
            · simp [h2]
            · have h3 : ¬ c.toNat = d.toNat := fun h => h2 h.symm
              have h4 : ¬ d.toNat < c.toNat + 1 := by omega
              cases u <;> simp [h1, h2, h3, h4, Op.bytesLess]
        · rw [if_neg hc, ← hi]
          by_cases h1 : d.toNat < c.toNat
          · simp [h1]; intro h; omega
          · have h2 : d.toNat = c.toNat := by have := c.toNat_lt; omega
            simp [h2]
      · rw [if_neg he, bl_cons]
        have hne : (aft r).isEmpty = false := by cases h : aft r with | nil => exact absurd h he | cons _ _ => rfl
        rw [hne, Bool.false_or] at hi
        rw [← hi]
        by_cases h1 : d.toNat < c.toNat
        · simp [h1]; intro h; omega
        · by_cases h2 : d.toNat = c.toNat
          · simp [h2]
          · have h3 : ¬ c.toNat = d.toNat := fun h => h2 h.symm
            simp [h1, h2, h3]

/-- The least text above is above. -/
theorem aft_above (l : List UInt8) (h : aft l ≠ []) : (!(Op.bytesLess (aft l) l || aft l == l)) = true := by
  induction l with
  | nil => exact absurd rfl h
  | cons c r ih =>
    unfold aft at h ⊢
    by_cases he : aft r = []
    · rw [if_pos he] at h ⊢
      by_cases hc : c.toNat < 255
      · rw [if_pos hc] at h ⊢
        have h1 := succ_toNat c hc
        rw [bl_cons, h1]
        simp
      · rw [if_neg hc] at h; exact absurd rfl h
    · rw [if_neg he] at h ⊢
      have hi := ih he
      rw [bl_cons]
      simpa using hi

theorem aft_no_prefix (l : List UInt8) (h : aft l ≠ []) : l.isPrefixOf (aft l) = false := by
  rw [← in_aft l (aft l)]
  have hne : (aft l).isEmpty = false := by cases h' : aft l with | nil => exact absurd h' h | cons _ _ => rfl
  simp [inB, hne, bytesLess_irrefl]

theorem isPrefixOf_take (l t : List UInt8) : l.isPrefixOf t = (decide (l.length ≤ t.length) && (t.take l.length == l)) := by
  induction l generalizing t with
  | nil => simp
  | cons c r ih =>
    cases t with
    | nil => simp
    | cons d u =>
      rw [isPrefixOf_cons, ih u]
      simp only [List.length_cons, List.take_succ_cons, Nat.add_le_add_iff_right, List.cons_beq_cons, u8_eq]
      rw [Bool.eq_iff_iff]
      simp only [Bool.and_eq_true, decide_eq_true_eq]
      constructor
      · rintro ⟨a, b, c⟩; exact ⟨b, a.symm, c⟩
      · rintro ⟨a, b, c⟩; exact ⟨b.symm, a, c⟩
end Go.Proofs.Ytbcbdaaaglkjhaa
