/-
  Plain facts on the order of values.
-/
import Derived.Test.YtjddhakaebkkeaaDoorUCmp
namespace Go.Proofs.YtjddhakaebkkeaaDoor
open Go.RowKit

theorem cmpI_lt (x y : Int) : cmpI x y = -1 ↔ x < y := by unfold cmpI; split <;> simp_all; split <;> omega
theorem cmpI_eq (x y : Int) : cmpI x y = 0 ↔ x = y := by
  unfold cmpI; split
  · constructor <;> intro h <;> omega
  · split <;> constructor <;> intro h <;> omega

/-- What the order of two values may be. -/
theorem cmpV_cases (v u : Val) : cmpV v u = -1 ∨ cmpV v u = 0 ∨ cmpV v u = 1 := by
  unfold cmpV or3 cmpI cmpS
  repeat' split
  all_goals simp_all

theorem may_cases (v : Val) (h : v.may = true) : (v.k = 0 ∧ v.n = 0 ∧ v.t.toList = []) ∨ (v.k = 1 ∧ (v.n = 0 ∨ v.n = 1) ∧ v.t.toList = []) ∨ (v.k = 2 ∧ v.t.toList = []) ∨ (v.k = 3 ∧ v.n = 0 ∧ v.t.size ≤ 64) := by
  simp only [Val.may, mayV, Bool.or_eq_true, Bool.and_eq_true, beq_iff_eq, decide_eq_true_eq, List.isEmpty_iff] at h
  rcases h with ((⟨⟨a, b⟩, c⟩ | ⟨⟨a, b⟩, c⟩) | ⟨a, c⟩) | ⟨⟨a, b⟩, c⟩
  · exact .inl ⟨a, b, c⟩
  · exact .inr (.inl ⟨a, b, c⟩)
  · exact .inr (.inr (.inl ⟨a, c⟩))
  · exact .inr (.inr (.inr ⟨a, b, c⟩))

theorem cmpS_same {s t : ByteArray} (h : s.toList = t.toList) : cmpS s t = 0 := by unfold cmpS; rw [h, bytesLess_irrefl]; simp

theorem cmpL_cases (a b : List Val) : cmpL a b = -1 ∨ cmpL a b = 0 ∨ cmpL a b = 1 := by
  induction a generalizing b with
  | nil => cases b <;> simp [cmpL]
  | cons v a ih =>
    cases b with
    | nil => simp [cmpL]
    | cons u b =>
      rw [cmpL]
      rcases cmpV_cases v u with h | h | h
      · rw [h]; simp
      · rw [h]; simpa using ih b
      · rw [h]; simp

theorem cmpI_neg (x y : Int) : cmpI y x = - cmpI x y := by
  unfold cmpI
  rcases Int.lt_trichotomy x y with h | h | h
  · have : ¬ y < x := by omega
    simp [h, this]
  · subst h; simp
  · have : ¬ x < y := by omega
    simp [h, this]

theorem bl_total (a b : List UInt8) : Op.bytesLess a b = false → (a == b) = false → Op.bytesLess b a = true := by
  induction a generalizing b with
  | nil => cases b <;> simp [Op.bytesLess]
  | cons c a ih =>
    cases b with
    | nil => simp [Op.bytesLess]
    | cons d b =>
      rw [bl_cons, bl_cons, List.cons_beq_cons, u8_eq]
      intro h1 h2
      rw [Bool.or_eq_false_iff] at h1
      obtain ⟨h1, h3⟩ := h1
      have h1' : ¬ c.toNat < d.toNat := by simpa using h1
      by_cases e : c.toNat = d.toNat
      · have h3' : Op.bytesLess a b = false := by simpa [e] using h3
        have h2' : (a == b) = false := by simpa [e] using h2
        simp [e, ih b h3' h2']
      · have : d.toNat < c.toNat := by omega
        simp [this]
theorem bl_asym (a b : List UInt8) : Op.bytesLess a b = true → Op.bytesLess b a = false := by
  induction a generalizing b with
  | nil => cases b <;> simp [Op.bytesLess]
  | cons c a ih =>
    cases b with
    | nil => simp [Op.bytesLess]
    | cons d b =>
      rw [bl_cons, bl_cons]
      intro h
      rw [Bool.or_eq_true] at h
      rcases h with h | h
      · have h1 : c.toNat < d.toNat := by simpa using h
        have h2 : ¬ d.toNat < c.toNat := by omega
        have h3 : ¬ d.toNat = c.toNat := by omega
        simp [h2, h3]
      · rw [Bool.and_eq_true] at h
        have e : c.toNat = d.toNat := by simpa using h.1
        simp [e, ih b h.2]

theorem cmpS_neg (s t : ByteArray) : cmpS t s = - cmpS s t := by
  unfold cmpS
  cases h1 : Op.bytesLess s.toList t.toList
  · cases h2 : s.toList == t.toList
    · have h3 := bl_total _ _ h1 h2
      simp [h3]
    · have e : s.toList = t.toList := by simpa using h2
      rw [e, bytesLess_irrefl]; simp
  · have h3 := bl_asym _ _ h1
    have h4 : (t.toList == s.toList) = false := by
      rw [beq_eq_false_iff_ne]; intro e; rw [e, bytesLess_irrefl] at h1; cases h1
    simp [h3, h4]

theorem cmpV_neg (v u : Val) : cmpV u v = - cmpV v u := by
  unfold cmpV or3
  rw [cmpI_neg v.k u.k, cmpI_neg v.n u.n, cmpS_neg v.t u.t]
  by_cases h1 : cmpI v.k u.k = 0
  · by_cases h2 : cmpI v.n u.n = 0
    · simp [h1, h2]
    · have : ¬ -cmpI v.n u.n = 0 := by omega
      simp [h1, h2]
  · have : ¬ -cmpI v.k u.k = 0 := by omega
    simp [h1]

theorem cmpL_neg (a b : List Val) : cmpL b a = - cmpL a b := by
  induction a generalizing b with
  | nil => cases b <;> simp [cmpL]
  | cons v a ih =>
    cases b with
    | nil => simp [cmpL]
    | cons u b =>
      rw [cmpL, cmpL, cmpV_neg v u, ih b]
      by_cases h : cmpV v u = 0
      · simp [h]
      · have : ¬ - cmpV v u = 0 := by omega
        simp [h]

theorem cmpV_zero {v u : Val} (h : cmpV v u = 0) : v = u := by
  unfold cmpV or3 at h
  by_cases h1 : cmpI v.k u.k = 0
  · rw [if_pos h1] at h
    by_cases h2 : cmpI v.n u.n = 0
    · rw [if_pos h2] at h
      apply val_eq
      have h3 : v.t.toList == u.t.toList := by
        unfold cmpS at h
        cases h4 : Op.bytesLess v.t.toList u.t.toList
        · rw [h4] at h
          cases h5 : v.t.toList == u.t.toList
          · rw [h5] at h; simp at h
          · rfl
        · rw [h4] at h; simp at h
      simp [sameV, (cmpI_eq _ _).mp h1, (cmpI_eq _ _).mp h2, h3]
    · rw [if_neg h2] at h; exact absurd h h2
  · rw [if_neg h1] at h; exact absurd h h1

theorem cmpL_zero (a b : List Val) : cmpL a b = 0 → a = b := by
  induction a generalizing b with
  | nil => cases b <;> simp [cmpL]
  | cons v a ih =>
    cases b with
    | nil => simp [cmpL]
    | cons u b =>
      rw [cmpL]
      by_cases h : cmpV v u = 0
      · rw [if_pos h]; intro h2; rw [cmpV_zero h, ih b h2]
      · rw [if_neg h]; intro h2; exact absurd h2 h
end Go.Proofs.YtjddhakaebkkeaaDoor
