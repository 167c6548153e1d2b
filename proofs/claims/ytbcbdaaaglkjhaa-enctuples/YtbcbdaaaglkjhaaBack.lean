/-
  Plain facts on reading tuples: what was written is read back as it was.
-/
import Derived.Test.YtbcbdaaaglkjhaaValues
import Derived.Test.YtbcbdaaaglkjhaaOrder
namespace Go.Proofs.Ytbcbdaaaglkjhaa
open Go.RowKit

theorem rt_esc (r : List UInt8) : ∀ (t : List UInt8) (i : Nat) (acc : List UInt8), acc.length + t.length ≤ 64 → rt (esc t ++ [0, 1] ++ r) i acc false = some (acc ++ t, i + (esc t).length + 2) := by
  intro t
  induction t with
  | nil =>
    intro i acc _
    simp only [esc, List.flatMap_nil, List.nil_append, List.cons_append, List.append_nil, List.length_nil, Nat.add_zero]
    rw [rt, if_pos rfl, rt, if_pos rfl]
  | cons c t ih =>
    intro i acc h
    rw [List.length_cons] at h
    rw [esc_cons]
    have hl : ¬ acc.length = 64 := by omega
    by_cases hc : c = 0
    · subst hc
      simp only [if_true, List.cons_append, List.nil_append]
      rw [rt, if_pos rfl, rt, if_neg (by decide), if_pos rfl, if_neg hl]
      have := ih (i + 1 + 1) (acc ++ [0]) (by simp; omega)
      rw [List.append_assoc] at this
      rw [List.append_assoc, this]
      simp; omega
    · simp only [if_neg hc, List.cons_append, List.nil_append]
      rw [rt, if_neg hc, if_neg hl]
      have := ih (i + 1) (acc ++ [c]) (by simp; omega)
      rw [List.append_assoc] at this
      rw [List.append_assoc, this]
      simp; omega

theorem empty_of {t : ByteArray} (h : t.toList = []) : t = ByteArray.empty := by
  rw [ByteArray.toList_eq] at h
  apply ba_ext
  rw [h]; rfl

/-- What was written of one value is read back. -/
theorem rv_text (v : Val) (hv : v.may = true) (wv : v.wf) (r : List UInt8) : rv (v.text ++ r) = (v, v.text.length) := by
  rcases may_cases v hv with ⟨a, b, c⟩ | ⟨a, b, c⟩ | ⟨a, c⟩ | ⟨a, b, c⟩
  · obtain ⟨k, n, t⟩ := v
    simp only at a b c
    subst a; subst b
    rw [empty_of c]; rfl
  · obtain ⟨k, n, t⟩ := v
    simp only at a b c
    subst a
    rw [empty_of c]
    rcases b with b | b <;> subst b <;> rfl
  · obtain ⟨k, n, t⟩ := v
    have n0 := wv.n0
    have n1 := wv.n1
    simp only at a c n0 n1
    subst a
    rw [empty_of c]
    have ht : (⟨2, n, ByteArray.empty⟩ : Val).text = 3 :: high (n + 9223372036854775808).toNat 8 := by simp [Val.text, vtext]
    rw [ht, List.cons_append, rv_cons, if_neg (by decide), if_neg (by decide), if_pos rfl, if_pos (by rw [List.length_append, high_length]; omega), List.take_left' (high_length _ 8), hnum_high, p8]
    rw [List.length_cons, high_length]
    congr 2
    omega
  · obtain ⟨k, n, t⟩ := v
    simp only at a b c
    subst a; subst b
    have ht : (⟨3, 0, t⟩ : Val).text = 4 :: (esc t.data.toList ++ [0, 1]) := by simp [Val.text, vtext]
    have hr := rt_esc r t.data.toList 0 [] (by rw [ba_length]; simpa using c)
    rw [List.nil_append] at hr
    obtain ⟨h1, h2⟩ := rt_some hr
    rw [ht, List.cons_append, rv_cons, if_neg (by decide), if_neg (by decide), if_neg (by decide), if_pos rfl, h2.out, h1.out, if_pos (by show 0 < _; simp)]
    simp only [List.length_cons, List.length_append, List.length_nil]
    congr 1
    simp; omega

theorem vl_tup : ∀ (a : List Val) (f : Nat) (acc : List Val), (∀ v ∈ a, v.may = true ∧ v.wf) → (tupB a).length < f → acc.length + a.length ≤ 16 → vl f (tupB a) acc = some (acc ++ a) := by
  intro a
  induction a with
  | nil =>
    intro f acc _ hf _
    obtain ⟨f', rfl⟩ : ∃ f', f = f' + 1 := ⟨f - 1, by omega⟩
    rw [vl, if_pos (by simp [tupB])]; simp
  | cons v a ih =>
    intro f acc h hf hl
    obtain ⟨f', rfl⟩ : ∃ f', f = f' + 1 := ⟨f - 1, by omega⟩
    obtain ⟨m, w⟩ := h v (by simp)
    obtain ⟨c, r, hr⟩ := text_ne v m
    have hrv := rv_text v m w (tupB a)
    rw [tupB_cons, List.length_append] at hf
    have hpos : 0 < v.text.length := by rw [hr]; simp
    rw [List.length_cons] at hl
    rw [tupB_cons, vl, if_neg (by rw [hr]; simp), hrv]
    simp only
    rw [if_neg (by omega), List.drop_left' rfl, ih f' (acc ++ [v]) (fun x hx => h x (by simp [hx])) (by omega) (by simp; omega)]
    simp

theorem vals_tup (a : List Val) (h : ∀ v ∈ a, v.may = true ∧ v.wf) (hl : a.length ≤ 16) : vals (tupB a) = some a := by
  unfold vals
  rw [vl_tup a _ [] h (by omega) (by simpa using hl)]; rfl

/-- What the error of a tuple says. -/
theorem tupE_cases (a : List Val) : (tupE a = 0 ∧ a.length ≤ 16 ∧ ∀ v ∈ a, v.may = true) ∨ (tupE a != 0) = true := by
  unfold tupE
  by_cases h : 16 < a.length
  · rw [if_pos h]; exact .inr rfl
  · rw [if_neg h]
    cases hm : a.all Val.may
    · exact .inr rfl
    · exact .inl ⟨rfl, by omega, fun v hv => List.all_eq_true.mp hm v hv⟩
end Go.Proofs.Ytbcbdaaaglkjhaa
