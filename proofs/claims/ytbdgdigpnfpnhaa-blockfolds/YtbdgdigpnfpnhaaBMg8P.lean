/-
  How the document merges lists: none is ever taken away, one that is used up is passed over; it is the same choice (plain).
-/
import Derived.Test.YtbdgdigpnfpnhaaKK
namespace Go.Proofs.Ytbdgdigpnfpnhaa.Q
namespace Bk
open Mm hiding ahead

/-- The best of the first n lists that have an entry left. -/
def rbN (R : List (List Ent)) : Nat → Option Nat
  | 0 => none
  | n + 1 => if !decide (R.getD n [] = []) && (match rbN R n with | none => true | some b => Mm.ahead (hdAt R n) (hdAt R b)) then some n else rbN R n

theorem hd_left (L M : List (List Ent)) (i : Nat) (h : i < L.length) : hdAt (L ++ M) i = hdAt L i := by
  unfold hdAt
  rw [getD_at _ i (by rw [List.length_append]; omega), getD_at _ i h, List.getElem_append_left h]
theorem hd_mid (L M : List (List Ent)) (x : List Ent) : hdAt (L ++ x :: M) L.length = x.headD ⟨[], [], 0, false⟩ := by
  unfold hdAt
  rw [getD_at _ _ (by simp)]
  simp
theorem fore_left (L M : List (List Ent)) : ∀ n, n ≤ L.length → 0 < L.length → foreN (L ++ M) n = foreN L n
  | 0, _, _ => rfl
  | n + 1, h, h0 => by
    have ih := fore_left L M n (by omega) h0
    have hlt := foreN_lt L n
    rw [foreN, foreN, ih, hd_left L M n (by omega), hd_left L M (foreN L n) (by omega)]
/-- The same choice. -/
theorem rb_fore (R : List (List Ent)) : ∀ k, k ≤ R.length → (rbN R k = none ∧ lefts (R.take k) = []) ∨ ∃ b, rbN R k = some b ∧ b < k ∧ R.getD b [] ≠ [] ∧ lefts (R.take k) ≠ [] ∧ hdAt R b = hdAt (lefts (R.take k)) (fore (lefts (R.take k))) ∧ fore (lefts (R.take k)) = (lefts (R.take b)).length
  | 0, _ => .inl ⟨rfl, rfl⟩
  | k + 1, h => by
    have hk : k < R.length := by omega
    have ih := rb_fore R k (by omega)
    rw [lefts_succ R k hk]
    have hg := getD_at R k hk
    by_cases he : R[k] = []
    · rw [if_pos he, List.append_nil]
      have e1 : rbN R (k + 1) = rbN R k := by
        rw [rbN, hg, he]
        simp
      rw [e1]
      rcases ih with ih | ⟨b, h1, h2, h3⟩
      · exact .inl ih
      · exact .inr ⟨b, h1, by omega, h3⟩
    · rw [if_neg he]
      have hhd : hdAt R k = R[k].headD ⟨[], [], 0, false⟩ := by unfold hdAt; rw [hg]
      right
      rcases ih with ⟨h1, h2⟩ | ⟨b, h1, h2, h3, h4, h5, h6⟩
      · refine ⟨k, ?_, by omega, by rw [hg]; exact he, by simp, ?_, ?_⟩
        · rw [rbN, h1, hg]
          simp [he]
        · rw [h2, hhd]
          have : fore ([] ++ [R[k]]) = 0 := by
            have := fore_lt ([] ++ [R[k]]) (by simp)
            simp at this ⊢
            omega
          rw [this]
          exact (hd_mid [] [] R[k]).symm
        · have := fore_lt (lefts (R.take k) ++ [R[k]]) (by simp)
          rw [h2] at this ⊢
          simp at this ⊢
          omega
      · have hL : 0 < (lefts (R.take k)).length := List.length_pos_iff.2 h4
        obtain ⟨L, hLd⟩ : ∃ L, L = lefts (R.take k) := ⟨_, rfl⟩
        rw [← hLd] at h4 h5 h6 hL ⊢
        have hfl := fore_lt L h4
        have hf : fore (L ++ [R[k]]) = if Mm.ahead (hdAt R k) (hdAt R b) = true then L.length else fore L := by
          unfold fore
          rw [List.length_append, List.length_singleton, foreN, fore_left L [R[k]] L.length (Nat.le_refl _) hL, hd_mid L [] R[k], ← hhd, hd_left L [R[k]] (foreN L L.length) hfl, h5]
          rfl
        by_cases ha : Mm.ahead (hdAt R k) (hdAt R b) = true
        · rw [if_pos ha] at hf
          refine ⟨k, ?_, by omega, by rw [hg]; exact he, by simp, ?_, ?_⟩
          · rw [rbN, h1, hg]
            simp [he, ha]
          · rw [hf, hd_mid, hhd]
          · rw [hf, hLd]
        · rw [if_neg ha] at hf
          refine ⟨b, ?_, by omega, h3, by simp, ?_, ?_⟩
          · rw [rbN, h1, hg]
            simp [ha]
          · rw [hf, hd_left L _ _ hfl, h5]
          · rw [hf, h6]
theorem lefts_app (A B : List (List Ent)) : lefts (A ++ B) = lefts A ++ lefts B := by unfold lefts; rw [List.filter_append]
/-- What is left. -/
theorem rb_cut (R : List (List Ent)) (b : Nat) (hb : b < R.length) (hne : R[b] ≠ []) : lefts (R.set b R[b].tail) = cutAt (lefts R) (lefts (R.take b)).length := by
  obtain ⟨x, hx⟩ : ∃ x, x = R[b] := ⟨_, rfl⟩
  have e1 : R = R.take b ++ x :: R.drop (b + 1) := by
    rw [hx]
    conv => lhs; rw [← List.take_append_drop b R, List.drop_eq_getElem_cons hb]
  have e2 : R.set b x.tail = R.take b ++ x.tail :: R.drop (b + 1) := by
    conv => lhs; rw [e1]
    rw [List.set_append_right _ _ (by rw [List.length_take]; omega)]
    have : b - (R.take b).length = 0 := by rw [List.length_take]; omega
    rw [this]
    rfl
  rw [← hx] at hne ⊢
  generalize R.take b = A at *
  generalize R.drop (b + 1) = B at *
  rw [e2]
  subst e1
  have l1 : lefts (A ++ x :: B) = lefts A ++ x :: lefts B := by
    rw [lefts_app]
    congr 1
    unfold lefts
    rw [List.filter_cons_of_pos (by simpa using hne)]
  have l2 : lefts (A ++ x.tail :: B) = lefts A ++ (if x.tail = [] then lefts B else x.tail :: lefts B) := by
    rw [lefts_app]
    congr 1
    unfold lefts
    by_cases ht : x.tail = []
    · rw [if_pos ht, List.filter_cons_of_neg (by simpa using ht)]
    · rw [if_neg ht, List.filter_cons_of_pos (by simpa using ht)]
  rw [l1, l2]
  have hgd : (lefts A ++ x :: lefts B).getD (lefts A).length [] = x := by
    rw [getD_at _ _ (by simp)]
    simp
  unfold cutAt
  rw [hgd]
  by_cases ht : x.tail = []
  · rw [if_pos ht, if_pos ht, List.eraseIdx_append_of_length_le (Nat.le_refl _), Nat.sub_self]
    rfl
  · rw [if_neg ht, if_neg ht]
    simp
/-- Nobody's first entry stands ahead of the foremost one's. -/
theorem foreN_best (l : List (List Ent)) : ∀ n j, j < n → Mm.ahead (hdAt l j) (hdAt l (foreN l n)) = false
  | 0, j, h => by omega
  | n + 1, j, h => by
    rw [foreN]
    by_cases ha : Mm.ahead (hdAt l n) (hdAt l (foreN l n)) = true
    · rw [if_pos ha]
      by_cases e : j = n
      · rw [e]
        exact Mm.ahead_irrefl _
      · have ih := foreN_best l n j (by omega)
        cases hj : Mm.ahead (hdAt l j) (hdAt l n)
        · rfl
        · rw [Mm.ahead_trans hj ha] at ih
          cases ih
    · rw [if_neg ha]
      by_cases e : j = n
      · rw [e]
        simpa using ha
      · exact foreN_best l n j (by omega)
/-- No entry that is left stands ahead of the last one that came out. -/
def Behind (R : List (List Ent)) (out : List Ent) : Prop := ∀ o y, out = o ++ [y] → ∀ x ∈ R, ∀ e t, x = e :: t → Mm.ahead e y = false
theorem behind_nil (R : List (List Ent)) : Behind R [] := fun o y h => by simp at h
/-- So an entry that may not follow is there already. -/
theorem follow_there {R : List (List Ent)} {o : List Ent} {y e : Ent} {x t : List Ent} (h : Behind R (o ++ [y])) (hx : x ∈ R) (he : x = e :: t) : mayFollow (o ++ [y]) e = !(decide (y.key = e.key) && decide (y.seq = e.seq)) := by
  have h1 := h o y rfl x hx e t he
  rw [follow_snoc]
  cases h2 : Mm.ahead y e
  · obtain ⟨h3, h4⟩ := Mm.ahead_total h2 h1
    simp [h3, h4]
  · symm
    rw [Bool.not_eq_true', Bool.and_eq_false_iff]
    by_cases h3 : y.key = e.key
    · right
      rw [decide_eq_false]
      intro h4
      have : Mm.ahead y e = false := by
        unfold Mm.ahead
        simp [h3, h4]
      rw [h2] at this
      cases this
    · left
      rw [decide_eq_false h3]
theorem behind_step {R : List (List Ent)} {b : Nat} {e : Ent} {t : List Ent} (hb : b < R.length) (hx : R[b] = e :: t) (he : e = hdAt (lefts R) (fore (lefts R))) (ho : inOrd R[b] = true) (out : List Ent) : Behind (R.set b t) (out ++ [e]) := by
  intro o y hy x hmem e' t' hxe
  have hye : y = e := by
    have := congrArg List.getLast? hy
    simp at this
    exact this.symm
  subst hye
  rcases List.mem_or_eq_of_mem_set hmem with hR | hT
  · have hl : x ∈ lefts R := by
      unfold lefts
      rw [List.mem_filter]
      exact ⟨hR, by rw [hxe]; simp⟩
    obtain ⟨j, hj, hxj⟩ := List.getElem_of_mem hl
    have hh : hdAt (lefts R) j = e' := by
      unfold hdAt
      rw [getD_at _ j hj, hxj, hxe]
      rfl
    have := foreN_best (lefts R) (lefts R).length j hj
    rw [hh] at this
    rw [he]
    exact this
  · rw [hT] at hxe
    rw [hx, hxe, inOrd, Bool.and_eq_true] at ho
    exact Mm.ahead_asym ho.1
theorem inOrd_tail {e : Ent} {t : List Ent} (h : inOrd (e :: t) = true) : inOrd t = true := by
  cases t with
  | nil => rfl
  | cons a r =>
    rw [inOrd, Bool.and_eq_true] at h
    exact h.2
end Bk
end Go.Proofs.Ytbdgdigpnfpnhaa.Q
