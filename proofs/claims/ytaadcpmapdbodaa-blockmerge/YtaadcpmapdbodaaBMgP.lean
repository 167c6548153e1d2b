/-
  Lists merged, in plain words: which list is foremost, what is left, what comes out; nothing here speaks of the program.
-/
import Derived.Test.YtaadcpmapdbodaaBkP
namespace Go.Proofs.Ytaadcpmapdbodaa
namespace Bk

/-- The first entry of the list at a place. -/
def hdAt (l : List (List Mm.Ent)) (i : Nat) : Mm.Ent := (l.getD i []).headD ⟨[], [], 0, false⟩
/-- The foremost of the first n lists. -/
def foreN (l : List (List Mm.Ent)) : Nat → Nat
  | 0 => 0
  | n + 1 => if Mm.ahead (hdAt l n) (hdAt l (foreN l n)) = true then n else foreN l n
theorem foreN_lt (l : List (List Mm.Ent)) (n : Nat) : foreN l n < max 1 n := by
  induction n with
  | zero => simp [foreN]
  | succ n ih =>
    rw [foreN]
    split
    · omega
    · omega
def fore (l : List (List Mm.Ent)) : Nat := foreN l l.length
theorem fore_lt (l : List (List Mm.Ent)) (h : l ≠ []) : fore l < l.length := by
  have h0 : 0 < l.length := List.length_pos_iff.2 h
  have := foreN_lt l l.length
  unfold fore
  omega

/-- The list at a place without its first entry; without that list, if it has no other. -/
def cutAt (l : List (List Mm.Ent)) (i : Nat) : List (List Mm.Ent) := if (l.getD i []).tail = [] then l.eraseIdx i else l.set i (l.getD i []).tail
def total (l : List (List Mm.Ent)) : Nat := (l.map List.length).sum
def mayFollow (out : List Mm.Ent) (e : Mm.Ent) : Bool := match out.getLast? with
  | none => true
  | some y => Mm.ahead y e

def mrg : Nat → List (List Mm.Ent) → List Mm.Ent → Option (List Mm.Ent)
  | 0, _, out => some out
  | f + 1, l, out => if l = [] then some out else if mayFollow out (hdAt l (fore l)) = true then mrg f (cutAt l (fore l)) (out ++ [hdAt l (fore l)]) else none

theorem total_cons (x : List Mm.Ent) (l : List (List Mm.Ent)) : total (x :: l) = x.length + total l := by simp [total]
theorem total_erase (l : List (List Mm.Ent)) (i : Nat) (h : i < l.length) : total (l.eraseIdx i) + l[i].length = total l := by
  induction l generalizing i with
  | nil => simp at h
  | cons x l ih =>
    cases i with
    | zero => simp [total_cons]; omega
    | succ i =>
      have := ih i (by simpa using h)
      simp only [List.eraseIdx_cons_succ, total_cons, List.getElem_cons_succ]
      omega
theorem total_set (l : List (List Mm.Ent)) (i : Nat) (h : i < l.length) (r : List Mm.Ent) : total (l.set i r) + l[i].length = total l + r.length := by
  induction l generalizing i with
  | nil => simp at h
  | cons x l ih =>
    cases i with
    | zero => simp [total_cons]; omega
    | succ i =>
      have := ih i (by simpa using h)
      simp only [List.set_cons_succ, total_cons, List.getElem_cons_succ]
      omega
theorem getD_at (l : List (List Mm.Ent)) (i : Nat) (h : i < l.length) : l.getD i [] = l[i] := by simp [List.getD, h]
theorem hdAt_cons (l : List (List Mm.Ent)) (i : Nat) (h : i < l.length) (hne : l[i] ≠ []) : l[i] = hdAt l i :: l[i].tail := by
  unfold hdAt
  rw [getD_at l i h]
  cases hx : l[i] with
  | nil => exact absurd hx hne
  | cons a r => rfl
theorem total_cut (l : List (List Mm.Ent)) (i : Nat) (h : i < l.length) (hne : l[i] ≠ []) : total (cutAt l i) + 1 = total l := by
  have hc := congrArg List.length (hdAt_cons l i h hne)
  rw [List.length_cons] at hc
  unfold cutAt
  rw [getD_at l i h]
  split
  · rename_i ht
    have := total_erase l i h
    rw [ht] at hc
    simp at hc
    omega
  · have := total_set l i h l[i].tail
    omega
theorem cut_ne (l : List (List Mm.Ent)) (i : Nat) (hne : ∀ x ∈ l, x ≠ []) : ∀ x ∈ cutAt l i, x ≠ [] := by
  intro x hx
  unfold cutAt at hx
  split at hx
  · exact hne x (List.mem_of_mem_eraseIdx hx)
  · rename_i ht
    rcases List.mem_or_eq_of_mem_set hx with h | h
    · exact hne x h
    · rw [h]; exact ht
theorem cut_other (l : List (List Mm.Ent)) (i j : Nat) (h : j < l.length) (hij : i ≠ j) : l[j] ∈ cutAt l i := by
  unfold cutAt
  split
  · rw [List.mem_eraseIdx_iff_getElem]
    exact ⟨j, h, fun e => hij e.symm, rfl⟩
  · rw [List.mem_iff_getElem]
    exact ⟨j, by simpa using h, by rw [List.getElem_set_ne hij]⟩
theorem cut_self (l : List (List Mm.Ent)) (i : Nat) (h : i < l.length) (ht : l[i].tail ≠ []) : l[i].tail ∈ cutAt l i := by
  unfold cutAt
  rw [getD_at l i h, if_neg ht]
  rw [List.mem_iff_getElem]
  exact ⟨i, by simpa using h, by simp⟩

theorem inOrd_snoc (l : List Mm.Ent) (e : Mm.Ent) (h : inOrd l = true) (hf : mayFollow l e = true) : inOrd (l ++ [e]) = true := by
  induction l with
  | nil => rfl
  | cons a r ih =>
    cases r with
    | nil =>
      have : Mm.ahead a e = true := hf
      show (Mm.ahead a e && inOrd [e]) = true
      rw [this]; rfl
    | cons b r =>
      rw [inOrd, Bool.and_eq_true] at h
      have hf' : mayFollow (b :: r) e = true := by
        unfold mayFollow at hf ⊢
        rw [List.getLast?_cons_cons] at hf
        exact hf
      have := ih h.2 hf'
      show (Mm.ahead a b && inOrd (b :: r ++ [e])) = true
      rw [h.1, this]; rfl

/-- What comes out has all that was in the lists, each list's in its order, and is in order. -/
theorem mrg_ok (f : Nat) : ∀ (l : List (List Mm.Ent)) (out a : List Mm.Ent), (∀ x ∈ l, x ≠ []) → total l ≤ f → mrg f l out = some a → ∃ t, a = out ++ t ∧ t.length = total l ∧ (∀ x ∈ l, x.Sublist t) ∧ (inOrd out = true → inOrd a = true) := by
  induction f with
  | zero =>
    intro l out a hne ht h
    have hl : l = [] := by
      cases l with
      | nil => rfl
      | cons x l =>
        have := hne x (by simp)
        have h0 : 0 < x.length := List.length_pos_iff.2 this
        rw [total_cons] at ht
        omega
    subst hl
    simp only [mrg, Option.some.injEq] at h
    subst h
    exact ⟨[], by simp, rfl, by simp, id⟩
  | succ f ih =>
    intro l out a hne ht h
    rw [mrg] at h
    split at h
    · rename_i hl
      subst hl
      simp only [Option.some.injEq] at h
      subst h
      exact ⟨[], by simp, rfl, by simp, id⟩
    · rename_i hl
      split at h
      · rename_i hf
        have hi := fore_lt l hl
        have hni := hne _ (List.getElem_mem hi)
        have htc := total_cut l (fore l) hi hni
        obtain ⟨t, h1, h2, h3, h4⟩ := ih _ _ _ (cut_ne l (fore l) hne) (by omega) h
        refine ⟨hdAt l (fore l) :: t, by rw [h1]; simp, by rw [List.length_cons, h2, htc], fun x hx => ?_, fun ho => h4 (inOrd_snoc out _ ho hf)⟩
        obtain ⟨j, hj, rfl⟩ := List.mem_iff_getElem.1 hx
        by_cases e : fore l = j
        · subst e
          rw [hdAt_cons l (fore l) hi hni]
          by_cases htl : l[fore l].tail = []
          · rw [htl]; exact List.Sublist.cons_cons _ (List.nil_sublist t)
          · exact List.Sublist.cons_cons _ (h3 _ (cut_self l _ hi htl))
        · exact List.Sublist.cons _ (h3 _ (cut_other l _ j hj e))
      · cases h

/-- One match more, or one entry less to look at. -/
theorem sub_step {x y : Mm.Ent} {r s : List Mm.Ent} (h : (x :: r).Sublist (y :: s)) : (x = y → r.Sublist s) ∧ (x ≠ y → (x :: r).Sublist s) := by
  cases h with
  | cons _ h => exact ⟨fun _ => (List.sublist_cons_self x r).trans h, fun _ => h⟩
  | cons_cons _ h => exact ⟨fun _ => h, fun hne => absurd rfl hne⟩

/-- What Merge answers. -/
def lefts (ls : List (List Mm.Ent)) : List (List Mm.Ent) := ls.filter fun x => decide (x ≠ [])
def mergeO (ls : List (List Mm.Ent)) : Option (List Mm.Ent) := mrg (total (lefts ls)) (lefts ls) []
def mergeE (ls : List (List Mm.Ent)) : Int := if ls.all inOrd = true then (if (mergeO ls).isSome = true then 0 else 9) else 10
def mergeL (ls : List (List Mm.Ent)) : List Mm.Ent := if ls.all inOrd = true then (mergeO ls).getD [] else []
theorem total_lefts (ls : List (List Mm.Ent)) : total (lefts ls) = total ls := by
  induction ls with
  | nil => rfl
  | cons x ls ih =>
    by_cases hx : x = []
    · subst hx
      have e : lefts ([] :: ls) = lefts ls := by unfold lefts; rw [List.filter_cons_of_neg (by simp)]
      rw [e, ih, total_cons, List.length_nil, Nat.zero_add]
    · have e : lefts (x :: ls) = x :: lefts ls := by unfold lefts; rw [List.filter_cons_of_pos (by simpa using hx)]
      rw [e, total_cons, ih, total_cons]
theorem merge_all (ls : List (List Mm.Ent)) (h : mergeE ls = 0) : (mergeL ls).length = total ls ∧ inOrd (mergeL ls) = true ∧ ∀ x ∈ ls, x.Sublist (mergeL ls) := by
  unfold mergeE at h
  split at h
  · rename_i hi
    split at h
    · rename_i hs
      obtain ⟨a, ha⟩ := Option.isSome_iff_exists.1 hs
      have e : mergeL ls = a := by unfold mergeL; rw [if_pos hi, ha]; rfl
      obtain ⟨t, h1, h2, h3, h4⟩ := mrg_ok _ (lefts ls) [] a (fun x hx => by have := (List.mem_filter.1 hx).2; simpa using this) (Nat.le_refl _) ha
      rw [List.nil_append] at h1
      subst h1
      rw [e]
      refine ⟨by rw [h2, total_lefts], h4 rfl, fun x hx => ?_⟩
      by_cases h0 : x = []
      · rw [h0]; exact List.nil_sublist _
      · exact h3 x (List.mem_filter.2 ⟨hx, by simpa using h0⟩)
    · omega
  · omega
theorem merge_bad (ls : List (List Mm.Ent)) (h : mergeE ls ≠ 0) : mergeL ls = [] ∧ (mergeE ls = 9 ∨ mergeE ls = 10) := by
  unfold mergeE at h ⊢
  unfold mergeL
  by_cases hi : ls.all inOrd = true
  · rw [if_pos hi] at h ⊢
    rw [if_pos hi]
    cases hm : mergeO ls with
    | none => exact ⟨rfl, .inl rfl⟩
    | some a => rw [hm] at h; exact absurd rfl h
  · rw [if_neg hi, if_neg hi]
    exact ⟨rfl, .inr rfl⟩
theorem mrg_step (l : List (List Mm.Ent)) (out : List Mm.Ent) (hl : l ≠ []) (hne : ∀ x ∈ l, x ≠ []) (hf : mayFollow out (hdAt l (fore l)) = true) : mrg (total l) l out = mrg (total (cutAt l (fore l))) (cutAt l (fore l)) (out ++ [hdAt l (fore l)]) := by
  have hi := fore_lt l hl
  have ht := total_cut l (fore l) hi (hne _ (List.getElem_mem hi))
  rw [← ht, mrg, if_neg hl, if_pos hf]
theorem mrg_stop (l : List (List Mm.Ent)) (out : List Mm.Ent) (hl : l ≠ []) (hne : ∀ x ∈ l, x ≠ []) (hf : mayFollow out (hdAt l (fore l)) = false) : mrg (total l) l out = none := by
  have hi := fore_lt l hl
  have ht := total_cut l (fore l) hi (hne _ (List.getElem_mem hi))
  rw [← ht, mrg, if_neg hl, if_neg (by rw [hf]; decide)]
theorem mrg_nil (out : List Mm.Ent) : mrg (total []) [] out = some out := rfl
theorem lefts_succ (ls : List (List Mm.Ent)) (j : Nat) (h : j < ls.length) : lefts (ls.take (j + 1)) = lefts (ls.take j) ++ (if ls[j] = [] then [] else [ls[j]]) := by
  unfold lefts
  rw [List.take_succ_eq_append_getElem h, List.filter_append]
  congr 1
  by_cases hx : ls[j] = []
  · rw [if_pos hx, List.filter_cons_of_neg (by simpa using hx)]; rfl
  · rw [if_neg hx, List.filter_cons_of_pos (by simpa using hx)]; rfl
theorem follow_nil (e : Mm.Ent) : mayFollow [] e = true := rfl
theorem follow_snoc (o : List Mm.Ent) (y e : Mm.Ent) : mayFollow (o ++ [y]) e = Mm.ahead y e := by
  unfold mayFollow
  simp
theorem lefts_ne (ls : List (List Mm.Ent)) : ∀ x ∈ lefts ls, x ≠ [] := fun x hx => by
  have := (List.mem_filter.1 hx).2
  simpa using this
theorem lefts_short (ls : List (List Mm.Ent)) (P : List Mm.Ent → Prop) (h : ∀ x ∈ ls, P x) : ∀ x ∈ lefts ls, P x := fun x hx => h x (List.mem_filter.1 hx).1
end Bk
end Go.Proofs.Ytaadcpmapdbodaa
