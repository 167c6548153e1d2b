/-
  How the document folds a list: what somebody may still ask for stays; with 'last' deletes that hide nothing go, from the last entry on (plain).
-/
import Derived.Test.YtbdgdigpnfpnhaaBRef7
import Derived.Test.YtbdgdigpnfpnhaaBFoldP
namespace Go.Proofs.Ytbdgdigpnfpnhaa
open Go.RowKit
namespace Bk
open Mm

/-- May somebody who asks at s still see x? -/
def askB (l : List Ent) (x : Ent) (s : Int) : Bool := match l.find? (visP x.key s) with | some y => decide (y.seq = x.seq) | none => false
def stayF (l : List Ent) (keep : List Int) (x : Ent) : Bool := askB l x 1073741824 || keep.any (askB l x)
/-- What is left, the last one first. -/
def restR : List Ent → List Ent
  | [] => []
  | x :: r => if !x.del || decide ((restR r).getLast?.map (·.key) = some x.key) then restR r ++ [x] else restR r

theorem rest_le : ∀ l : List Ent, (restR l).length ≤ l.length
  | [] => Nat.le_refl _
  | x :: r => by
    have := rest_le r
    rw [restR]
    split
    · simp only [List.length_append, List.length_cons, List.length_nil]
      omega
    · rw [List.length_cons]
      omega
theorem ask_stay {q r : List Ent} {x : Ent} (h : Up (q ++ x :: r)) (s : Int) : askB (q ++ x :: r) x s = (decide (x.seq ≤ s) && (match q.getLast? with | none => true | some p => !decide (p.key = x.key) || decide (s < p.seq))) := by
  have hq : ∀ p ∈ q, Mm.ahead p x = true := fun p hp => (List.pairwise_append.1 h).2.2 p hp x (by simp)
  unfold askB
  rw [List.find?_append]
  by_cases hs : x.seq ≤ s
  · have hx : visP x.key s x = true := by unfold visP; simp [hs]
    cases hf : q.find? (visP x.key s) with
    | some y =>
      have hy := List.mem_of_find?_eq_some hf
      have hv := List.find?_some hf
      unfold visP at hv
      simp only [Bool.and_eq_true, decide_eq_true_eq] at hv
      have hyx : x.seq < y.seq := by
        rcases Mm.ahead_key (hq y hy) with ⟨_, h4⟩ | h4
        · exact h4
        · rw [hv.1, Mm.bl_irrefl] at h4; cases h4
      have e1 : decide (y.seq = x.seq) = false := by rw [decide_eq_false]; omega
      simp only [Option.some_or, e1]
      symm
      rw [Bool.and_eq_false_iff]
      right
      cases hg : q.getLast? with
      | none => rw [List.getLast?_eq_none_iff] at hg; rw [hg] at hy; cases hy
      | some p =>
        obtain ⟨q', rfl⟩ : ∃ q', q = q' ++ [p] := by
          obtain ⟨q', hq'⟩ := List.getLast?_eq_some_iff.1 hg
          exact ⟨q', hq'⟩
        have hpx := hq p (by simp)
        have hpk : p.key = x.key ∧ p.seq ≤ s := by
          rcases List.mem_append.1 hy with hy' | hy'
          · have hyp : Mm.ahead y p = true := (List.pairwise_append.1 (List.pairwise_append.1 h).1).2.2 y hy' p (by simp)
            rcases Mm.ahead_key hyp with ⟨h5, h6⟩ | h5
            · exact ⟨by rw [← h5, hv.1], by omega⟩
            · rcases Mm.ahead_key hpx with ⟨h7, _⟩ | h7
              · rw [h7, hv.1, Mm.bl_irrefl] at h5; cases h5
              · have := Mm.bl_trans h5 h7
                rw [hv.1, Mm.bl_irrefl] at this; cases this
          · rw [List.mem_singleton] at hy'
            rw [← hy']
            exact hv
        simp only [hpk.1, decide_true, Bool.not_true, Bool.false_or]
        rw [decide_eq_false]
        omega
    | none =>
      have hn := List.find?_eq_none.1 hf
      simp only [Option.none_or, List.find?_cons, hx, decide_true]
      symm
      rw [decide_eq_true hs, Bool.true_and]
      cases hg : q.getLast? with
      | none => rfl
      | some p =>
        have hp := List.mem_of_getLast? hg
        have := hn p hp
        unfold visP at this
        by_cases hk : p.key = x.key
        · simp only [hk, decide_true, Bool.true_and, decide_eq_true_eq, Bool.not_true, Bool.false_or] at this ⊢
          omega
        · simp [hk]
  · rw [decide_eq_false hs, Bool.false_and]
    cases hf : (q.find? (visP x.key s)).or ((x :: r).find? (visP x.key s)) with
    | none => rfl
    | some y =>
      have hv : visP x.key s y = true := by
        rw [← List.find?_append] at hf
        exact List.find?_some hf
      unfold visP at hv
      simp only [Bool.and_eq_true, decide_eq_true_eq] at hv
      show decide (y.seq = x.seq) = false
      rw [decide_eq_false]
      omega
theorem stays_is {q r : List Ent} {x : Ent} (h : Up (q ++ x :: r)) (keep : List Int) : staysB (1073741824 :: keep) q.getLast? x = stayF (q ++ x :: r) keep x := by
  unfold staysB stayF
  rw [List.any_cons, ask_stay h]
  congr 1
  refine congrArg (List.any keep) (funext fun s => (ask_stay h s).symm)
theorem fold_ref {l0 : List Ent} (hu : Up l0) (keep : List Int) (last : Bool) : ∀ (m q : List Ent), q ++ m = l0 → foldR (1073741824 :: keep) last q.getLast? m = if last then (restR (m.filter (stayF l0 keep))).reverse else m.filter (stayF l0 keep)
  | [], q, _ => by cases last <;> rfl
  | x :: r, q, e => by
    have ih := fold_ref hu keep last r (q ++ [x]) (by rw [← e]; simp)
    rw [last_snoc] at ih
    have hst : staysB (1073741824 :: keep) q.getLast? x = stayF l0 keep x := by
      rw [← e] at hu ⊢
      exact stays_is hu keep
    rw [foldR, hst, ih, List.filter_cons]
    cases hS : stayF l0 keep x
    · simp
    · cases last
      · simp
      · simp only [if_true, Bool.true_and]
        rw [restR, List.head?_reverse]
        cases hd : x.del
        · simp
        · by_cases hk : (restR (List.filter (stayF l0 keep) r)).getLast?.map (·.key) = some x.key
          · simp [hk]
          · simp [hk]
end Bk
end Go.Proofs.Ytbdgdigpnfpnhaa
