/-
  What is so of every table that opening some bytes gives.
-/
import Derived.Test.YtolalicliojkfaaGreatSScan0
namespace Go.Proofs.YtolalicliojkfaaGreat
open Go.RowKit
namespace Ss
open Mm (Ent)
theorem num_bad {s : Rd} {lo hi : Nat} (h : (num s lo hi).bad = false) : nOk s lo hi = true ∧ s.bad = false := by
  unfold num at h
  cases hk : nOk s lo hi with
  | true => rw [hk] at h; exact ⟨rfl, h⟩
  | false => rw [hk] at h; cases h
theorem key_bad {s : Rd} (h : (key s).bad = false) : (num s 1 512).bad = false := by
  unfold key at h
  split at h
  · cases h
  · exact h
theorem part_bad {s : Rd} (h : (part s).bad = false) : 13 ≤ numX s 13 1048588 ∧ s.bad = false := by
  have h1 := (num_bad h).2
  have h2 := (num_bad (key_bad h1)).2
  obtain ⟨h3, h4⟩ := num_bad h2
  refine ⟨?_, h4⟩
  unfold numX
  rw [if_pos h3]
  unfold nOk at h3
  rw [Bool.and_eq_true, decide_eq_true_eq, decide_eq_true_eq] at h3
  exact h3.2
/-- What is so of the parts that an index says. -/
structure PsOk (l : List Prt) : Prop where
  part : ∀ p ∈ l, 1 ≤ p.size ∧ p.size ≤ p.fin ∧ p.fin ≤ lastFin l
  up : l.Pairwise fun p q => Mm.ahead p.ent q.ent = true
theorem PsOk.nil : PsOk [] := ⟨(fun p h => by cases h), List.Pairwise.nil⟩
theorem PsOk.snoc {l : List Prt} {p : Prt} (h : PsOk l) (h1 : 1 ≤ p.size) (h2 : p.fin = lastFin l + p.size) (hg : goesOn l p = true) : PsOk (l ++ [p]) := by
  refine ⟨fun q hq => ?_, ?_⟩
  · rw [lastFin_snoc]
    rcases List.mem_append.1 hq with hq | hq
    · have := h.part q hq; omega
    · obtain rfl := List.mem_singleton.1 hq; omega
  · rw [List.pairwise_append]
    refine ⟨h.up, List.pairwise_singleton _ _, fun a ha b hb => ?_⟩
    obtain rfl := List.mem_singleton.1 hb
    rcases List.eq_nil_or_concat l with e | ⟨l', y, e⟩
    · rw [e] at ha; cases ha
    · rw [List.concat_eq_append] at e
      rw [e, goesOn_snoc] at hg
      rw [e] at ha
      rcases List.mem_append.1 ha with ha | ha
      · have hu := h.up
        rw [e, List.pairwise_append] at hu
        exact Mm.ahead_trans (hu.2.2 a ha y (List.mem_singleton.2 rfl)) hg
      · obtain rfl := List.mem_singleton.1 ha
        exact hg
theorem loop_ok : ∀ (n : Nat) (s : Rd) (l : List Prt), PsOk l → PsOk (loop n s l).2
  | 0, _, _, h => h
  | n + 1, s, l, h => by
    cases hb : (step s l).bad with
    | true => rw [loop_bad hb]; exact h
    | false =>
      rw [loop_on hb]
      refine loop_ok n _ _ ?_
      have hg : goesOn l (partX s (lastFin l)) = true := by
        cases hg : goesOn l (partX s (lastFin l)) with
        | true => rfl
        | false => rw [step_off hg] at hb; cases hb
      rw [step_on hg] at hb
      have := (part_bad hb).1
      exact h.snoc (show 1 ≤ numX s 13 1048588 by omega) rfl hg
theorem open_parts {b : Bs} (h : openOk b = true) : footOk b = true ∧ (1 ≤ footN b ∧ footN b ≤ 65536) ∧ onOk (b.take (b.length - 36)) (footX b) = true ∧ onOk (b.take (footX b)) (footF b) = true ∧ Bm.ok (onward (b.take (footX b)) (footF b)) = true ∧ indexOk (onward (b.take (b.length - 36)) (footX b)) = true ∧ lastFin (indexR (onward (b.take (b.length - 36)) (footX b))).2 = footF b := by
  unfold openOk at h
  simp only [Bool.and_eq_true, decide_eq_true_eq] at h
  obtain ⟨h1, h2, h3, h4, h5, h6, h7, h8⟩ := h
  exact ⟨h1, ⟨h2, h3⟩, h4, h5, h6, h7, h8⟩
theorem onOk_le {b : Bs} {x : Nat} (h : onOk b x = true) : x ≤ b.length := by
  unfold onOk at h
  rw [Bool.and_eq_true, decide_eq_true_eq] at h
  exact h.1
theorem index_ok (b : Bs) : PsOk (indexR b).2 := by
  unfold indexR
  exact loop_ok _ _ _ PsOk.nil
theorem tabOk_of_open {b : Bs} (h : openOk b = true) (hl : b.length ≤ 1000000000) : TabOk (openT b) := by
  obtain ⟨h1, h2, h3, h4, h5, h6, h7⟩ := open_parts h
  have hp := index_ok (onward (b.take (b.length - 36)) (footX b))
  have hF : footF b ≤ b.length := by
    have a := onOk_le h4
    rw [List.length_take] at a
    omega
  have hi := index_some h6
  have hfl := onward_len (b.take (footX b)) (footF b)
  unfold openT
  generalize onward (b.take (b.length - 36)) (footX b) = IX at *
  generalize onward (b.take (footX b)) (footF b) = FL at *
  generalize (indexR IX).2 = ps at *
  generalize footF b = F at *
  obtain ⟨i1, i2, i3⟩ := hi
  have hbl : (b.take F).length = F := by rw [List.length_take]; omega
  exact ⟨i1, i2, by show (b.take F).length ≤ _; omega, h5, hfl, fun p hp' => by
    obtain ⟨a1, a2, a3⟩ := hp.part p hp'
    rw [h7] at a3
    exact ⟨a1, a2, by show _ ≤ (b.take F).length; omega⟩, hp.up⟩
end Ss
end Go.Proofs.YtolalicliojkfaaGreat
