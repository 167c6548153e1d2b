/-
  Adding in plain words: what is added in any order is the same list; nothing here speaks of the program.
-/
import Derived.Test.YtbdgdigpnfpnhaaBTell
import Derived.Test.YtbdgdigpnfpnhaaMTab
namespace Go.Proofs.Ytbdgdigpnfpnhaa.Q.P
end Go.Proofs.Ytbdgdigpnfpnhaa.Q.P
namespace Go.Proofs.Ytbdgdigpnfpnhaa.Q.Mm

def same (a b : Ent) : Prop := a.key = b.key ∧ a.seq = b.seq
theorem ahead_same {a b : Ent} (h : same a b) : ahead a b = false := by
  unfold ahead
  rw [if_pos h.1]
  exact decide_eq_false (by have := h.2; omega)
def Apart (l : List Ent) : Prop := l.Pairwise fun a b => ¬ same a b
theorem up_map {l : List It} (h : SortedL l) : Up (l.map (·.1)) := by
  unfold Up
  rw [List.pairwise_map]
  exact h
theorem up_apart {l : List Ent} (h : Up l) : Apart l := h.imp fun hab hs => by rw [ahead_same hs] at hab; cases hab
theorem apart_perm {l m : List Ent} (h : l.Perm m) (k : Apart l) : Apart m := (h.pairwise_iff (R := fun a b => ¬ same a b) (fun hab hs => hab ⟨hs.1.symm, hs.2.symm⟩)).1 k

theorem up_unique : ∀ (a b : List Ent), Up a → Up b → a.Perm b → a = b := by
  intro a
  induction a with
  | nil => intro b _ _ h; exact (List.nil_perm.1 h).symm
  | cons x a ih =>
    intro b ha hb h
    cases b with
    | nil => exact absurd (List.perm_nil.1 h) (by simp)
    | cons y b =>
      obtain ⟨a1, a2⟩ := List.pairwise_cons.1 ha
      obtain ⟨b1, b2⟩ := List.pairwise_cons.1 hb
      have hxy : x = y := by
        have h1 : x ∈ y :: b := h.subset (by simp)
        have h2 : y ∈ x :: a := h.symm.subset (by simp)
        rcases List.mem_cons.1 h1 with h1 | h1
        · exact h1
        · rcases List.mem_cons.1 h2 with h2 | h2
          · exact h2.symm
          · have := ahead_trans (a1 y h2) (b1 x h1)
            rw [ahead_irrefl] at this; cases this
      subst hxy
      rw [ih b a2 b2 (List.Perm.cons_inv h)]

theorem partsL (e : Ent) (l : List It) : frontL e l ++ backL e l = l := List.takeWhile_append_dropWhile
theorem backL_not {e : Ent} {l : List It} (h : SortedL l) : ∀ y ∈ backL e l, ahead y.1 e = false := by
  induction l with
  | nil => intro y hy; cases hy
  | cons x r ih =>
    obtain ⟨h1, h2⟩ := List.pairwise_cons.1 h
    intro y hy
    unfold backL at hy
    rw [List.dropWhile_cons] at hy
    cases hx : ahead x.1 e with
    | true => rw [hx] at hy; exact ih h2 y hy
    | false =>
      rw [hx, if_neg (by simp)] at hy
      rcases List.mem_cons.1 hy with rfl | hy
      · exact hx
      · cases hy' : ahead y.1 e with
        | false => rfl
        | true => have := ahead_trans (h1 y hy) hy'; rw [hx] at this; cases this
/-- One that is there has its key and its number. -/
theorem there_same {e : Ent} {l : List It} (h : SortedL l) (ht : thereL e l = true) : ∃ y ∈ l.map (·.1), same e y := by
  unfold thereL at ht
  cases hy : (backL e l).head? with
  | none => rw [hy] at ht; cases ht
  | some y =>
    rw [hy] at ht
    have hm : y ∈ backL e l := List.mem_of_mem_head? hy
    have h1 : ahead e y.1 = false := by simpa using ht
    have h2 := backL_not h y hm
    exact ⟨y.1, List.mem_map.2 ⟨y, by rw [← partsL e l]; simp [hm], rfl⟩, ahead_total h1 h2⟩
theorem add_zero {e : Ent} {l : List It} : addE e l = 0 ↔ may e = true ∧ thereL e l = false := by
  unfold addE
  cases may e <;> cases thereL e l <;> simp
theorem add_three {e : Ent} {l : List It} (h : addE e l ≠ 0) : addE e l = 2 ∨ addE e l = 9 := by
  unfold addE at *
  cases hm : may e <;> cases ht : thereL e l <;> simp [hm, ht] at h ⊢
theorem add_perm {hs : List Nat} {e : Ent} {l : List It} (h : addE e l = 0) : ((addL hs e l).map (·.1)).Perm (e :: l.map (·.1)) := by
  obtain ⟨h1, h2⟩ := add_zero.1 h
  unfold addL
  rw [h1, h2]
  simp only [Bool.not_false, Bool.and_self, if_true]
  rw [List.map_append, List.map_cons]
  refine List.perm_middle.trans (List.Perm.cons _ ?_)
  rw [← List.map_append, partsL]
theorem add_len {hs : List Nat} {e : Ent} {l : List It} : (addL hs e l).length ≤ l.length + 1 := by
  unfold addL
  split
  · rw [List.length_append, List.length_cons]
    have : (frontL e l).length + (backL e l).length = l.length := by rw [← List.length_append, partsL]
    omega
  · omega
/-- Where all that came before is apart from it, and it may be, it is added. -/
theorem add_may {e : Ent} {l : List It} (h : SortedL l) (hm : may e = true) (ha : ∀ y ∈ l.map (·.1), ¬ same e y) : addE e l = 0 := by
  rw [add_zero]
  refine ⟨hm, ?_⟩
  cases ht : thereL e l with
  | false => rfl
  | true =>
    obtain ⟨y, hy, hs⟩ := there_same h ht
    exact absurd hs (ha y hy)
/-- The list, from a place on and then from its beginning. -/
def turned (l : List Ent) (f : Nat) : List Ent := l.drop f ++ l.take f
theorem turned_perm (l : List Ent) (f : Nat) : (turned l f).Perm l := by
  unfold turned
  refine List.perm_append_comm.trans ?_
  rw [List.take_append_drop]
theorem turned_len (l : List Ent) (f : Nat) : (turned l f).length = l.length := (turned_perm l f).length_eq
theorem turned_get (l : List Ent) (f i : Nat) (hf : f < l.length) (hi : i < l.length) : (turned l f)[i]? = l[(f + i) % l.length]? := by
  unfold turned
  by_cases h : i < l.length - f
  · rw [List.getElem?_append_left (by simpa using h), List.getElem?_drop, Nat.mod_eq_of_lt (by omega)]
  · rw [List.getElem?_append_right (by simp; omega), List.length_drop, List.getElem?_take_of_lt (by omega)]
    congr 1
    rw [Nat.mod_eq_sub_mod (by omega), Nat.mod_eq_of_lt (by omega)]
    omega
end Go.Proofs.Ytbdgdigpnfpnhaa.Q.Mm
namespace Go.Proofs.Ytbdgdigpnfpnhaa.Q.P
open Go.RowKit
end Go.Proofs.Ytbdgdigpnfpnhaa.Q.P
