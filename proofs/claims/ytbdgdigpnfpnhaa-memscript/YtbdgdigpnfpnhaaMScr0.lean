/-
  The program's memtable and the document's hold the same: what each call of the one answers is what the other's does (plain).
-/
import Derived.Test.YtbdgdigpnfpnhaaMCost
import Derived.Test.YtbdgdigpnfpnhaaMScan
import Derived.Test.YtbdgdigpnfpnhaaMOrdP
import Derived.Test.YtbdgdigpnfpnhaaR6b
import Derived.Test.YtbdgdigpnfpnhaaKO
namespace Go.Proofs.Ytbdgdigpnfpnhaa.Q.P
open Go.RowKit

/-- The entries and the towers of a list. -/
def esL (l : List Mm.It) : List Mm.Ent := l.map (·.1)
def tsL (l : List Mm.It) : List Int := l.map fun x => (x.2 : Int)
theorem esL_len (l : List Mm.It) : (esL l).length = l.length := by simp [esL]
theorem tsL_len (l : List Mm.It) : (tsL l).length = l.length := by simp [tsL]

theorem pos_front (e : Mm.Ent) (l : List Mm.It) : Mm.posR e (esL l) = (Mm.frontL e l).length := by
  unfold Mm.posR esL Mm.frontL
  rw [List.takeWhile_map, List.length_map]
  rfl
theorem cut_at {α : Type} {a b m : List α} (h : a ++ b = m) : m.take a.length = a ∧ m.drop a.length = b := by
  subst h
  simp
theorem take_front (e : Mm.Ent) (l : List Mm.It) : l.take (Mm.frontL e l).length = Mm.frontL e l := (cut_at (Mm.partsL e l)).1
theorem drop_front (e : Mm.Ent) (l : List Mm.It) : l.drop (Mm.frontL e l).length = Mm.backL e l := (cut_at (Mm.partsL e l)).2
theorem there_is (e : Mm.Ent) (l : List Mm.It) (h : Mm.SortedL l) : Mm.thereR e (esL l) = Mm.thereL e l := by
  unfold Mm.thereR Mm.thereL
  rw [pos_front]
  have e1 : (esL l)[(Mm.frontL e l).length]? = (Mm.backL e l).head?.map (·.1) := by
    rw [← drop_front e l, List.head?_drop]
    unfold esL
    rw [List.getElem?_map]
  rw [e1]
  cases hy : (Mm.backL e l).head? with
  | none => rfl
  | some y =>
    have h2 := Mm.backL_not h y (List.mem_of_mem_head? hy)
    simp only [Option.map_some]
    cases h1 : Mm.ahead e y.1
    · obtain ⟨h3, h4⟩ := Mm.ahead_total h1 h2
      simp [h3, h4]
    · simp only [Bool.not_true, Bool.and_eq_false_iff, decide_eq_false_iff_not]
      by_cases hk : y.1.key = e.key
      · right
        intro hq
        unfold Mm.ahead at h1
        rw [if_pos hk.symm] at h1
        have := of_decide_eq_true h1
        omega
      · left
        exact hk
theorem ht_is (hs : List Int) (n : Nat) (h : hs.all okR = true) : Mm.htR hs n = (Mm.ht (hs.map Int.toNat) n : Int) := by
  unfold Mm.htR Mm.ht
  by_cases h0 : hs = []
  · subst h0; rfl
  · have hp : 0 < hs.length := List.length_pos_iff.2 h0
    have hl : n % hs.length < hs.length := Nat.mod_lt _ hp
    rw [if_neg h0, if_neg (by simpa using h0), List.length_map]
    have h1 := List.all_eq_true.1 h _ (List.getElem_mem hl)
    unfold okR at h1
    simp only [Bool.and_eq_true, decide_eq_true_eq] at h1
    simp only [List.getD_eq_getElem?_getD, List.getElem?_map, List.getElem?_eq_getElem hl, Option.map_some, Option.getD_some]
    omega
theorem add_is (hs : List Int) (e : Mm.Ent) (l : List Mm.It) (h : Mm.SortedL l) (hh : hs.all okR = true) : Mm.addRE e (esL l) = Mm.addE e l ∧ Mm.addRes e (esL l) = esL (Mm.addL (hs.map Int.toNat) e l) ∧ Mm.addRts (Mm.htR hs (esL l).length) e (esL l) (tsL l) = tsL (Mm.addL (hs.map Int.toNat) e l) := by
  have ht := there_is e l h
  refine ⟨?_, ?_, ?_⟩
  · unfold Mm.addRE Mm.addE
    rw [ht]
  · unfold Mm.addRes Mm.addL
    rw [ht, pos_front]
    split
    · rw [show (esL l).take (Mm.frontL e l).length = esL (l.take (Mm.frontL e l).length) by simp [esL, List.map_take], show (esL l).drop (Mm.frontL e l).length = esL (l.drop (Mm.frontL e l).length) by simp [esL, List.map_drop], take_front, drop_front]
      simp [esL]
    · rfl
  · unfold Mm.addRts Mm.addL
    rw [ht, pos_front, esL_len, ht_is hs l.length hh]
    split
    · rw [show (tsL l).take (Mm.frontL e l).length = tsL (l.take (Mm.frontL e l).length) by simp [tsL, List.map_take], show (tsL l).drop (Mm.frontL e l).length = tsL (l.drop (Mm.frontL e l).length) by simp [tsL, List.map_drop], take_front, drop_front]
      simp [tsL]
    · rfl
theorem places_is (h : Nat) (l : List Mm.It) : ∀ s, Mm.places h s l = Mm.plR (h : Int) s (tsL l) := by
  induction l with
  | nil => intro s; rfl
  | cons x r ih =>
    intro s
    have e : tsL (x :: r) = (x.2 : Int) :: tsL r := rfl
    rw [e, Mm.places, Mm.plR, ih (s + 1)]
    by_cases hx : h ≤ x.2
    · rw [if_pos hx, if_pos (by omega)]
    · rw [if_neg hx, if_neg (by omega)]
theorem bytes_is (l : List Mm.It) : Mm.bytesL l = bytesE (esL l) := by
  unfold Mm.bytesL bytesE esL
  rw [List.map_map]
  rfl
theorem back_es (e : Mm.Ent) (l : List Mm.It) : esL (Mm.backL e l) = (esL l).dropWhile fun x => Mm.ahead x e := by
  unfold esL Mm.backL
  rw [List.dropWhile_map]
  rfl
theorem up_es {l : List Mm.It} (h : Mm.SortedL l) : Mm.Up (esL l) := Mm.up_map h
theorem got_is (l : List Mm.It) (h : Mm.SortedL l) (k : Mm.Bs) (s : Int) : Mm.gotL l k s = (esL l).find? (visP k s) := by
  rw [← find_vis k s (esL l) (up_es h)]
  unfold Mm.gotL findE
  rw [← back_es]
  unfold esL
  rw [List.head?_map]
  cases (Mm.backL ⟨k, [], s, false⟩ l).head? <;> rfl
theorem cost_is (l : List Mm.It) (h : Mm.SortedL l) (k : Mm.Bs) (s : Int) : Mm.costL l k s = Mm.costR (esL l) (tsL l) ⟨k, [], s, false⟩ 12 0 (-1) := by
  obtain ⟨g, hg⟩ : ∃ g : Mm.Ent, g = ⟨k, [], s, false⟩ := ⟨_, rfl⟩
  obtain ⟨ns, hns⟩ : ∃ ns, ns = l.map Mm.mk := ⟨_, rfl⟩
  have hsort : Mm.Sorted ns := by
    rw [Mm.sorted_map, hns, List.map_map]
    have : (Mm.it ∘ Mm.mk) = id := rfl
    rw [this, List.map_id]
    exact h
  have hp := Mm.parts g ns
  have e1 : esL l = (Mm.front g ns ++ Mm.back g ns).map (·.ent) := by
    rw [hp, hns, List.map_map]
    rfl
  have e2 : tsL l = (Mm.front g ns ++ Mm.back g ns).map fun x => (x.h : Int) := by
    rw [hp, hns, List.map_map]
    rfl
  have := Mm.cost_same (esL l) g (Mm.front g ns) (Mm.back g ns) e1 (fun x hx => Mm.front_yes x hx) (fun x hx => Mm.back_not hsort x hx) 12 0 (-1) (by omega) (by omega)
  rw [← e2] at this
  rw [← hg, this]
  unfold Mm.costL
  rw [← hns]
  unfold Mm.cost
  rw [← hg]
  simp
theorem span_is (l : List Mm.It) (h : Mm.SortedL l) (hq : ∀ x ∈ l, x.1.seq ≤ 1073741824) (f t : Mm.Bs) : Mm.spanE f t l = Mm.spanL f t (esL l) := by
  obtain ⟨g, hg⟩ : ∃ g : Mm.Ent, g = ⟨f, [], 1073741824, false⟩ := ⟨_, rfl⟩
  unfold Mm.spanE
  rw [← hg]
  have e1 : (Mm.backL g l).map (·.1) = esL (Mm.backL g l) := rfl
  rw [e1]
  have hup : Mm.Up (esL (Mm.backL g l)) := by
    rw [back_es]
    exact List.Pairwise.sublist (List.dropWhile_sublist _) (up_es h)
  rw [Mm.span_from f t _ hup (fun x hx => ?_)]
  · have h2 : esL l = esL (Mm.frontL g l) ++ esL (Mm.backL g l) := by
      unfold esL
      rw [← List.map_append, Mm.partsL]
    rw [h2]
    unfold Mm.spanL
    rw [List.filter_append]
    have : (esL (Mm.frontL g l)).filter (fun x => Mm.inB x.key f t) = [] := by
      rw [List.filter_eq_nil_iff]
      intro x hx
      obtain ⟨y, hy, rfl⟩ := List.mem_map.1 hx
      have ha : Mm.ahead y.1 g = true := by
        unfold Mm.frontL at hy
        exact List.all_eq_true.1 List.all_takeWhile y hy
      have hm : y ∈ l := by rw [← Mm.partsL g l]; simp [hy]
      have hb : Op.bytesLess y.1.key f = true := by
        rcases Mm.ahead_key ha with ⟨h3, h4⟩ | h3
        · rw [hg] at h4
          have := hq y hm
          simp only at h4
          omega
        · rw [hg] at h3
          exact h3
      unfold Mm.inB
      rw [hb]
      simp
    rw [this, List.nil_append]
  · obtain ⟨y, hy, rfl⟩ := List.mem_map.1 hx
    have ha := Mm.backL_not h y hy
    cases hb : Op.bytesLess y.1.key f with
    | false => rfl
    | true =>
      have : Mm.ahead y.1 g = true := by
        unfold Mm.ahead
        rw [hg]
        by_cases he : y.1.key = f
        · rw [he, Mm.bl_irrefl] at hb; cases hb
        · rw [if_neg he]; exact hb
      rw [this] at ha
      cases ha
end Go.Proofs.Ytbdgdigpnfpnhaa.Q.P
