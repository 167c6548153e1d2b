/-
  An edit's bytes are not long, and the tables that bytes tell fit. .. and what follows from it.
-/
import Derived.Test.YtlhnjloimhcpfabGreatDoorYBehind
import Derived.Test.YtlhnjloimhcpfabGreatDoorYG
import Derived.Test.YtlhnjloimhcpfabGreatDoorCA
namespace Go.Proofs.YtlhnjloimhcpfabGreatDoor
open Go.RowKit

theorem Mf.recB_len {e : Mf.Ed} (h : Mf.encE e = 0) : (Mf.recB e).length ≤ 2000000 := by
  obtain ⟨ds, as', lo, se, ne⟩ := e
  have hb : ds.length ≤ 1024 ∧ as'.length ≤ 1024 ∧ Mf.bounds ⟨ds, as', lo, se, ne⟩ = true := by
    unfold Mf.encE at h
    split at h
    · cases h
    · split at h
      · refine ⟨?_, ?_, ?_⟩
        · rename_i k _; simp only at k; omega
        · rename_i k _; simp only at k; omega
        · assumption
      · cases h
  obtain ⟨d1', a1', hbb⟩ := hb
  unfold Mf.bounds at hbb
  simp only [Bool.and_eq_true, List.all_eq_true] at hbb
  obtain ⟨⟨hd, ha⟩, hn⟩ := hbb
  have hd' : ∀ x ∈ ds, x ≤ 4000000000000000000 := fun x hx => by have := hd x hx; simp [Mf.inB] at this; omega
  have hn' : lo ≤ 999999 ∧ se ≤ 1073741824 ∧ ne ≤ 999999 := by simp [Mf.nums, Mf.inB] at hn; omega
  have l1 := Mf.lebs_len [(ds.length : Int)] (by intro y hy; simp at hy; omega)
  have l2 := Mf.lebs_len ds hd'
  have l3 := Mf.lebs_len [(as'.length : Int)] (by intro y hy; simp at hy; omega)
  have l4 := Mf.mtBs_len as' ha
  have l5 := Mf.lebs_len [lo, se, ne] (by intro y hy; simp at hy; rcases hy with rfl | rfl | rfl <;> omega)
  simp only [Mf.recB, List.length_append]
  simp only [List.length_cons, List.length_nil] at l1 l3 l5
  omega

/-- The tables that bytes tell fit. -/
theorem Mf.decX_fit {b : Mf.Bs} (h : Mf.decOk b = true) : (Mf.decX b).drops.length ≤ 1024 ∧ (Mf.decX b).adds.length ≤ 1024 ∧ ∀ x ∈ (Mf.decX b).adds, MtFit x := by
  have h0 := (Mf.enc_back b h).2
  generalize Mf.decX b = e at h0
  obtain ⟨ds, as', lo, se, ne⟩ := e
  have hb : ds.length ≤ 1024 ∧ as'.length ≤ 1024 ∧ Mf.bounds ⟨ds, as', lo, se, ne⟩ = true := by
    unfold Mf.encE at h0
    split at h0
    · cases h0
    · split at h0
      · refine ⟨?_, ?_, ?_⟩
        · rename_i k _; simp only at k; omega
        · rename_i k _; simp only at k; omega
        · assumption
      · cases h0
  obtain ⟨d1', a1', hbb⟩ := hb
  unfold Mf.bounds at hbb
  simp only [Bool.and_eq_true, List.all_eq_true] at hbb
  refine ⟨d1', a1', fun x hx => ?_⟩
  have := Mf.words_in (hbb.1.2 x hx)
  unfold MtFit i64r
  omega
theorem Mf.decX_drops {b : Mf.Bs} (h : Mf.decOk b = true) : ∀ x ∈ (Mf.decX b).drops, i64r x := by
  have h0 := (Mf.enc_back b h).2
  generalize Mf.decX b = e at h0
  have hb : Mf.bounds e = true := by
    unfold Mf.encE at h0
    split at h0
    · cases h0
    · split at h0
      · assumption
      · cases h0
  unfold Mf.bounds at hb
  simp only [Bool.and_eq_true, List.all_eq_true] at hb
  intro x hx
  have := hb.1.1 x hx
  simp [Mf.inB] at this
  unfold i64r
  omega
theorem bytes_of_enc {w : World} {base g n c : Nat} {l : List UInt8} (hn : n = l.length) (o : w.ownsRow base 5 1 (.slice (some ⟨g, 0, none⟩) n c) l.length (bc l)) (hl : l.length ≤ 2000000) : n ≤ c ∧ BytesIn w (.slice (some ⟨g, 0, none⟩) n c) l ∧ n = l.length := by
  refine ⟨?_, bytes_of_own o (by omega), hn⟩
  subst hn
  exact (own_cap o).1
end Go.Proofs.YtlhnjloimhcpfabGreatDoor
namespace Go.Proofs.YtlhnjloimhcpfabGreatDoor
namespace Mf

/-- The version behind records, one behind the other. -/
def run : Vn → List Bs → Option Vn
  | v, [] => some v
  | v, r :: l => if decOk r = true ∧ goes v (decX r) = true then run (behind v (decX r)) l else none
/-- What a file's bytes tell. -/
def fileV (L : Bs) : Option Vn := if (scn L).2.2 = 6 ∨ (scn L).1 = [] then none else run first (scn L).1

theorem run_append (l m : List Bs) : ∀ v, run v (l ++ m) = (run v l).bind fun u => run u m := by
  induction l with
  | nil => intro v; rfl
  | cons r l ih =>
    intro v
    simp only [List.cons_append, run]
    split
    · exact ih _
    · rfl
theorem run_cons (v : Vn) (r : Bs) (l : List Bs) : run v (r :: l) = if decOk r = true ∧ goes v (decX r) = true then run (behind v (decX r)) l else none := rfl
theorem run_one (v : Vn) (r : Bs) : run v [r] = if decOk r = true ∧ goes v (decX r) = true then some (behind v (decX r)) else none := rfl
theorem run_next {v u : Vn} {l : List Bs} {j : Nat} (h : run v (l.take j) = some u) (hj : j < l.length) (hg : decOk l[j] = true ∧ goes u (decX l[j]) = true) : run v (l.take (j + 1)) = some (behind u (decX l[j])) := by
  rw [List.take_succ_eq_append_getElem hj, run_append, h, Option.bind_some, run_one, if_pos hg]
theorem run_none {v u : Vn} {l : List Bs} {j : Nat} (h : run v (l.take j) = some u) (hj : j < l.length) (hg : ¬ (decOk l[j] = true ∧ goes u (decX l[j]) = true)) : run v l = none := by
  have e : l = l.take j ++ (l[j] :: l.drop (j + 1)) := by rw [← List.drop_eq_getElem_cons hj, List.take_append_drop]
  rw [e, run_append, h, Option.bind_some, run_cons, if_neg hg]
theorem goes_may {v : Vn} {e : Ed} (h : goes v e = true) : may (behind v e) = true := by
  unfold goes at h
  rw [Bool.and_eq_true] at h
  exact h.2
theorem run_may (l : List Bs) : ∀ (v u : Vn), may v = true → run v l = some u → may u = true := by
  induction l with
  | nil =>
    intro v u hv h
    have e : v = u := Option.some.inj h
    rw [← e]
    exact hv
  | cons r l ih =>
    intro v u hv h
    rw [run_cons] at h
    by_cases hg : decOk r = true ∧ goes v (decX r) = true
    · rw [if_pos hg] at h
      exact ih _ u (goes_may hg.2) h
    · rw [if_neg hg] at h
      cases h
theorem may_words {v : Vn} (h : may v = true) : v.tabs.length ≤ 1024 ∧ ∀ x ∈ v.tabs, words x = true := by
  unfold may at h
  simp only [Bool.and_eq_true, decide_eq_true_eq] at h
  refine ⟨h.1.1, fun x hx => ?_⟩
  obtain ⟨i, hi, rfl⟩ := List.getElem_of_mem hx
  have := mayT_good h.2 i hi
  unfold goodAt at this
  rw [List.getElem?_eq_getElem hi] at this
  simp only [Bool.and_eq_true] at this
  exact this.1.1
theorem may_fit {v : Vn} (h : may v = true) : v.tabs.length ≤ 1024 ∧ ∀ x ∈ v.tabs, MtFit x := by
  obtain ⟨h1, h2⟩ := may_words h
  refine ⟨h1, fun x hx => ?_⟩
  have := words_in (h2 x hx)
  unfold MtFit i64r
  omega
theorem first_may : may first = true := by decide +kernel
end Mf
end Go.Proofs.YtlhnjloimhcpfabGreatDoor
