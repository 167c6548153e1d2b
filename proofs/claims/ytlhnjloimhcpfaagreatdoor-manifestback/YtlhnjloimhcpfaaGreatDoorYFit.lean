/-
  An edit's bytes are not long, and the tables that bytes tell fit.
-/
import Derived.Test.YtlhnjloimhcpfaaGreatDoorYBehind
import Derived.Test.YtlhnjloimhcpfaaGreatDoorYG
namespace Go.Proofs.YtlhnjloimhcpfaaGreatDoor
open Go.RowKit

theorem Mf.recB_len {e : Mf.Ed} (h : Mf.encE e = 0) : (Mf.recB e).length ≤ 2000000 := by
  obtain ⟨ds, as', lo, se, ne⟩ := e
  have hb : ds.length ≤ 1024 ∧ as'.length ≤ 1024 ∧ Mf.bounds ⟨ds, as', lo, se, ne⟩ = true := by
    unfold Mf.encE at h
    split at h
    · cases h
    · split at h
      · refine ⟨?_, ?_, ?_⟩
        · rename_i k _; simp only at k; omega
        · rename_i k _; simp only at k; omega
        · assumption
      · cases h
  obtain ⟨d1', a1', hbb⟩ := hb
  unfold Mf.bounds at hbb
  simp only [Bool.and_eq_true, List.all_eq_true] at hbb
  obtain ⟨⟨hd, ha⟩, hn⟩ := hbb
  have hd' : ∀ x ∈ ds, x ≤ 4000000000000000000 := fun x hx => by have := hd x hx; simp [Mf.inB] at this; omega
  have hn' : lo ≤ 999999 ∧ se ≤ 1073741824 ∧ ne ≤ 999999 := by simp [Mf.nums, Mf.inB] at hn; omega
  have l1 := Mf.lebs_len [(ds.length : Int)] (by intro y hy; simp at hy; omega)
  have l2 := Mf.lebs_len ds hd'
  have l3 := Mf.lebs_len [(as'.length : Int)] (by intro y hy; simp at hy; omega)
  have l4 := Mf.mtBs_len as' ha
  have l5 := Mf.lebs_len [lo, se, ne] (by intro y hy; simp at hy; rcases hy with rfl | rfl | rfl <;> omega)
  simp only [Mf.recB, List.length_append]
  simp only [List.length_cons, List.length_nil] at l1 l3 l5
  omega

/-- The tables that bytes tell fit. -/
theorem Mf.decX_fit {b : Mf.Bs} (h : Mf.decOk b = true) : (Mf.decX b).drops.length ≤ 1024 ∧ (Mf.decX b).adds.length ≤ 1024 ∧ ∀ x ∈ (Mf.decX b).adds, MtFit x := by
  have h0 := (Mf.enc_back b h).2
  generalize Mf.decX b = e at h0
  obtain ⟨ds, as', lo, se, ne⟩ := e
  have hb : ds.length ≤ 1024 ∧ as'.length ≤ 1024 ∧ Mf.bounds ⟨ds, as', lo, se, ne⟩ = true := by
    unfold Mf.encE at h0
    split at h0
    · cases h0
    · split at h0
      · refine ⟨?_, ?_, ?_⟩
        · rename_i k _; simp only at k; omega
        · rename_i k _; simp only at k; omega
        · assumption
      · cases h0
  obtain ⟨d1', a1', hbb⟩ := hb
  unfold Mf.bounds at hbb
  simp only [Bool.and_eq_true, List.all_eq_true] at hbb
  refine ⟨d1', a1', fun x hx => ?_⟩
  have := Mf.words_in (hbb.1.2 x hx)
  unfold MtFit i64r
  omega
theorem Mf.decX_drops {b : Mf.Bs} (h : Mf.decOk b = true) : ∀ x ∈ (Mf.decX b).drops, i64r x := by
  have h0 := (Mf.enc_back b h).2
  generalize Mf.decX b = e at h0
  have hb : Mf.bounds e = true := by
    unfold Mf.encE at h0
    split at h0
    · cases h0
    · split at h0
      · assumption
      · cases h0
  unfold Mf.bounds at hb
  simp only [Bool.and_eq_true, List.all_eq_true] at hb
  intro x hx
  have := hb.1.1 x hx
  simp [Mf.inB] at this
  unfold i64r
  omega
theorem bytes_of_enc {w : World} {base g n c : Nat} {l : List UInt8} (hn : n = l.length) (o : w.ownsRow base 5 1 (.slice (some ⟨g, 0, none⟩) n c) l.length (bc l)) (hl : l.length ≤ 2000000) : n ≤ c ∧ BytesIn w (.slice (some ⟨g, 0, none⟩) n c) l ∧ n = l.length := by
  refine ⟨?_, bytes_of_own o (by omega), hn⟩
  subst hn
  exact (own_cap o).1
end Go.Proofs.YtlhnjloimhcpfaaGreatDoor
