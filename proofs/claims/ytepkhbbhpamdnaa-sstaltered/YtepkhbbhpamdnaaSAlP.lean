/-
  In plain words: a table's bytes with one frame altered.
-/
import Derived.Test.YtepkhbbhpamdnaaSFnQ
namespace Go.Proofs.Ytepkhbbhpamdnaa
open Go.RowKit
namespace Ss
open Mm (Ent)
/-- The bytes of a table of four pieces: blocks, filter, index, footer. -/
def four (A F X N : Bs) : Bs := A ++ F ++ X ++ N
theorem build_four (l : List Ent) (p d : Nat) : buildB l p d = four (b1 l p) (frm (Bm.filt (keysB l) d)) (frm (idxB l p (cnt l p))) (frm (rec3 (b1 l p).length (b2 l p d).length l.length)) := rfl
theorem whole_odd {x : Bs} (h : rdE x = 6) : wholeOk x = false := by unfold wholeOk; rw [h]; rfl
theorem four_foot (A F X N : Bs) (hN : N.length = 36) : (four A F X N).drop ((four A F X N).length - 36) = N ∧ (four A F X N).take ((four A F X N).length - 36) = A ++ F ++ X := by
  have : (four A F X N).length - 36 = (A ++ F ++ X).length := by unfold four; rw [List.length_append, hN]; omega
  rw [this]
  unfold four
  exact ⟨List.drop_left, List.take_left⟩
/-- An odd footer: nothing opens. -/
theorem odd_foot (A F X N : Bs) (hN : N.length = 36) (h : rdE N = 6) : openOk (four A F X N) = false := by
  unfold openOk footOk
  rw [(four_foot A F X N hN).1, whole_odd h]
  simp
/-- What a sound footer says. -/
theorem four_says (A F X : Bs) (a x n : Nat) (ha : a < 18446744073709551616) (hx : x < 18446744073709551616) (hn : n < 18446744073709551616) :
    footOk (four A F X (frm (rec3 a x n))) = true ∧ footF (four A F X (frm (rec3 a x n))) = a ∧ footX (four A F X (frm (rec3 a x n))) = x ∧ footN (four A F X (frm (rec3 a x n))) = n := by
  have r3 := rec3_length a x n
  have hN : (frm (rec3 a x n)).length = 36 := by rw [frm_length, r3]
  obtain ⟨a5, a6⟩ := whole_frm (rec3 a x n) (by omega)
  have d3 := (four_foot A F X (frm (rec3 a x n)) hN).1
  have ft : foot (four A F X (frm (rec3 a x n))) = rec3 a x n := by unfold foot; rw [d3]; exact a6
  refine ⟨?_, ?_, ?_, ?_⟩
  · unfold footOk
    rw [d3, a5]
    unfold four
    rw [List.length_append, hN]
    simp
  · unfold footF
    rw [ft]
    unfold rec3
    rw [← le8_length a, List.take_left, num8_le8 _ ha]
  · unfold footX
    rw [ft]
    unfold rec3
    rw [← le8_length a, List.drop_left, le8_length, ← le8_length x, List.take_left, num8_le8 _ hx]
  · unfold footN
    rw [ft]
    unfold rec3
    rw [← List.append_assoc, show 16 = (le8 a ++ le8 x).length from by simp [le8_length], List.drop_left, num8_le8 _ hn]
theorem on_odd (a x : Bs) (h : rdE x = 6) : onOk (a ++ x) a.length = false := by
  unfold onOk
  rw [List.drop_left, whole_odd h]
  simp
/-- An odd index: nothing opens. -/
theorem odd_index (A F X : Bs) (n : Nat) (hA : A.length < 1000000000) (hF : F.length < 1000000000) (hn : n < 1000000000) (h : rdE X = 6) : openOk (four A F X (frm (rec3 A.length (A ++ F).length n))) = false := by
  have hN : (frm (rec3 A.length (A ++ F).length n)).length = 36 := by rw [frm_length, rec3_length]
  obtain ⟨s1, s2, s3, s4⟩ := four_says A F X A.length (A ++ F).length n (by omega) (by rw [List.length_append]; omega) (by omega)
  unfold openOk
  rw [s3, (four_foot A F X _ hN).2, on_odd (A ++ F) X h]
  simp
/-- An odd filter: nothing opens. -/
theorem odd_filter (A F X : Bs) (n : Nat) (hA : A.length < 1000000000) (hF : F.length < 1000000000) (hn : n < 1000000000) (h : rdE F = 6) : openOk (four A F X (frm (rec3 A.length (A ++ F).length n))) = false := by
  obtain ⟨s1, s2, s3, s4⟩ := four_says A F X A.length (A ++ F).length n (by omega) (by rw [List.length_append]; omega) (by omega)
  have t2 : (four A F X (frm (rec3 A.length (A ++ F).length n))).take (A ++ F).length = A ++ F := by unfold four; rw [List.append_assoc (A ++ F)]; exact List.take_left
  unfold openOk
  rw [s2, s3, t2, on_odd A F h]
  simp
/-- Odd blocks of the same length: it opens, and only the blocks are odd. -/
theorem odd_block {l : List Ent} {p d : Nat} (h : checkE l p d = 0) (hn : l.length ≤ 1000) (A : Bs) (hA : A.length = (b1 l p).length) :
    openOk (four A (frm (Bm.filt (keysB l) d)) (frm (idxB l p (cnt l p))) (frm (rec3 (b1 l p).length (b2 l p d).length l.length))) = true ∧
    openT (four A (frm (Bm.filt (keysB l) d)) (frm (idxB l p (cnt l p))) (frm (rec3 (b1 l p).length (b2 l p d).length l.length))) = ⟨A, Bm.filt (keysB l) d, prts l p (cnt l p), l.length⟩ := by
  obtain ⟨⟨q1, q2, q3, q4⟩, h5, h6, _⟩ := check_parts h
  obtain ⟨c1, c2⟩ := cnt_le h
  have l1 := outB_len h (cnt l p) (Nat.le_refl _)
  have li := idxB_len h (cnt l p) (Nat.le_refl _)
  have lf := Bm.filt_length (keysB l) d
  have lk : (keysB l).length = l.length := by unfold keysB; rw [List.length_map]
  have lb : Bm.bytes (keysB l).length d ≤ 2000 := by
    unfold Bm.bytes
    rw [lk]
    have : l.length * d ≤ l.length * 16 := Nat.mul_le_mul_left _ (by omega)
    omega
  have fo := Bm.filt_ok (keysB l) d (by omega) (by omega)
  have L1 : (b1 l p).length ≤ 330012000 := by unfold b1; omega
  have L2 : (b2 l p d).length = (b1 l p).length + ((Bm.filt (keysB l) d).length + 12) := by unfold b2; rw [List.length_append, frm_length]
  have hN : (frm (rec3 (b1 l p).length (b2 l p d).length l.length)).length = 36 := by rw [frm_length, rec3_length]
  obtain ⟨s1, s2, s3, s4⟩ := four_says A (frm (Bm.filt (keysB l) d)) (frm (idxB l p (cnt l p))) (b1 l p).length (b2 l p d).length l.length (by omega) (by omega) (by omega)
  have t3 := (four_foot A (frm (Bm.filt (keysB l) d)) (frm (idxB l p (cnt l p))) _ hN).2
  obtain ⟨a1, a2⟩ := on_frm A (Bm.filt (keysB l) d) (by omega)
  obtain ⟨a3, a4⟩ := on_frm (A ++ frm (Bm.filt (keysB l) d)) (idxB l p (cnt l p)) (by omega)
  have lx : (A ++ frm (Bm.filt (keysB l) d)).length = (b2 l p d).length := by rw [List.length_append, frm_length, hA, L2]
  rw [lx] at a3 a4
  rw [hA] at a1 a2
  have t2 : (four A (frm (Bm.filt (keysB l) d)) (frm (idxB l p (cnt l p))) (frm (rec3 (b1 l p).length (b2 l p d).length l.length))).take (b2 l p d).length = A ++ frm (Bm.filt (keysB l) d) := by rw [← lx]; unfold four; rw [List.append_assoc (A ++ frm (Bm.filt (keysB l) d))]; exact List.take_left
  have t1 : (four A (frm (Bm.filt (keysB l) d)) (frm (idxB l p (cnt l p))) (frm (rec3 (b1 l p).length (b2 l p d).length l.length))).take (b1 l p).length = A := by rw [← hA]; unfold four; rw [List.append_assoc, List.append_assoc]; exact List.take_left
  have ib := index_back h
  have ik : indexOk (idxB l p (cnt l p)) = true := by unfold indexOk; rw [ib]; rfl
  constructor
  · unfold openOk
    rw [s1, s2, s3, s4, t3, t2, a3, a1, a2, a4, fo, ik, ib, prts_fin]
    simp only [Bool.true_and, Bool.and_eq_true, decide_eq_true_eq]
    exact ⟨h5, h6, rfl⟩
  · unfold openT
    rw [s2, s3, s4, t3, t2, t1, a2, a4, ib]
end Ss
end Go.Proofs.Ytepkhbbhpamdnaa
