/-
  In plain words: a table with one odd block tells what it would have told, or that it is odd.
-/
import Derived.Test.YtepkhbbhpamdnaaSAlP
namespace Go.Proofs.Ytepkhbbhpamdnaa
open Go.RowKit
namespace Ss
open Mm (Ent)
/-- The blocks with the k-th frame changed for x. -/
def oddB (l : List Ent) (p k : Nat) (x : Bs) : Bs := outB l p k ++ (x ++ (b1 l p).drop (outB l p (k + 1)).length)
def oddT (l : List Ent) (p d k : Nat) (x : Bs) : Tab := ⟨oddB l p k x, Bm.filt (keysB l) d, prts l p (cnt l p), l.length⟩
theorem b1_split (l : List Ent) (p k : Nat) (hk : k ≤ cnt l p) : b1 l p = outB l p k ++ (b1 l p).drop (outB l p k).length := by
  obtain ⟨r, e⟩ := outB_pre l p (cnt l p - k) k
  rw [show k + (cnt l p - k) = cnt l p from by omega] at e
  have e' : b1 l p = outB l p k ++ r := e
  conv => rhs; rw [e', List.drop_left]
  exact e'
theorem outB_mono (l : List Ent) (p : Nat) {i j : Nat} (h : i ≤ j) : (outB l p i).length ≤ (outB l p j).length := by
  obtain ⟨r, e⟩ := outB_pre l p (j - i) i
  rw [show i + (j - i) = j from by omega] at e
  rw [e, List.length_append]
  omega
theorem oddB_length (l : List Ent) (p k : Nat) (hk : k < cnt l p) (x : Bs) (hx : x.length = (frm (Bk.blockB (piece l p k))).length) : (oddB l p k x).length = (b1 l p).length := by
  have h1 := outB_mono l p (show k + 1 ≤ cnt l p from hk)
  have h2 := outB_step l p k
  have h3 : (b1 l p).length = (outB l p (cnt l p)).length := rfl
  unfold oddB
  rw [List.length_append, List.length_append, List.length_drop, hx, frm_length]
  omega
theorem odd_same (l : List Ent) (p d k j : Nat) (hk : k < cnt l p) (hne : j ≠ k) (x : Bs) (hx : x.length = (frm (Bk.blockB (piece l p k))).length) : blk (oddT l p d k x) (prtOf l p j) = blk (tabOf l p d) (prtOf l p j) := by
  have sj := outB_step l p j
  have sk := outB_step l p k
  rw [frm_length] at hx
  unfold blk
  show ((oddB l p k x).drop ((outB l p (j + 1)).length - ((Bk.blockB (piece l p j)).length + 12))).take ((Bk.blockB (piece l p j)).length + 12) = ((b1 l p).drop ((outB l p (j + 1)).length - ((Bk.blockB (piece l p j)).length + 12))).take ((Bk.blockB (piece l p j)).length + 12)
  rw [sj, Nat.add_sub_cancel]
  rcases Nat.lt_or_ge j k with h | h
  · have hm := outB_mono l p (show j + 1 ≤ k from h)
    have e := b1_split l p k (by omega)
    conv => rhs; rw [e]
    unfold oddB
    rw [List.drop_append_of_le_length (by omega), List.drop_append_of_le_length (by omega), List.take_append_of_le_length (by rw [List.length_drop]; omega), List.take_append_of_le_length (by rw [List.length_drop]; omega)]
  · have hm := outB_mono l p (show k + 1 ≤ j by omega)
    have e : (oddB l p k x).drop (outB l p j).length = (b1 l p).drop (outB l p j).length := by
      unfold oddB
      rw [← List.append_assoc, show (outB l p j).length = (outB l p k ++ x).length + ((outB l p j).length - (outB l p (k + 1)).length) from by rw [List.length_append]; omega, ← List.drop_drop, List.drop_left, List.drop_drop]
      congr 1
      rw [List.length_append]
      omega
    rw [e]
theorem odd_at (l : List Ent) (p d k : Nat) (x : Bs) (hx : x.length = (frm (Bk.blockB (piece l p k))).length) : blk (oddT l p d k x) (prtOf l p k) = x := by
  have sk := outB_step l p k
  unfold blk
  show ((oddB l p k x).drop ((outB l p (k + 1)).length - ((Bk.blockB (piece l p k)).length + 12))).take ((Bk.blockB (piece l p k)).length + 12) = _
  rw [sk, Nat.add_sub_cancel]
  unfold oddB
  rw [List.drop_left, ← frm_length, ← hx, List.take_left]
theorem odd_read {l : List Ent} {p d : Nat} (h : checkE l p d = 0) {k j : Nat} (hk : k < cnt l p) (hj : j < cnt l p) {x : Bs} (hx : x.length = (frm (Bk.blockB (piece l p k))).length) (hr : rdE x = 6) :
    (j = k → readOk (oddT l p d k x) (prtOf l p j) = false) ∧ (j ≠ k → readOk (oddT l p d k x) (prtOf l p j) = true ∧ readL (oddT l p d k x) (prtOf l p j) = piece l p j) := by
  constructor
  · rintro rfl
    unfold readOk
    rw [odd_at l p d j x hx, whole_odd hr]
    rfl
  · intro hne
    have := read_back h hj
    unfold readOk readL at this ⊢
    rw [odd_same l p d k j hk hne x hx]
    exact this
theorem odd_get {l : List Ent} {p d : Nat} (h : checkE l p d = 0) {k : Nat} (hk : k < cnt l p) {x : Bs} (hx : x.length = (frm (Bk.blockB (piece l p k))).length) (hr : rdE x = 6) (key : Bs) (q : Int) :
    (getE (oddT l p d k x) key q = 6 ∧ getX (oddT l p d k x) key q = none) ∨ (getE (oddT l p d k x) key q = 0 ∧ getX (oddT l p d k x) key q = findE l key q) := by
  obtain ⟨g1, g2, _⟩ := get_back h key q
  have hlen := prts_length l p (cnt l p)
  clear g2
  unfold getX at g1
  unfold getX getE
  change (match (prts l p (cnt l p))[placeN (prts l p (cnt l p)) ⟨key, [], q, false⟩]? with | none => none | some p' => if Bm.has (Bm.filt (keysB l) d) key && readOk (tabOf l p d) p' then findE (readL (tabOf l p d) p') key q else none) = findE l key q at g1
  show ((match (prts l p (cnt l p))[placeN (prts l p (cnt l p)) ⟨key, [], q, false⟩]? with | none => 0 | some p' => if Bm.has (Bm.filt (keysB l) d) key && !readOk (oddT l p d k x) p' then 6 else 0) = (6 : Int) ∧ (match (prts l p (cnt l p))[placeN (prts l p (cnt l p)) ⟨key, [], q, false⟩]? with | none => none | some p' => if Bm.has (Bm.filt (keysB l) d) key && readOk (oddT l p d k x) p' then findE (readL (oddT l p d k x) p') key q else none) = none) ∨ ((match (prts l p (cnt l p))[placeN (prts l p (cnt l p)) ⟨key, [], q, false⟩]? with | none => 0 | some p' => if Bm.has (Bm.filt (keysB l) d) key && !readOk (oddT l p d k x) p' then 6 else 0) = (0 : Int) ∧ (match (prts l p (cnt l p))[placeN (prts l p (cnt l p)) ⟨key, [], q, false⟩]? with | none => none | some p' => if Bm.has (Bm.filt (keysB l) d) key && readOk (oddT l p d k x) p' then findE (readL (oddT l p d k x) p') key q else none) = findE l key q)
  generalize placeN (prts l p (cnt l p)) ⟨key, [], q, false⟩ = r at *
  rcases Nat.lt_or_ge r (cnt l p) with hlt | hge
  · rw [prts_get? l p _ r hlt] at g1 ⊢
    dsimp only at g1 ⊢
    obtain ⟨o1, o2⟩ := read_back h hlt
    obtain ⟨n1, n2⟩ := odd_read h (d := d) hk hlt hx hr
    rw [o1, o2] at g1
    cases hb : Bm.has (Bm.filt (keysB l) d) key with
    | false =>
      rw [hb] at g1
      simp only [Bool.false_and, Bool.false_eq_true, if_false] at g1 ⊢
      right
      exact ⟨trivial, g1⟩
    | true =>
      by_cases e : r = k
      · left
        rw [n1 e]
        simp only [Bool.true_and, Bool.not_false, if_true, Bool.false_eq_true, if_false, and_self]
      · obtain ⟨n3, n4⟩ := n2 e
        right
        rw [n3, n4]
        rw [hb] at g1
        simp only [Bool.true_and, Bool.not_true, if_true, Bool.false_eq_true, if_false, true_and] at g1 ⊢
        exact g1
  · rw [List.getElem?_eq_none (by omega)] at g1 ⊢
    right
    exact ⟨rfl, g1⟩
theorem odd_scanR {l : List Ent} {p d : Nat} (h : checkE l p d = 0) {k : Nat} (hk : k < cnt l p) {x : Bs} (hx : x.length = (frm (Bk.blockB (piece l p k))).length) (hr : rdE x = 6) : ∀ n i, i + n = k → ∀ m out, (scanR (oddT l p d k x) [] [] ((prts l p (cnt l p)).drop i) m out) = (none, m + n + 1)
  | 0, i, hi, m, out => by
    obtain rfl : i = k := by omega
    rw [List.drop_eq_getElem_cons (by rw [prts_length]; exact hk), prts_of_idx, scanR, (odd_read h hk hk hx hr).1 rfl, if_pos rfl]
  | n + 1, i, hi, m, out => by
    obtain ⟨n3, n4⟩ := (odd_read h (d := d) hk (show i < cnt l p by omega) hx hr).2 (by omega)
    rw [List.drop_eq_getElem_cons (by rw [prts_length]; omega), prts_of_idx, scanR, n3, if_neg (by simp), if_neg (by simp), odd_scanR h hk hx hr n (i + 1) (by omega)]
    rw [show m + 1 + n + 1 = m + (n + 1) + 1 from by omega]
theorem odd_all {l : List Ent} {p d : Nat} (h : checkE l p d = 0) {k : Nat} (hk : k < cnt l p) {x : Bs} (hx : x.length = (frm (Bk.blockB (piece l p k))).length) (hr : rdE x = 6) : scan (oddT l p d k x) [] [] = (none, k + 1) := by
  have e : placeF (prts l p (cnt l p)) [] = 0 := by
    exact find_first (fun p : Prt => !Op.bytesLess p.key []) 0 (Nat.zero_le _) (fun i _ hi => absurd hi (by omega)) (fun i _ _ => by rw [Go.Proofs.bytesLess_eq]; simp)
  unfold scan
  show scanR (oddT l p d k x) [] [] ((prts l p (cnt l p)).drop (placeF (prts l p (cnt l p)) [])) 0 [] = _
  rw [e, odd_scanR h hk hx hr k 0 (by omega), Nat.zero_add]
end Ss
end Go.Proofs.Ytepkhbbhpamdnaa
