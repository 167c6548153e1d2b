/-
  In plain words: the bytes that Build makes open, and the table has the pieces that they were made of.
-/
import Derived.Test.YtepkhbbhpamdnaaSP
import Derived.Test.YtepkhbbhpamdnaaSsO
namespace Go.Proofs.Ytepkhbbhpamdnaa
open Go.RowKit
namespace Ss
open Mm (Ent)
open Enc
theorem num_back (x : Nat) (r : Bs) (bad : Bool) (lo hi : Nat) (h1 : lo ≤ x) (h2 : x ≤ hi) (h3 : hi < 18446744073709551616) : num ⟨leb x ++ r, bad⟩ lo hi = ⟨r, bad⟩ ∧ numX ⟨leb x ++ r, bad⟩ lo hi = x := by
  have e := rd_back x r (by omega)
  have ok : nOk ⟨leb x ++ r, bad⟩ lo hi = true := by
    unfold nOk smE
    rw [e]
    rw [if_pos ⟨rfl, by omega, by show (x : Int) ≤ _; omega⟩]
    simp [h1]
  unfold num numX
  rw [if_pos ok, if_pos ok, e]
  exact ⟨by simp, rfl⟩
theorem key_back (k r : Bs) (bad : Bool) (h1 : 1 ≤ k.length) (h2 : k.length ≤ 512) : key ⟨leb k.length ++ (k ++ r), bad⟩ = ⟨r, bad⟩ ∧ keyX ⟨leb k.length ++ (k ++ r), bad⟩ = k := by
  obtain ⟨e1, e2⟩ := num_back k.length (k ++ r) bad 1 512 h1 h2 (by decide)
  unfold key keyX
  rw [e1, e2]
  rw [if_neg (by rw [List.length_append]; omega), if_neg (by rw [List.length_append]; omega)]
  exact ⟨by simp, by simp⟩
theorem part_back (s : Nat) (k : Bs) (q : Nat) (r : Bs) (bad : Bool) (fn : Nat) (h1 : 13 ≤ s) (h2 : s ≤ 1048588) (h3 : 1 ≤ k.length) (h4 : k.length ≤ 512) (h5 : 1 ≤ q) (h6 : q ≤ 1073741824) :
    part ⟨partB s k q ++ r, bad⟩ = ⟨r, bad⟩ ∧ partX ⟨partB s k q ++ r, bad⟩ fn = ⟨s, fn + s, k, q⟩ := by
  have e : partB s k q ++ r = leb s ++ (leb k.length ++ (k ++ (leb q ++ r))) := by simp [partB, List.append_assoc]
  rw [e]
  obtain ⟨a1, a2⟩ := num_back s (leb k.length ++ (k ++ (leb q ++ r))) bad 13 1048588 h1 h2 (by decide)
  obtain ⟨b1, b2⟩ := key_back k (leb q ++ r) bad h3 h4
  obtain ⟨c1, c2⟩ := num_back q r bad 1 1073741824 h5 h6 (by decide)
  unfold part partX
  rw [a1, a2, b1, b2, c1, c2]
  exact ⟨rfl, rfl⟩

/-- What the index says of the k-th piece, and of the first k. -/
def prtOf (l : List Ent) (p k : Nat) : Prt := ⟨(Bk.blockB (piece l p k)).length + 12, (outB l p (k + 1)).length, (lastOf (piece l p k)).key, (lastOf (piece l p k)).seq.toNat⟩
def prts (l : List Ent) (p : Nat) : Nat → List Prt
  | 0 => []
  | k + 1 => prts l p k ++ [prtOf l p k]
def idxR (l : List Ent) (p : Nat) : Nat → Nat → Bs
  | 0, _ => []
  | n + 1, k => partB ((Bk.blockB (piece l p k)).length + 12) (lastOf (piece l p k)).key (lastOf (piece l p k)).seq.toNat ++ idxR l p n (k + 1)
theorem idxB_split (l : List Ent) (p : Nat) : ∀ n k, idxB l p (k + n) = idxB l p k ++ idxR l p n k
  | 0, k => by simp [idxR]
  | n + 1, k => by
    have := idxB_split l p n (k + 1)
    rw [show k + (n + 1) = k + 1 + n from by omega, this, idxB, idxR, List.append_assoc]
theorem outB_step (l : List Ent) (p k : Nat) : (outB l p (k + 1)).length = (outB l p k).length + ((Bk.blockB (piece l p k)).length + 12) := by rw [outB, List.length_append, frm_length]
theorem prts_length (l : List Ent) (p : Nat) : ∀ k, (prts l p k).length = k
  | 0 => rfl
  | k + 1 => by rw [prts, List.length_append, prts_length l p k]; rfl
theorem prts_fin (l : List Ent) (p : Nat) : ∀ k, lastFin (prts l p k) = (outB l p k).length
  | 0 => rfl
  | k + 1 => by rw [prts, lastFin_snoc]; rfl
theorem prts_get? (l : List Ent) (p : Nat) : ∀ k i, i < k → (prts l p k)[i]? = some (prtOf l p i)
  | 0, i, h => absurd h (by omega)
  | k + 1, i, h => by
    have hl := prts_length l p k
    rw [prts]
    by_cases e : i < k
    · rw [List.getElem?_append_left (by omega)]
      exact prts_get? l p k i e
    · obtain rfl : i = k := by omega
      rw [List.getElem?_append_right (by omega), hl, Nat.sub_self]
      rfl
theorem prt_fit {l : List Ent} {p d : Nat} (h : checkE l p d = 0) {k : Nat} (hk : k < cnt l p) : 13 ≤ (prtOf l p k).size ∧ (prtOf l p k).size ≤ 1048588 ∧ 1 ≤ (prtOf l p k).key.length ∧ (prtOf l p k).key.length ≤ 512 ∧ 1 ≤ (prtOf l p k).seq ∧ (prtOf l p k).seq ≤ 1073741824 ∧ ((prtOf l p k).seq : Int) = (lastOf (piece l p k)).seq := by
  have hc := piece_check h hk
  have h2 := blockB_len hc
  obtain ⟨m1, m2, m3, m4, _⟩ := Bk.may_parts (last_may hc)
  have hpos : 1 ≤ (Bk.blockB (piece l p k)).length := by
    have hb := Bk.dec_back _ hc
    rcases Nat.eq_zero_or_pos (Bk.blockB (piece l p k)).length with e | e
    · have e' := List.length_eq_zero_iff.1 e
      rw [e'] at hb
      exact absurd hb.2 (by decide +kernel)
    · exact e
  have h3 : 1 ≤ (lastOf (piece l p k)).key.length := by
    rcases Nat.eq_zero_or_pos (lastOf (piece l p k)).key.length with e | e
    · exact absurd (List.length_eq_zero_iff.1 e) m3
    · exact e
  unfold prtOf
  refine ⟨?_, ?_, h3, m4, ?_, ?_, ?_⟩ <;> dsimp only <;> omega
theorem last_piece {l : List Ent} {p d : Nat} (h : checkE l p d = 0) {k : Nat} (hk : k < cnt l p) : ∃ hi : min (k * p + p) l.length - 1 < l.length, k * p ≤ min (k * p + p) l.length - 1 ∧ lastOf (piece l p k) = l[min (k * p + p) l.length - 1] := by
  obtain ⟨⟨h1, _⟩, h5, _⟩ := check_parts h
  have hlt := cnt_lt (by omega) hk
  have hl := piece_length l p k
  have hi : min (k * p + p) l.length - 1 < l.length := by omega
  refine ⟨hi, by omega, ?_⟩
  rw [last_get (by omega), piece_get (by omega)]
  congr 1
  omega
theorem prts_on {l : List Ent} {p d : Nat} (h : checkE l p d = 0) {k : Nat} (hk : k < cnt l p) : goesOn (prts l p k) (prtOf l p k) = true := by
  cases k with
  | zero => rfl
  | succ k =>
    rw [prts, goesOn_snoc]
    have f1 := prt_fit h (show k < cnt l p by omega)
    have f2 := prt_fit h hk
    obtain ⟨i1, a1, e1⟩ := last_piece h (show k < cnt l p by omega)
    obtain ⟨i2, a2, e2⟩ := last_piece h hk
    obtain ⟨⟨q1, _⟩, _, _, _, ho⟩ := check_parts h
    have hlt := cnt_lt (by omega) hk
    rw [Nat.succ_mul] at hlt a2
    have hup := up_of_ord ((Bk.inOrd_iff l).1 ho)
    have hah : Mm.ahead (lastOf (piece l p k)) (lastOf (piece l p (k + 1))) = true := by
      rw [e1, e2]
      exact List.pairwise_iff_getElem.1 hup _ _ _ _ (by rw [Nat.succ_mul]; omega)
    unfold Mm.ahead at hah ⊢
    show (if (lastOf (piece l p k)).key = (lastOf (piece l p (k + 1))).key then decide (((prtOf l p (k + 1)).seq : Int) < ((prtOf l p k).seq : Int)) else _) = true
    rw [f1.2.2.2.2.2.2, f2.2.2.2.2.2.2]
    exact hah
theorem loop_back {l : List Ent} {p d : Nat} (h : checkE l p d = 0) : ∀ n k, k + n ≤ cnt l p → loop n ⟨idxR l p n k, false⟩ (prts l p k) = (⟨[], false⟩, prts l p (k + n))
  | 0, k, _ => rfl
  | n + 1, k, hk => by
    have f := prt_fit h (show k < cnt l p by omega)
    have e := part_back (prtOf l p k).size (prtOf l p k).key (prtOf l p k).seq (idxR l p n (k + 1)) false (lastFin (prts l p k)) f.1 f.2.1 f.2.2.1 f.2.2.2.1 f.2.2.2.2.1 f.2.2.2.2.2.1
    have ex : partX ⟨idxR l p (n + 1) k, false⟩ (lastFin (prts l p k)) = prtOf l p k := by
      refine e.2.trans ?_
      rw [prts_fin]
      unfold prtOf
      rw [outB_step]
    have es : step ⟨idxR l p (n + 1) k, false⟩ (prts l p k) = ⟨idxR l p n (k + 1), false⟩ := by
      unfold step
      rw [ex, if_pos (prts_on h (by omega))]
      exact e.1
    rw [loop_on (by rw [es]), es, ex]
    have := loop_back h n (k + 1) (by omega)
    rw [show k + (n + 1) = k + 1 + n from by omega]
    exact this
theorem cnt_le {l : List Ent} {p d : Nat} (h : checkE l p d = 0) : 1 ≤ cnt l p ∧ cnt l p ≤ l.length := by
  obtain ⟨⟨h1, _⟩, h5, _⟩ := check_parts h
  unfold cnt
  have hp : 0 < p := by omega
  constructor
  · rw [Nat.le_div_iff_mul_le hp]; omega
  · rw [Nat.div_le_iff_le_mul_add_pred hp]
    have : l.length * 1 ≤ p * l.length := by rw [Nat.mul_comm p]; exact Nat.mul_le_mul_left _ (by omega)
    omega
theorem index_back {l : List Ent} {p d : Nat} (h : checkE l p d = 0) : indexR (idxB l p (cnt l p)) = (⟨[], false⟩, prts l p (cnt l p)) := by
  obtain ⟨c1, c2⟩ := cnt_le h
  have h6 := (check_parts h).2.2.1
  have e : idxB l p (cnt l p) = leb (cnt l p) ++ idxR l p (cnt l p) 0 := by
    have := idxB_split l p (cnt l p) 0
    rw [Nat.zero_add] at this
    exact this
  obtain ⟨a1, a2⟩ := num_back (cnt l p) (idxR l p (cnt l p) 0) false 1 65536 c1 (by omega) (by decide)
  unfold indexR
  rw [e, a1, a2]
  have := loop_back h (cnt l p) 0 (by omega)
  rw [Nat.zero_add] at this
  exact this
/-- The tables of a list's bytes. -/
def tabOf (l : List Ent) (p d : Nat) : Tab := ⟨b1 l p, Bm.filt (keysB l) d, prts l p (cnt l p), l.length⟩
theorem whole_frm (r : Bs) (h : r.length ≤ 1048576) : wholeOk (frm r) = true ∧ rdR (frm r) = r := by
  obtain ⟨h1, h2, h3⟩ := read_frm r [] h
  rw [List.append_nil] at h1 h2 h3
  unfold wholeOk
  rw [h1, h3, frm_length]
  exact ⟨by simp, h2⟩
theorem on_frm (a r : Bs) (h : r.length ≤ 1048576) : onOk (a ++ frm r) a.length = true ∧ onward (a ++ frm r) a.length = r := by
  obtain ⟨h1, h2⟩ := whole_frm r h
  have e : (a ++ frm r).drop a.length = frm r := List.drop_left
  have o : onOk (a ++ frm r) a.length = true := by
    unfold onOk
    rw [e, h1, List.length_append]
    simp
  unfold onward
  rw [if_pos o, e]
  exact ⟨o, h2⟩
theorem open_back {l : List Ent} {p d : Nat} (h : checkE l p d = 0) (hn : l.length ≤ 1000) : openOk (buildB l p d) = true ∧ openT (buildB l p d) = tabOf l p d ∧ (buildB l p d).length ≤ 331000000 := by
  obtain ⟨⟨q1, q2, q3, q4⟩, h5, h6, _⟩ := check_parts h
  obtain ⟨c1, c2⟩ := cnt_le h
  have l1 := outB_len h (cnt l p) (Nat.le_refl _)
  have li := idxB_len h (cnt l p) (Nat.le_refl _)
  have lf := Bm.filt_length (keysB l) d
  have lk : (keysB l).length = l.length := by unfold keysB; rw [List.length_map]
  have lb : Bm.bytes (keysB l).length d ≤ 2000 := by
    unfold Bm.bytes
    rw [lk]
    have : l.length * d ≤ 1000 * 15 + l.length := by
      have : l.length * d ≤ l.length * 16 := Nat.mul_le_mul_left _ (by omega)
      omega
    omega
  have fo := Bm.filt_ok (keysB l) d (by omega) (by omega)
  obtain ⟨a1, a2⟩ := on_frm (b1 l p) (Bm.filt (keysB l) d) (by omega)
  obtain ⟨a3, a4⟩ := on_frm (b2 l p d) (idxB l p (cnt l p)) (by omega)
  have r3 := rec3_length (b1 l p).length (b2 l p d).length l.length
  obtain ⟨a5, a6⟩ := whole_frm (rec3 (b1 l p).length (b2 l p d).length l.length) (by omega)
  have L1 : (b1 l p).length ≤ 330012000 := by unfold b1; omega
  have L2 : (b2 l p d).length = (b1 l p).length + ((Bm.filt (keysB l) d).length + 12) := by unfold b2; rw [List.length_append, frm_length]
  have L3 : (b3 l p d).length = (b2 l p d).length + ((idxB l p (cnt l p)).length + 12) := by unfold b3; rw [List.length_append, frm_length]
  have L4 : (buildB l p d).length = (b3 l p d).length + 36 := by unfold buildB; rw [List.length_append, frm_length, r3]
  have t3 : (buildB l p d).take ((buildB l p d).length - 36) = b3 l p d := by
    rw [L4, Nat.add_sub_cancel]
    unfold buildB
    exact List.take_left
  have d3 : (buildB l p d).drop ((buildB l p d).length - 36) = frm (rec3 (b1 l p).length (b2 l p d).length l.length) := by
    rw [L4, Nat.add_sub_cancel]
    unfold buildB
    exact List.drop_left
  have t2 : (buildB l p d).take (b2 l p d).length = b2 l p d := by
    unfold buildB b3
    rw [List.append_assoc]
    exact List.take_left
  have t1 : (buildB l p d).take (b1 l p).length = b1 l p := by
    unfold buildB b3 b2
    rw [List.append_assoc, List.append_assoc]
    exact List.take_left
  have ft : foot (buildB l p d) = rec3 (b1 l p).length (b2 l p d).length l.length := by unfold foot; rw [d3]; exact a6
  have f1 : footF (buildB l p d) = (b1 l p).length := by
    unfold footF
    rw [ft]
    unfold rec3
    rw [← le8_length (b1 l p).length, List.take_left, num8_le8 _ (by omega)]
  have f2 : footX (buildB l p d) = (b2 l p d).length := by
    unfold footX
    rw [ft]
    unfold rec3
    rw [← le8_length (b1 l p).length, List.drop_left, le8_length, ← le8_length (b2 l p d).length, List.take_left, num8_le8 _ (by omega)]
  have f3 : footN (buildB l p d) = l.length := by
    unfold footN
    rw [ft]
    unfold rec3
    rw [← List.append_assoc, show 16 = (le8 (b1 l p).length ++ le8 (b2 l p d).length).length from by simp [le8_length], List.drop_left, num8_le8 _ (by omega)]
  have fk : footOk (buildB l p d) = true := by
    unfold footOk
    rw [d3, a5, L4]
    simp
  have e2 : onward (b2 l p d) (b1 l p).length = Bm.filt (keysB l) d := a2
  have e3 : onward (b3 l p d) (b2 l p d).length = idxB l p (cnt l p) := a4
  have o2 : onOk (b2 l p d) (b1 l p).length = true := a1
  have o3 : onOk (b3 l p d) (b2 l p d).length = true := a3
  have ib := index_back h
  have ik : indexOk (idxB l p (cnt l p)) = true := by unfold indexOk; rw [ib]; rfl
  refine ⟨?_, ?_, by omega⟩
  · unfold openOk
    rw [fk, f1, f2, f3, t3, t2, o3, o2, e2, e3, fo, ik, ib, prts_fin]
    simp only [Bool.true_and, Bool.and_eq_true, decide_eq_true_eq]
    exact ⟨h5, h6, rfl⟩
  · unfold openT tabOf
    rw [f1, f2, f3, t3, t2, t1, e2, e3, ib]
theorem outB_pre (l : List Ent) (p : Nat) : ∀ n k, ∃ r, outB l p (k + n) = outB l p k ++ r
  | 0, k => ⟨[], by simp⟩
  | n + 1, k => by
    obtain ⟨r, e⟩ := outB_pre l p n k
    exact ⟨r ++ frm (Bk.blockB (piece l p (k + n))), by rw [show k + (n + 1) = k + n + 1 from by omega, outB, e, List.append_assoc]⟩
theorem lastEnt_is : ∀ l : List Ent, lastEnt l = lastOf l
  | [] => rfl
  | [_] => rfl
  | _ :: y :: r => by
    have := lastEnt_is (y :: r)
    rw [lastEnt, this]
    unfold lastOf
    simp [List.getLastD]
theorem read_back {l : List Ent} {p d : Nat} (h : checkE l p d = 0) {k : Nat} (hk : k < cnt l p) : readOk (tabOf l p d) (prtOf l p k) = true ∧ readL (tabOf l p d) (prtOf l p k) = piece l p k := by
  have hc := piece_check h hk
  have h2 := blockB_len hc
  obtain ⟨w1, w2⟩ := whole_frm (Bk.blockB (piece l p k)) (by omega)
  obtain ⟨r, e⟩ := outB_pre l p (cnt l p - (k + 1)) (k + 1)
  rw [show k + 1 + (cnt l p - (k + 1)) = cnt l p from by omega] at e
  obtain ⟨d1, d2⟩ := Bk.dec_back _ hc
  have eb : blk (tabOf l p d) (prtOf l p k) = frm (Bk.blockB (piece l p k)) := by
    unfold blk
    show ((outB l p (cnt l p)).drop ((outB l p (k + 1)).length - ((Bk.blockB (piece l p k)).length + 12))).take ((Bk.blockB (piece l p k)).length + 12) = _
    rw [e, outB_step, Nat.add_sub_cancel, outB, List.append_assoc, List.drop_left, ← frm_length, List.take_left]
  have f := prt_fit h hk
  have rl : readL (tabOf l p d) (prtOf l p k) = piece l p k := by unfold readL; rw [eb, w2, d1]
  refine ⟨?_, rl⟩
  unfold readOk
  rw [eb, w1, w2, d1, d2, lastEnt_is, f.2.2.2.2.2.2]
  simp [prtOf]
end Ss
end Go.Proofs.Ytepkhbbhpamdnaa
