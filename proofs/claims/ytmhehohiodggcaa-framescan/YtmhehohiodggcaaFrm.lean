/-
  Frames: records under two checksums, one behind the other; what is read of them, also where they are torn or a burst was turned. No program is spoken of here.
-/
import Derived.Test.YtmhehohiodggcaaSeal
import Derived.Test.YtmhehohiodggcaaBur
namespace Go.Proofs.Ytmhehohiodggcaa

/-- A record's frame. -/
def frm (r : List UInt8) : List UInt8 := sealB (Crc.le4 r.length) ++ sealB r
theorem frm_length (r : List UInt8) : (frm r).length = r.length + 12 := by
  unfold frm
  rw [List.length_append, sealB_length, sealB_length, show (Crc.le4 r.length).length = 4 from rfl]
  omega

/-- How many bytes the head tells. -/
def rdK (l : List UInt8) : Nat := num4 (opnL (l.take 8))
/-- What reading answers: the error, the record, the length of its frame. -/
def rdE (l : List UInt8) : Int :=
  if l.length < 8 then 4 else if opnB (l.take 8) = false then 6 else if 1048576 < rdK l then 6 else if l.length < rdK l + 12 then 4 else if opnB ((l.drop 8).take (rdK l + 4)) = false then 6 else 0
def rdR (l : List UInt8) : List UInt8 := if rdE l = 0 then opnL ((l.drop 8).take (rdK l + 4)) else []
def rdN (l : List UInt8) : Nat := if rdE l = 0 then rdK l + 12 else 0

theorem rdE_cases (l : List UInt8) : rdE l = 0 ∨ rdE l = 4 ∨ rdE l = 6 := by
  unfold rdE
  repeat' split
  all_goals simp
theorem rdE_good {l : List UInt8} (h : rdE l = 0) : rdK l + 12 ≤ l.length ∧ rdK l ≤ 1048576 := by
  unfold rdE at h
  repeat' split at h
  all_goals first
    | (exfalso; revert h; decide)
    | exact ⟨by omega, by omega⟩
theorem rdN_pos {l : List UInt8} (h : rdE l = 0) : 12 ≤ rdN l ∧ rdN l ≤ l.length := by
  have := rdE_good h
  unfold rdN
  rw [if_pos h]
  omega

theorem head_take (r t : List UInt8) : (frm r ++ t).take 8 = sealB (Crc.le4 r.length) := by
  unfold frm
  rw [List.append_assoc]
  exact List.take_left' rfl
theorem head_drop (r t : List UInt8) : (frm r ++ t).drop 8 = sealB r ++ t := by
  unfold frm
  rw [List.append_assoc]
  exact List.drop_left' rfl
theorem head_num (r : List UInt8) (h : r.length ≤ 1048576) : num4 (opnL (sealB (Crc.le4 r.length))) = r.length := by
  rw [opnL_seal, num4_le4 _ (by omega)]

/-- A frame is read as its record, whatever stands behind. -/
theorem read_frm (r t : List UInt8) (h : r.length ≤ 1048576) : rdE (frm r ++ t) = 0 ∧ rdR (frm r ++ t) = r ∧ rdN (frm r ++ t) = r.length + 12 := by
  have hk : rdK (frm r ++ t) = r.length := by unfold rdK; rw [head_take, head_num r h]
  have hl : (frm r ++ t).length = r.length + 12 + t.length := by rw [List.length_append, frm_length]
  have hb : ((frm r ++ t).drop 8).take (r.length + 4) = sealB r := by rw [head_drop]; exact List.take_left' (sealB_length r)
  have he : rdE (frm r ++ t) = 0 := by
    unfold rdE
    rw [hk, head_take, opnB_seal, hb, opnB_seal, if_neg (by omega), if_neg (by simp), if_neg (by omega), if_neg (by omega), if_neg (by simp)]
  refine ⟨he, ?_, ?_⟩
  · unfold rdR
    rw [if_pos he, hk, hb, opnL_seal]
  · unfold rdN
    rw [if_pos he, hk]

/-- A frame that ends too early is missing, never corrupt. -/
theorem read_torn (r : List UInt8) (k : Nat) (h : r.length ≤ 1048576) (hk : k < r.length + 12) : rdE ((frm r).take k) = 4 := by
  have hl : ((frm r).take k).length = k := by rw [List.length_take, frm_length]; omega
  unfold rdE
  by_cases h8 : k < 8
  · rw [if_pos (by omega)]
  · have ht : ((frm r).take k).take 8 = sealB (Crc.le4 r.length) := by
      rw [List.take_take, Nat.min_eq_left (by omega)]
      have := head_take r []
      rwa [List.append_nil] at this
    have hK : rdK ((frm r).take k) = r.length := by unfold rdK; rw [ht, head_num r h]
    rw [if_neg (by omega), ht, opnB_seal, if_neg (by simp), hK, if_neg (by omega), if_pos (by omega)]

/-- Bits turned in the first of two lists, and in the second. -/
theorem flip_left (a b : List UInt8) (q : Nat) (h : q < 8 * a.length) : Crc.flip (a ++ b) q = Crc.flip a q ++ b := by
  have hi : q / 8 < a.length := by omega
  unfold Crc.flip
  rw [List.set_append_left _ _ hi, List.getD_eq_getElem?_getD, List.getElem?_append_left hi, List.getD_eq_getElem?_getD]
theorem flip_right (a b : List UInt8) (q : Nat) (h : 8 * a.length ≤ q) : Crc.flip (a ++ b) q = a ++ Crc.flip b (q - 8 * a.length) := by
  have hi : a.length ≤ q / 8 := by omega
  have e1 : q / 8 - a.length = (q - 8 * a.length) / 8 := by omega
  have e2 : q % 8 = (q - 8 * a.length) % 8 := by omega
  unfold Crc.flip
  rw [List.set_append_right _ _ hi, List.getD_eq_getElem?_getD, List.getElem?_append_right hi, List.getD_eq_getElem?_getD, e1, e2]
theorem burst_right (a b : List UInt8) (p c k : Nat) (h : 8 * a.length ≤ p) : Crc.burst (a ++ b) p c k = a ++ Crc.burst b (p - 8 * a.length) c k := by
  induction k with
  | zero => rfl
  | succ k ih =>
    rw [Crc.burst, Crc.burst]
    split
    · rw [ih, flip_right _ _ _ (by omega)]
      congr 2
      omega
    · exact ih
theorem burst_succ (l : List UInt8) (p c k : Nat) : Crc.burst l p c (k + 1) = if c.testBit k = true then Crc.flip (Crc.burst l p c k) (p + k) else Crc.burst l p c k := rfl
theorem burst_both (a b : List UInt8) (p c m k : Nat) (h : p + m = 8 * a.length) : Crc.burst (a ++ b) p c k = Crc.burst a p (c % 2 ^ m) k ++ Crc.burst b 0 (c / 2 ^ m) (k - m) := by
  induction k with
  | zero => rw [Nat.zero_sub]; rfl
  | succ k ih =>
    have hm : (c % 2 ^ m).testBit k = (decide (k < m) && c.testBit k) := Nat.testBit_mod_two_pow c m k
    rw [burst_succ (a ++ b), ih, burst_succ a]
    by_cases hk : k < m
    · rw [show k + 1 - m = 0 from by omega, show k - m = 0 from by omega, hm, decide_eq_true hk, Bool.true_and]
      split
      · rw [flip_left _ _ _ (by rw [Crc.burst_length]; omega)]
      · rfl
    · have e : k + 1 - m = (k - m) + 1 := by omega
      have hd : (c / 2 ^ m).testBit (k - m) = c.testBit k := by rw [Nat.testBit_div_two_pow]; congr 1; omega
      rw [e, burst_succ b, hm, decide_eq_false hk, Bool.false_and, hd]
      simp only [Bool.false_eq_true, if_false]
      split
      · rw [flip_right _ _ _ (by rw [Crc.burst_length]; omega), Crc.burst_length]
        congr 2
        omega
      · rfl
/-- Bits that are none turn nothing. -/
theorem burst_none (l : List UInt8) (p k : Nat) : Crc.burst l p 0 k = l := by
  induction k with
  | zero => rfl
  | succ k ih => rw [Crc.burst, Nat.zero_testBit]; simpa using ih
theorem burst_more (l : List UInt8) (p c j : Nat) (h : c < 2 ^ j) (d : Nat) : Crc.burst l p c (j + d) = Crc.burst l p c j := by
  induction d with
  | zero => rfl
  | succ d ih =>
    rw [← Nat.add_assoc, Crc.burst, Nat.testBit_lt_two_pow (Nat.lt_of_lt_of_le h (Nat.pow_le_pow_right (by decide) (by omega)))]
    simpa using ih

/-- Sealed bytes in which a burst was turned do not open. -/
theorem burst_shut (l : List UInt8) (p c : Nat) (hc : c < 4294967296) (h0 : c ≠ 0) (h : ∀ i, i < 32 → c.testBit i = true → p + i < 8 * (sealB l).length) : opnB (Crc.burst (sealB l) p c 32) = false := by
  rw [Bool.eq_false_iff]
  intro e
  have h4 : 4 ≤ (Crc.burst (sealB l) p c 32).length := by rw [Crc.burst_length, sealB_length]; omega
  have hs := (opnB_iff _ h4).mp e
  refine Crc.burst_found l p c hc h0 h ?_
  show Crc.reg Crc.ones (Crc.burst (sealB l) p c 32) = _
  rw [← hs]
  exact (Crc.sealed_iff _ _ (Crc.sum_lt _)).mp rfl

/-- A frame in two parts, the head as it was and what stands behind it no longer sealed: corrupt. -/
theorem read_tail (r x t : List UInt8) (h : r.length ≤ 1048576) (hx : x.length = r.length + 4) (ho : opnB x = false) : rdE (sealB (Crc.le4 r.length) ++ x ++ t) = 6 := by
  have hl : (sealB (Crc.le4 r.length) ++ x ++ t).length = r.length + 12 + t.length := by rw [List.length_append, List.length_append, sealB_length, hx, show (Crc.le4 r.length).length = 4 from rfl]; omega
  have ht : (sealB (Crc.le4 r.length) ++ x ++ t).take 8 = sealB (Crc.le4 r.length) := by rw [List.append_assoc]; exact List.take_left' rfl
  have hd : ((sealB (Crc.le4 r.length) ++ x ++ t).drop 8).take (r.length + 4) = x := by
    rw [List.append_assoc, List.drop_left' (show (sealB (Crc.le4 r.length)).length = 8 from rfl)]
    exact List.take_left' hx
  have hK : rdK (sealB (Crc.le4 r.length) ++ x ++ t) = r.length := by unfold rdK; rw [ht, head_num r h]
  unfold rdE
  rw [ht, opnB_seal, hK, hd, ho, if_neg (by omega), if_neg (by simp), if_neg (by omega), if_neg (by omega), if_pos rfl]
theorem read_head (x y : List UInt8) (hx : x.length = 8) (ho : opnB x = false) : rdE (x ++ y) = 6 := by
  unfold rdE
  rw [List.take_left' hx, ho, if_neg (by rw [List.length_append]; omega), if_pos rfl]

/-- EVERY BURST WITHIN A FRAME IS FOUND, whatever stands behind it. -/
theorem read_altered (r t : List UInt8) (p c : Nat) (h : r.length ≤ 1048576) (hc : c < 4294967296) (h0 : c ≠ 0) (hin : ∀ i, i < 32 → c.testBit i = true → p + i < 8 * (frm r).length) :
    rdE (Crc.burst (frm r) p c 32 ++ t) = 6 := by
  have l8 : (sealB (Crc.le4 r.length)).length = 8 := rfl
  rw [frm_length] at hin
  unfold frm
  by_cases hp : 64 ≤ p
  · rw [burst_right _ _ _ _ _ (by rw [l8]; omega), l8]
    refine read_tail r _ t h (by rw [Crc.burst_length, sealB_length]) ?_
    refine burst_shut r _ c hc h0 (fun i hi hb => ?_)
    have := hin i hi hb
    rw [sealB_length]
    omega
  · obtain ⟨m, hm⟩ : ∃ m, p + m = 64 := ⟨64 - p, by omega⟩
    rw [burst_both _ _ p c m 32 (by rw [l8]; omega)]
    by_cases hz : c % 2 ^ m = 0
    · rw [hz, burst_none]
      have hm32 : m < 32 := by
        rcases Nat.lt_or_ge m 32 with g | g
        · exact g
        · exfalso
          apply h0
          rw [← hz, Nat.mod_eq_of_lt (Nat.lt_of_lt_of_le hc (Nat.pow_le_pow_right (n := 2) (i := 32) (by decide) g))]
      have hcm : c / 2 ^ m < 2 ^ (32 - m) := by
        apply Nat.div_lt_of_lt_mul
        rw [← Nat.pow_add, show m + (32 - m) = 32 from by omega]
        exact hc
      have e : Crc.burst (sealB r) 0 (c / 2 ^ m) (32 - m) = Crc.burst (sealB r) 0 (c / 2 ^ m) 32 := by
        have := burst_more (sealB r) 0 (c / 2 ^ m) (32 - m) hcm m
        rw [show 32 - m + m = 32 from by omega] at this
        exact this.symm
      rw [e]
      refine read_tail r _ t h (by rw [Crc.burst_length, sealB_length]) ?_
      refine burst_shut r _ _ (Nat.lt_of_le_of_lt (Nat.div_le_self _ _) hc) ?_ (fun i hi hb => ?_)
      · intro g
        apply h0
        have := Nat.div_add_mod c (2 ^ m)
        rw [g, hz] at this
        omega
      · rw [Nat.testBit_div_two_pow] at hb
        have hmi : m + i < 32 := by
          rcases Nat.lt_or_ge (m + i) 32 with g | g
          · exact g
          · rw [Nat.testBit_lt_two_pow (Nat.lt_of_lt_of_le hc (Nat.pow_le_pow_right (n := 2) (i := 32) (by decide) (by omega)))] at hb
            cases hb
        have := hin (m + i) hmi (by rw [show m + i = i + m from by omega] ; exact hb)
        rw [sealB_length]
        omega
    · rw [List.append_assoc]
      refine read_head _ _ (by rw [Crc.burst_length, l8]) ?_
      refine burst_shut _ _ _ (Nat.lt_of_le_of_lt (Nat.mod_le _ _) hc) hz (fun i hi hb => ?_)
      rw [Nat.testBit_mod_two_pow] at hb
      rw [l8]
      have := (Bool.and_eq_true _ _ ▸ hb).1
      have : i < m := of_decide_eq_true this
      omega
end Go.Proofs.Ytmhehohiodggcaa
