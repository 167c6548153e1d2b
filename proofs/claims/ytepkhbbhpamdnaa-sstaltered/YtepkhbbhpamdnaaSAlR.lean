/-
  The frames of a table's bytes one by one, and what one that is odd does: in plain words.
-/
import Derived.Test.YtepkhbbhpamdnaaSAlQ
namespace Go.Proofs.Ytepkhbbhpamdnaa
namespace Ss
open Mm (Ent)

/-- The records of a table, one by one. -/
def rcA (l : List Ent) (p d k : Nat) : Bs := if k < cnt l p then Bk.blockB (piece l p k) else if k = cnt l p then Bm.filt (keysB l) d else if k = cnt l p + 1 then idxB l p (cnt l p) else rec3 (b1 l p).length (b2 l p d).length l.length
/-- The first k frames. -/
def dtA (l : List Ent) (p d : Nat) : Nat → Bs
  | 0 => []
  | k + 1 => dtA l p d k ++ frm (rcA l p d k)
theorem rcA_block {l : List Ent} {p d k : Nat} (h : k < cnt l p) : rcA l p d k = Bk.blockB (piece l p k) := if_pos h
theorem rcA_filter (l : List Ent) (p d : Nat) : rcA l p d (cnt l p) = Bm.filt (keysB l) d := by unfold rcA; rw [if_neg (by omega), if_pos rfl]
theorem rcA_index (l : List Ent) (p d : Nat) : rcA l p d (cnt l p + 1) = idxB l p (cnt l p) := by unfold rcA; rw [if_neg (by omega), if_neg (by omega), if_pos rfl]
theorem rcA_foot (l : List Ent) (p d : Nat) : rcA l p d (cnt l p + 2) = rec3 (b1 l p).length (b2 l p d).length l.length := by unfold rcA; rw [if_neg (by omega), if_neg (by omega), if_neg (by omega)]
theorem dtA_out (l : List Ent) (p d : Nat) : ∀ k, k ≤ cnt l p → dtA l p d k = outB l p k
  | 0, _ => rfl
  | k + 1, h => by
    show dtA l p d k ++ frm (rcA l p d k) = outB l p k ++ frm (Bk.blockB (piece l p k))
    rw [dtA_out l p d k (by omega), rcA_block (by omega)]
theorem dtA_one (l : List Ent) (p d : Nat) : dtA l p d (cnt l p + 1) = b2 l p d := by
  show dtA l p d (cnt l p) ++ frm (rcA l p d (cnt l p)) = _
  rw [dtA_out l p d _ (Nat.le_refl _), rcA_filter]
  rfl
theorem dtA_two (l : List Ent) (p d : Nat) : dtA l p d (cnt l p + 2) = b3 l p d := by
  show dtA l p d (cnt l p + 1) ++ frm (rcA l p d (cnt l p + 1)) = _
  rw [dtA_one, rcA_index]
  rfl
theorem dtA_all (l : List Ent) (p d : Nat) : dtA l p d (cnt l p + 3) = buildB l p d := by
  show dtA l p d (cnt l p + 2) ++ frm (rcA l p d (cnt l p + 2)) = _
  rw [dtA_two, rcA_foot]
  rfl
theorem dtA_pre (l : List Ent) (p d k : Nat) : ∀ i, k ≤ i → ∃ t, dtA l p d i = dtA l p d k ++ t
  | 0, h => ⟨[], by have : k = 0 := by omega
                    subst this; simp⟩
  | i + 1, h => by
    rcases Nat.eq_or_lt_of_le h with e | h'
    · subst e; exact ⟨[], by simp⟩
    · obtain ⟨t, e⟩ := dtA_pre l p d k i (by omega)
      exact ⟨t ++ frm (rcA l p d i), by show dtA l p d i ++ _ = _; rw [e, List.append_assoc]⟩
theorem rcA_len {l : List Ent} {p d : Nat} (h : checkE l p d = 0) (hn : l.length ≤ 150) (k : Nat) : (rcA l p d k).length ≤ 400000 := by
  obtain ⟨⟨q1, q2, q3, q4⟩, h5, h6, _⟩ := check_parts h
  obtain ⟨c1, c2⟩ := cnt_le h
  unfold rcA
  split
  · rename_i hk
    have := blockB_len (piece_check h hk)
    omega
  · split
    · have lf := Bm.filt_length (keysB l) d
      have lk : (keysB l).length = l.length := by unfold keysB; rw [List.length_map]
      have lb : Bm.bytes (keysB l).length d ≤ 2000 := by
        unfold Bm.bytes
        rw [lk]
        have : l.length * d ≤ l.length * 16 := Nat.mul_le_mul_left _ (by omega)
        omega
      omega
    · split
      · have li := idxB_len h (cnt l p) (Nat.le_refl _)
        omega
      · rw [rec3_length]; omega
theorem dtA_len {l : List Ent} {p d : Nat} (h : checkE l p d = 0) (hn : l.length ≤ 150) : ∀ k, (dtA l p d k).length ≤ k * 400012
  | 0 => by simp [dtA]
  | k + 1 => by
    have h1 := dtA_len h hn k
    have h2 := rcA_len h hn k
    show (dtA l p d k ++ frm (rcA l p d k)).length ≤ _
    rw [List.length_append, frm_length]
    omega

/-- One frame that is odd: nothing opens, or only that block is odd. -/
theorem odd_open {l : List Ent} {p d : Nat} (h : checkE l p d = 0) (hn : l.length ≤ 150) {k : Nat} (hk : k < cnt l p + 3) {x t : Bs} (hx : x.length = (frm (rcA l p d k)).length) (hr : rdE x = 6) (ht : buildB l p d = dtA l p d k ++ (frm (rcA l p d k) ++ t)) :
    (cnt l p ≤ k → openOk (dtA l p d k ++ (x ++ t)) = false) ∧ (k < cnt l p → openOk (dtA l p d k ++ (x ++ t)) = true ∧ openT (dtA l p d k ++ (x ++ t)) = oddT l p d k x) := by
  obtain ⟨⟨q1, q2, q3, q4⟩, h5, h6, _⟩ := check_parts h
  obtain ⟨c1, c2⟩ := cnt_le h
  have l1 := outB_len h (cnt l p) (Nat.le_refl _)
  have lb1 : (b1 l p).length < 1000000000 := by unfold b1; omega
  have lf := Bm.filt_length (keysB l) d
  have hfl : (frm (Bm.filt (keysB l) d)).length ≤ 400012 := by
    have := rcA_len h hn (cnt l p)
    rw [rcA_filter] at this
    rw [frm_length]; omega
  have hb := build_four l p d
  unfold four at hb
  constructor
  · intro hc
    rcases Nat.eq_or_lt_of_le hc with e | hlt
    · subst e
      rw [dtA_out l p d _ (Nat.le_refl _), rcA_filter, show outB l p (cnt l p) = b1 l p from rfl] at *
      have e1 : t = frm (idxB l p (cnt l p)) ++ frm (rec3 (b1 l p).length (b2 l p d).length l.length) := by
        rw [hb] at ht
        change four (b1 l p) (frm (Bm.filt (keysB l) d)) (frm (idxB l p (cnt l p))) (frm (rec3 (b1 l p).length (b2 l p d).length l.length)) = b1 l p ++ (frm (Bm.filt (keysB l) d) ++ t) at ht
        unfold four at ht
        have h2 : b1 l p ++ (frm (Bm.filt (keysB l) d) ++ (frm (idxB l p (cnt l p)) ++ frm (rec3 (b1 l p).length (b2 l p d).length l.length))) = b1 l p ++ (frm (Bm.filt (keysB l) d) ++ t) := by
          simpa [List.append_assoc] using ht
        exact (List.append_cancel_left (List.append_cancel_left h2)).symm
      have e2 : (b2 l p d).length = (b1 l p ++ x).length := by unfold b2; rw [List.length_append, List.length_append, hx]
      have := odd_filter (b1 l p) x (frm (idxB l p (cnt l p))) l.length lb1 (by rw [hx]; omega) (by omega) hr
      rw [← e2] at this
      rw [e1]
      unfold four at this
      simpa [List.append_assoc] using this
    · rcases Nat.eq_or_lt_of_le hlt with e | hlt2
      · have ek : k = cnt l p + 1 := by omega
        subst ek
        rw [dtA_one, rcA_index] at *
        have e1 : t = frm (rec3 (b1 l p).length (b2 l p d).length l.length) := by
          rw [hb] at ht
          have h2 : b2 l p d ++ (frm (idxB l p (cnt l p)) ++ frm (rec3 (b1 l p).length (b2 l p d).length l.length)) = b2 l p d ++ (frm (idxB l p (cnt l p)) ++ t) := by
            rw [← ht]; unfold b2; simp [List.append_assoc]
          exact (List.append_cancel_left (List.append_cancel_left h2)).symm
        have := odd_index (b1 l p) (frm (Bm.filt (keysB l) d)) x l.length lb1 (by omega) (by omega) hr
        rw [e1]
        unfold four at this
        unfold b2
        simpa [List.append_assoc] using this
      · have ek : k = cnt l p + 2 := by omega
        subst ek
        rw [dtA_two, rcA_foot] at *
        have e1 : t = [] := by
          unfold buildB at ht
          have h2 : b3 l p d ++ (frm (rec3 (b1 l p).length (b2 l p d).length l.length) ++ []) = b3 l p d ++ (frm (rec3 (b1 l p).length (b2 l p d).length l.length) ++ t) := by
            rw [← ht, List.append_nil]
          exact (List.append_cancel_left (List.append_cancel_left h2)).symm
        have := odd_foot (b1 l p) (frm (Bm.filt (keysB l) d)) (frm (idxB l p (cnt l p))) x (by rw [hx, frm_length, rec3_length]) hr
        rw [e1]
        unfold four at this
        unfold b3 b2
        simpa [List.append_assoc] using this
  · intro hc
    rw [dtA_out l p d k (by omega), rcA_block hc] at *
    have e1 : t = (b1 l p).drop (outB l p (k + 1)).length ++ (frm (Bm.filt (keysB l) d) ++ (frm (idxB l p (cnt l p)) ++ frm (rec3 (b1 l p).length (b2 l p d).length l.length))) := by
      rw [hb] at ht
      have h2 : outB l p k ++ (frm (Bk.blockB (piece l p k)) ++ ((b1 l p).drop (outB l p (k + 1)).length ++ (frm (Bm.filt (keysB l) d) ++ (frm (idxB l p (cnt l p)) ++ frm (rec3 (b1 l p).length (b2 l p d).length l.length))))) = outB l p k ++ (frm (Bk.blockB (piece l p k)) ++ t) := by
        rw [← ht]
        have hsp := b1_split l p (k + 1) hc
        have ho : outB l p (k + 1) = outB l p k ++ frm (Bk.blockB (piece l p k)) := rfl
        generalize (b1 l p).drop (outB l p (k + 1)).length = y at hsp ⊢
        rw [ho] at hsp
        rw [hsp]
        simp [List.append_assoc]
      exact (List.append_cancel_left (List.append_cancel_left h2)).symm
    obtain ⟨g1, g2⟩ := odd_block h (by omega) (oddB l p k x) (oddB_length l p k hc x hx)
    have e3 : outB l p k ++ (x ++ t) = four (oddB l p k x) (frm (Bm.filt (keysB l) d)) (frm (idxB l p (cnt l p))) (frm (rec3 (b1 l p).length (b2 l p d).length l.length)) := by
      rw [e1]
      unfold four oddB
      simp [List.append_assoc]
    rw [e3]
    exact ⟨g1, g2⟩

/-- The three first bytes of a frame say how long its record is. -/
theorem frm_head (r t : Bs) (h : r.length < 16777216) : ∃ b0 b1' b2' : UInt8, (frm r ++ t)[0]? = some b0 ∧ (frm r ++ t)[1]? = some b1' ∧ (frm r ++ t)[2]? = some b2' ∧ b0.toNat + 256 * b1'.toNat + 65536 * b2'.toNat = r.length := by
  refine ⟨UInt8.ofNat r.length, UInt8.ofNat (r.length / 256), UInt8.ofNat (r.length / 65536), rfl, rfl, rfl, ?_⟩
  simp only [UInt8.toNat_ofNat']
  omega
end Ss
end Go.Proofs.Ytepkhbbhpamdnaa
