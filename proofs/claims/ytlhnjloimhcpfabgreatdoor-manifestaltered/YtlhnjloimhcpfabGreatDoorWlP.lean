/-
  A log in plain words: writes, the record of a batch, what is read of one, what segments tell. Nothing here speaks of the program.
-/
import Derived.Test.YtlhnjloimhcpfabGreatDoorEA
import Derived.Test.YtlhnjloimhcpfabGreatDoorCA
import Derived.Test.YtlhnjloimhcpfabGreatDoorVA
namespace Go.Proofs.YtlhnjloimhcpfabGreatDoor
namespace Wl
open Enc

abbrev Bs := List UInt8

structure Wr where
  key : Bs
  value : Bs
  del : Bool

structure Bat where
  seq : Nat
  writes : List Wr

/-- May a write be? -/
def mayBe (x : Wr) : Bool := decide (x.key ≠ []) && decide (x.key.length ≤ 512) && decide (x.value.length ≤ 4096) && (!x.del || decide (x.value = []))
/-- Have two one key? -/
def shared : List Wr → Bool
  | [] => false
  | x :: r => r.any (fun y => decide (y.key = x.key)) || shared r
def checkE (l : List Wr) : Int :=
  if l.length = 0 then 2 else if l.length > 64 then 3 else if l.all mayBe then if shared l then 9 else 0 else 2

def text (s : Bs) : Bs := leb s.length ++ s
def wrB (x : Wr) : Bs := if x.del then 1 :: text x.key else 0 :: (text x.key ++ text x.value)
def record (n : Nat) (l : List Wr) : Bs := leb n ++ leb l.length ++ l.flatMap wrB

/-- A reader: what is left, and whether it is bad. -/
structure Rd where
  rest : Bs
  bad : Bool

def rnumX (s : Rd) (most : Nat) : Nat := (smX s.rest most).toNat
def rnum (s : Rd) (most : Nat) : Rd := if smE s.rest most = 0 then ⟨s.rest.drop (smN s.rest most).toNat, s.bad⟩ else ⟨[], true⟩
def rtextX (s : Rd) (most : Nat) : Bs := (rnum s most).rest.take (rnumX s most) |> fun t => if rnumX s most > (rnum s most).rest.length then [] else t
def rtext (s : Rd) (most : Nat) : Rd := if rnumX s most > (rnum s most).rest.length then ⟨[], true⟩ else ⟨(rnum s most).rest.drop (rnumX s most), (rnum s most).bad⟩
def rwriteX (s : Rd) : Wr :=
  if rnumX s 1 = 1 then ⟨rtextX (rnum s 1) 512, [], true⟩ else ⟨rtextX (rnum s 1) 512, rtextX (rtext (rnum s 1) 512) 4096, false⟩
def rwrite (s : Rd) : Rd := if rnumX s 1 = 1 then rtext (rnum s 1) 512 else rtext (rtext (rnum s 1) 512) 4096
def rwritesX (s : Rd) : Nat → List Wr
  | 0 => []
  | k + 1 => rwriteX s :: rwritesX (rwrite s) k
def rwrites (s : Rd) : Nat → Rd
  | 0 => s
  | k + 1 => rwrites (rwrite s) k

def dSeq (b : Bs) : Nat := rnumX ⟨b, false⟩ 1073741824
def dMany (b : Bs) : Nat := rnumX (rnum ⟨b, false⟩ 1073741824) 64
def dFrom (b : Bs) : Rd := rnum (rnum ⟨b, false⟩ 1073741824) 64
def dWrites (b : Bs) : List Wr := rwritesX (dFrom b) (dMany b)
def dEnd (b : Bs) : Rd := rwrites (dFrom b) (dMany b)
/-- Is it a batch's record? -/
def dGood (b : Bs) : Bool := !(dEnd b).bad && decide ((dEnd b).rest = []) && decide (dSeq b ≠ 0) && decide (checkE (dWrites b) = 0)

theorem rwrites_more (s : Rd) : ∀ (k : Nat), rwrites s (k + 1) = rwrite (rwrites s k) := by
  intro k
  induction k generalizing s with
  | zero => rfl
  | succ k ih => rw [rwrites, ih (rwrite s)]; rfl
theorem rwritesX_more (s : Rd) : ∀ (k : Nat), rwritesX s (k + 1) = rwritesX s k ++ [rwriteX (rwrites s k)] := by
  intro k
  induction k generalizing s with
  | zero => rfl
  | succ k ih => rw [rwritesX, ih (rwrite s)]; rfl
theorem rwritesX_length (s : Rd) (k : Nat) : (rwritesX s k).length = k := by
  induction k generalizing s with
  | zero => rfl
  | succ k ih => rw [rwritesX, List.length_cons, ih]

theorem rnumX_le (s : Rd) (most : Nat) : rnumX s most ≤ most := by
  unfold rnumX smX
  split
  · rename_i h; omega
  · simp
theorem smN_le (l : Bs) (most : Int) : (smN l most).toNat ≤ l.length := by
  unfold smN
  split
  · rename_i h
    have := (rd_made l h.1).2
    omega
  · simp
theorem rnum_le (s : Rd) (most : Nat) : (rnum s most).rest.length ≤ s.rest.length := by
  unfold rnum
  split
  · simp
  · simp

/-! ### What was written is read back -/
theorem sm_back (x : Nat) (r : Bs) (most : Nat) (hm : most < 9223372036854775808) (h : x ≤ most) : smX (leb x ++ r) most = x ∧ smN (leb x ++ r) most = (leb x).length ∧ smE (leb x ++ r) most = 0 := by
  have hb := rd_back x r (by omega)
  unfold smX smN smE
  rw [hb]
  have hc : (0 : Nat) = 0 ∧ (0 : Int) ≤ (most : Int) ∧ ((x : Nat) : Int) ≤ (most : Int) := ⟨rfl, by omega, by omega⟩
  refine ⟨if_pos hc, if_pos hc, if_pos hc⟩
theorem rnum_back (x : Nat) (r : Bs) (b : Bool) (most : Nat) (hm : most < 9223372036854775808) (h : x ≤ most) : rnumX ⟨leb x ++ r, b⟩ most = x ∧ rnum ⟨leb x ++ r, b⟩ most = ⟨r, b⟩ := by
  obtain ⟨h1, h2, h3⟩ := sm_back x r most hm h
  constructor
  · unfold rnumX; rw [h1]; rfl
  · unfold rnum; rw [if_pos h3, h2]; simp
theorem rtext_back (s r : Bs) (b : Bool) (most : Nat) (hm : most < 9223372036854775808) (h : s.length ≤ most) : rtextX ⟨text s ++ r, b⟩ most = s ∧ rtext ⟨text s ++ r, b⟩ most = ⟨r, b⟩ := by
  obtain ⟨h1, h2⟩ := rnum_back s.length (s ++ r) b most hm h
  unfold text rtextX rtext
  rw [List.append_assoc, h1, h2]
  have : ¬ s.length > (s ++ r).length := by rw [List.length_append]; omega
  rw [if_neg this]
  refine ⟨?_, ?_⟩
  · show (if _ then _ else _) = _
    rw [if_neg this, List.take_left']
    rfl
  · rw [List.drop_left']
    rfl
theorem rwrite_back (x : Wr) (h : mayBe x = true) (r : Bs) (b : Bool) : rwriteX ⟨wrB x ++ r, b⟩ = x ∧ rwrite ⟨wrB x ++ r, b⟩ = ⟨r, b⟩ := by
  simp only [mayBe, Bool.and_eq_true, decide_eq_true_eq, Bool.or_eq_true, Bool.not_eq_true'] at h
  obtain ⟨⟨⟨h1, h2⟩, h3⟩, h4⟩ := h
  obtain ⟨k, v, d⟩ := x
  simp only at h1 h2 h3 h4
  cases d with
  | true =>
    have hv : v = [] := by simpa using h4
    subst hv
    have e1 : wrB ⟨k, [], true⟩ ++ r = leb 1 ++ (text k ++ r) := by rw [leb_small 1 (by decide)]; rfl
    obtain ⟨n1, n2⟩ := rnum_back 1 (text k ++ r) b 1 (by decide) (Nat.le_refl _)
    obtain ⟨t1, t2⟩ := rtext_back k r b 512 (by decide) h2
    unfold rwriteX rwrite
    rw [e1, n1, n2, if_pos rfl, if_pos rfl, t1, t2]
    exact ⟨rfl, rfl⟩
  | false =>
    have e1 : wrB ⟨k, v, false⟩ ++ r = leb 0 ++ (text k ++ (text v ++ r)) := by
      rw [leb_small 0 (by decide)]
      show 0 :: (text k ++ text v) ++ r = _
      simp
    obtain ⟨n1, n2⟩ := rnum_back 0 (text k ++ (text v ++ r)) b 1 (by decide) (by decide)
    obtain ⟨t1, t2⟩ := rtext_back k (text v ++ r) b 512 (by decide) h2
    obtain ⟨v1, v2⟩ := rtext_back v r b 4096 (by decide) h3
    unfold rwriteX rwrite
    rw [e1, n1, n2, if_neg (by decide), if_neg (by decide), t1, t2, v1, v2]
    exact ⟨rfl, rfl⟩
theorem rwrites_back (l : List Wr) (h : l.all mayBe = true) (r : Bs) (b : Bool) : rwritesX ⟨l.flatMap wrB ++ r, b⟩ l.length = l ∧ rwrites ⟨l.flatMap wrB ++ r, b⟩ l.length = ⟨r, b⟩ := by
  induction l with
  | nil => exact ⟨rfl, rfl⟩
  | cons x l ih =>
    rw [List.all_cons, Bool.and_eq_true] at h
    obtain ⟨i1, i2⟩ := ih h.2
    obtain ⟨w1, w2⟩ := rwrite_back x h.1 (l.flatMap wrB ++ r) b
    rw [List.flatMap_cons, List.append_assoc, List.length_cons, rwritesX, rwrites, w1, w2, i1, i2]
    exact ⟨rfl, rfl⟩

theorem checkE_ok {l : List Wr} (h : checkE l = 0) : 1 ≤ l.length ∧ l.length ≤ 64 ∧ l.all mayBe = true ∧ shared l = false := by
  unfold checkE at h
  split at h
  · cases h
  · split at h
    · cases h
    · split at h
      · split at h
        · cases h
        · rename_i a b c d
          exact ⟨by omega, by omega, c, by simpa using d⟩
      · cases h

theorem dec_back (n : Nat) (l : List Wr) (h1 : 1 ≤ n) (h2 : n ≤ 1073741824) (h : checkE l = 0) : dSeq (record n l) = n ∧ dWrites (record n l) = l ∧ dGood (record n l) = true := by
  obtain ⟨k1, k2, k3, k4⟩ := checkE_ok h
  have e1 : record n l = leb n ++ (leb l.length ++ (l.flatMap wrB ++ [])) := by unfold record; simp
  obtain ⟨a1, a2⟩ := rnum_back n (leb l.length ++ (l.flatMap wrB ++ [])) false 1073741824 (by decide) h2
  obtain ⟨b1, b2⟩ := rnum_back l.length (l.flatMap wrB ++ []) false 64 (by decide) k2
  obtain ⟨c1, c2⟩ := rwrites_back l k3 [] false
  have f1 : dSeq (record n l) = n := by unfold dSeq; rw [e1, a1]
  have f2 : dMany (record n l) = l.length := by unfold dMany; rw [e1, a2, b1]
  have f3 : dFrom (record n l) = ⟨l.flatMap wrB ++ [], false⟩ := by unfold dFrom; rw [e1, a2, b2]
  have f4 : dWrites (record n l) = l := by unfold dWrites; rw [f2, f3, c1]
  have f5 : dEnd (record n l) = ⟨[], false⟩ := by unfold dEnd; rw [f2, f3, c2]
  refine ⟨f1, f4, ?_⟩
  unfold dGood
  rw [f5, f1, f4, h]
  simp
  omega

/-! ### How long a record is -/
theorem text_len (s : Bs) (h : s.length ≤ 4096) : (text s).length ≤ s.length + 2 := by
  unfold text
  rw [List.length_append]
  have := leb_len 1 s.length (by omega)
  omega
theorem wrB_len (x : Wr) (h : mayBe x = true) : (wrB x).length ≤ 4700 := by
  simp only [mayBe, Bool.and_eq_true, decide_eq_true_eq, Bool.or_eq_true, Bool.not_eq_true'] at h
  obtain ⟨⟨⟨h1, h2⟩, h3⟩, h4⟩ := h
  have a := text_len x.key (by omega)
  have b := text_len x.value h3
  unfold wrB
  split
  · rw [List.length_cons]; omega
  · rw [List.length_cons, List.length_append]; omega
theorem wrBs_len (l : List Wr) (h : l.all mayBe = true) : (l.flatMap wrB).length ≤ 4700 * l.length := by
  induction l with
  | nil => simp
  | cons x l ih =>
    rw [List.all_cons, Bool.and_eq_true] at h
    have := wrB_len x h.1
    have := ih h.2
    rw [List.flatMap_cons, List.length_append, List.length_cons]
    omega
theorem record_len (n : Nat) (l : List Wr) (h2 : n ≤ 1073741824) (h : checkE l = 0) : (record n l).length ≤ 302000 := by
  obtain ⟨k1, k2, k3, k4⟩ := checkE_ok h
  have a := leb_len64 n (by omega)
  have b := leb_len64 l.length (by omega)
  have c := wrBs_len l k3
  unfold record
  rw [List.length_append, List.length_append]
  omega

/-! ### Segments -/
/-- The records of a segment that are batches, in order; none: one is none. -/
def bats : List Bs → Option (List Bat)
  | [] => some []
  | r :: t => if dGood r then (bats t).map (⟨dSeq r, dWrites r⟩ :: ·) else none
/-- What a segment's bytes tell. -/
def segB (b : Bs) : Option (List Bat) := if (scn b).2.2 = 6 then none else bats (scn b).1

def rec (x : Bat) : Bs := record x.seq x.writes
/-- May a batch be? -/
def batOk (x : Bat) : Prop := 1 ≤ x.seq ∧ x.seq ≤ 1073741824 ∧ checkE x.writes = 0
theorem bats_back (l : List Bat) (h : ∀ x ∈ l, batOk x) : bats (l.map rec) = some l := by
  induction l with
  | nil => rfl
  | cons x l ih =>
    obtain ⟨a, b, c⟩ := h x (by simp)
    obtain ⟨d1, d2, d3⟩ := dec_back x.seq x.writes a b c
    rw [List.map_cons, bats]
    have e : dGood (rec x) = true := d3
    rw [if_pos e, ih (fun y hy => h y (by simp [hy]))]
    show some (⟨dSeq (record x.seq x.writes), dWrites (record x.seq x.writes)⟩ :: l) = _
    rw [d1, d2]

/-- The batches go on one by one, begin no later than behind seq, and don't end ahead of it. -/
def goOnB (l : List Bat) (seq : Nat) : Bool :=
  match l with
  | [] => true
  | x :: r => ((x :: r).zipIdx.all fun p => decide (p.1.seq = x.seq + p.2)) && decide (x.seq ≤ seq + 1) && decide (seq ≤ ((x :: r).getLast (by simp)).seq)
def behind (l : List Bat) (seq : Nat) : List Bat := l.filter fun x => decide (x.seq > seq)

/-! ### Names -/
/-- The two lowest digits. -/
def dig (n : Nat) : UInt8 := UInt8.ofNat (48 + n % 10)
/-- The name of a segment below 100. -/
def seg (n : Nat) : Bs := [119, 97, 108, 45, 48, 48, 48, 48, dig (n / 10), dig n]
theorem dig_toNat (n : Nat) : (dig n).toNat = 48 + n % 10 := by unfold dig; rw [UInt8.toNat_ofNat']; omega
theorem seg_fine (n : Nat) : Vf.fine (seg n) = true := by
  have h1 := dig_toNat n
  have h2 := dig_toNat (n / 10)
  simp only [Vf.fine, seg, List.all_cons, List.all_nil, h1, h2, Bool.and_eq_true, decide_eq_true_eq]
  refine ⟨⟨⟨?_, ?_, ?_, ?_, ?_, ?_, ?_, ?_, ?_, ?_, trivial⟩, by simp⟩, by simp⟩ <;> first | decide | omega
theorem seg_length (n : Nat) : (seg n).length = 10 := rfl
theorem seg_inj {n m : Nat} (hn : n < 100) (hm : m < 100) (h : seg n = seg m) : n = m := by
  have h1 : dig (n / 10) = dig (m / 10) ∧ dig n = dig m := by simpa [seg] using h
  have a := congrArg UInt8.toNat h1.1
  have b := congrArg UInt8.toNat h1.2
  rw [dig_toNat, dig_toNat] at a b
  omega
theorem seg_rise {n m : Nat} (hm : m < 100) (h : n < m) : seg n < seg m := by
  have a := dig_toNat n
  have b := dig_toNat m
  have c := dig_toNat (n / 10)
  have d := dig_toNat (m / 10)
  simp only [seg, List.cons_lt_cons_iff, UInt8.lt_iff_toNat_lt, Nat.lt_irrefl, false_or, true_and]
  by_cases e : n / 10 = m / 10
  · right
    refine ⟨by rw [e], .inl ?_⟩
    omega
  · left
    omega
end Wl
end Go.Proofs.YtlhnjloimhcpfabGreatDoor
