/-
  Blocks in plain words: what may be one, its bytes, and a reader that takes bytes to pieces; what was written is read back, and nothing else is a block. Nothing here speaks of the program. .. and what follows from it.
-/
import Derived.Test.YtbdgdigpnfpnhaaKA
import Derived.Test.YtbdgdigpnfpnhaaKC
import Derived.Lib.AppendStr
import Derived.RangeFuncBox
import Derived.Test.YtbdgdigpnfpnhaaJMem
namespace Go.Proofs.Ytbdgdigpnfpnhaa.Q
namespace Bk
open Enc
open Mm (Ent)
abbrev Bs := List UInt8

/-- May an entry be? -/
def may (e : Ent) : Bool := decide (1 ≤ e.seq) && decide (e.seq ≤ 1073741824) && Wl.mayBe ⟨e.key, e.value, e.del⟩
/-- Is each ahead of the next? -/
def inOrd : List Ent → Bool
  | [] => true
  | [_] => true
  | a :: b :: r => Mm.ahead a b && inOrd (b :: r)
def InOrd (l : List Ent) : Prop := ∀ k (h : k + 1 < l.length), Mm.ahead l[k] l[k + 1] = true
theorem inOrd_iff (l : List Ent) : inOrd l = true ↔ InOrd l := by
  induction l with
  | nil => exact ⟨fun _ k h => by simp at h, fun _ => rfl⟩
  | cons a r ih =>
    cases r with
    | nil => exact ⟨fun _ k h => by simp at h, fun _ => rfl⟩
    | cons b r =>
      rw [inOrd, Bool.and_eq_true, ih]
      constructor
      · rintro ⟨h1, h2⟩ k hk
        cases k with
        | zero => exact h1
        | succ k => exact h2 k (by simpa using hk)
      · intro h
        exact ⟨h 0 (by simp), fun k hk => h (k + 1) (by simpa using hk)⟩
/-- Why a list is no block. -/
def checkE (l : List Ent) : Int := if l.length = 0 then 2 else if l.length > 64 then 3 else if l.all may then if inOrd l then 0 else 10 else 2
theorem checkE_ok {l : List Ent} (h : checkE l = 0) : 1 ≤ l.length ∧ l.length ≤ 64 ∧ l.all may = true ∧ inOrd l = true := by
  unfold checkE at h
  split at h
  · cases h
  · split at h
    · cases h
    · split at h
      · split at h
        · rename_i a b c d; exact ⟨by omega, by omega, c, d⟩
        · cases h
      · cases h
theorem may_parts {e : Ent} (h : may e = true) : 1 ≤ e.seq ∧ e.seq ≤ 1073741824 ∧ e.key ≠ [] ∧ e.key.length ≤ 512 ∧ e.value.length ≤ 4096 ∧ (e.del = true → e.value = []) := by
  simp only [may, Wl.mayBe, Bool.and_eq_true, decide_eq_true_eq, Bool.or_eq_true, Bool.not_eq_true'] at h
  obtain ⟨⟨h1, h2⟩, ⟨⟨⟨h3, h4⟩, h5⟩, h6⟩⟩ := h
  refine ⟨h1, h2, h3, h4, h5, fun hd => ?_⟩
  rcases h6 with h6 | h6
  · rw [hd] at h6; cases h6
  · exact h6

/-- How many first bytes two texts have in common. -/
def cp : Bs → Bs → Nat
  | a :: r, b :: s => if a = b then cp r s + 1 else 0
  | [], _ => 0
  | _ :: _, [] => 0
theorem cp_le : ∀ (a k : Bs), cp a k ≤ a.length ∧ cp a k ≤ k.length ∧ a.take (cp a k) = k.take (cp a k)
  | [], _ => by simp [cp]
  | _ :: _, [] => by simp [cp]
  | a :: r, b :: s => by
    obtain ⟨h1, h2, h3⟩ := cp_le r s
    rw [cp]
    split
    · rename_i e; subst e
      simp [h3]; omega
    · simp
theorem cp_step : ∀ (a k : Bs) (n : Nat), n ≤ cp a k → (n < cp a k ↔ ∃ (h1 : n < a.length) (h2 : n < k.length), a[n] = k[n])
  | [], k, n, h => by simp [cp] at h ⊢
  | x :: r, [], n, h => by simp [cp] at h ⊢
  | x :: r, b :: s, n, h => by
    rw [cp] at h ⊢
    split at h
    · rename_i e; subst e
      rw [if_pos rfl]
      cases n with
      | zero => simp
      | succ n =>
        have := cp_step r s n (by omega)
        simp only [List.length_cons, List.getElem_cons_succ, Nat.add_lt_add_iff_right]
        exact this
    · rename_i e
      rw [if_neg e]
      have : n = 0 := by omega
      subst this
      simp [e]
/-- How many bytes the key of a place is said to share. -/
def shr (p : Nat) (a k : Bs) : Nat := if p % 8 = 0 then 0 else cp a k
theorem shr_le (p : Nat) (a k : Bs) : shr p a k ≤ a.length ∧ shr p a k ≤ k.length ∧ a.take (shr p a k) = k.take (shr p a k) := by
  unfold shr
  split
  · simp
  · exact cp_le a k

def text (s : Bs) : Bs := leb s.length ++ s
/-- The bytes of an entry at a place, behind a key. -/
def entB (p : Nat) (a : Bs) (e : Ent) : Bs := leb (shr p a e.key) ++ (text (e.key.drop (shr p a e.key)) ++ (leb e.seq.toNat ++ (if e.del then [1] else 0 :: text e.value)))
def encF : Nat → Bs → List Ent → Bs
  | _, _, [] => []
  | p, a, e :: r => entB p a e ++ encF (p + 1) e.key r
/-- The bytes of a block. -/
def blockB (l : List Ent) : Bs := leb l.length ++ encF 0 [] l
def lastK (a : Bs) (l : List Ent) : Bs := l.foldl (fun _ e => e.key) a
theorem lastK_snoc (a : Bs) (l : List Ent) (e : Ent) : lastK a (l ++ [e]) = e.key := by simp [lastK]
theorem encF_snoc (l : List Ent) (e : Ent) : ∀ (p : Nat) (a : Bs), encF p a (l ++ [e]) = encF p a l ++ entB (p + l.length) (lastK a l) e := by
  induction l with
  | nil => intro p a; simp [encF, lastK]
  | cons x r ih =>
    intro p a
    rw [List.cons_append, encF, ih, encF, List.append_assoc, List.length_cons]
    have : p + 1 + r.length = p + (r.length + 1) := by omega
    rw [this]; rfl
/-- What the bytes are up to the j-th entry. -/
def preB (l : List Ent) (j : Nat) : Bs := leb l.length ++ encF 0 [] (l.take j)
def keyAt (l : List Ent) (j : Nat) : Bs := lastK [] (l.take j)
theorem preB_zero (l : List Ent) : preB l 0 = leb l.length := by simp [preB, encF]
theorem preB_all (l : List Ent) : preB l l.length = blockB l := by simp [preB, blockB]
theorem keyAt_zero (l : List Ent) : keyAt l 0 = [] := rfl
theorem keyAt_next (l : List Ent) (j : Nat) (h : j < l.length) : keyAt l (j + 1) = l[j].key := by
  unfold keyAt; rw [List.take_succ_eq_append_getElem h, lastK_snoc]
theorem preB_next (l : List Ent) (j : Nat) (h : j < l.length) : preB l (j + 1) = preB l j ++ entB j (keyAt l j) l[j] := by
  unfold preB keyAt
  rw [List.take_succ_eq_append_getElem h, encF_snoc, List.append_assoc, List.length_take, Nat.min_eq_left (by omega), Nat.zero_add]
theorem text_len (s : Bs) (h : s.length ≤ 4096) : (text s).length ≤ s.length + 2 := by
  unfold text
  rw [List.length_append]
  have := leb_len 1 s.length (by omega)
  omega
theorem entB_len (p : Nat) (a : Bs) (e : Ent) (h : may e = true) : (entB p a e).length ≤ 5000 := by
  obtain ⟨h1, h2, h3, h4, h5, h6⟩ := may_parts h
  obtain ⟨g1, g2, _⟩ := shr_le p a e.key
  have a1 := leb_len64 (shr p a e.key) (by omega)
  have a2 := text_len (e.key.drop (shr p a e.key)) (by rw [List.length_drop]; omega)
  rw [List.length_drop] at a2
  have a3 := leb_len64 e.seq.toNat (by omega)
  have a4 := text_len e.value h5
  unfold entB
  rw [List.length_append, List.length_append, List.length_append]
  split
  · rw [List.length_singleton]; omega
  · rw [List.length_cons]; omega
theorem encF_len (l : List Ent) (h : l.all may = true) : ∀ (p : Nat) (a : Bs), (encF p a l).length ≤ 5000 * l.length := by
  induction l with
  | nil => intro p a; simp [encF]
  | cons x r ih =>
    intro p a
    rw [List.all_cons, Bool.and_eq_true] at h
    have h1 := entB_len p a x h.1
    have h2 := ih h.2 (p + 1) x.key
    rw [encF, List.length_append, List.length_cons]
    omega
theorem preB_len (l : List Ent) (h : checkE l = 0) (j : Nat) : (preB l j).length ≤ 330000 := by
  obtain ⟨h1, h2, h3, _⟩ := checkE_ok h
  have a1 := leb_len64 l.length (by omega)
  have h4 : (l.take j).all may = true := by
    rw [List.all_eq_true] at h3 ⊢
    exact fun x hx => h3 x (List.mem_of_mem_take hx)
  have a2 := encF_len (l.take j) h4 0 []
  rw [List.length_take] at a2
  unfold preB
  rw [List.length_append]
  omega
theorem preB_ne (l : List Ent) (j : Nat) : preB l j ≠ [] := by
  intro e
  have := leb_pos l.length
  have h := congrArg List.length e
  unfold preB at h
  rw [List.length_append, List.length_nil] at h
  omega

/-! ### A reader -/
structure Rd where
  rest : Bs
  bad : Bool
def mst (s : Rd) (c : Bool) : Rd := ⟨s.rest, s.bad || !c⟩
def rnumM (s : Rd) (most : Nat) : Rd := mst s (decide (smE s.rest most = 0))
def rnum (s : Rd) (most : Nat) : Rd := if (rnumM s most).bad then rnumM s most else ⟨s.rest.drop (smN s.rest most).toNat, false⟩
def rnumX (s : Rd) (most : Nat) : Nat := if (rnumM s most).bad then 0 else (smX s.rest most).toNat
def rtextM (s : Rd) (most : Nat) : Rd := mst (rnum s most) (decide (rnumX s most ≤ (rnum s most).rest.length))
def rtext (s : Rd) (most : Nat) : Rd := if (rtextM s most).bad then rtextM s most else ⟨(rnum s most).rest.drop (rnumX s most), false⟩
def rtextX (s : Rd) (most : Nat) : Bs := if (rtextM s most).bad then [] else (rnum s most).rest.take (rnumX s most)
/-- The reader behind the key of an entry, the key, and the reader behind what has to be so of it. -/
def r2 (a : Bs) (s : Rd) : Rd := rtext (rnum s a.length) 512
def keyX (a : Bs) (s : Rd) : Bs := a.take (rnumX s a.length) ++ rtextX (rnum s a.length) 512
def r3 (p : Nat) (a : Bs) (s : Rd) : Rd := mst (r2 a s) (decide (rnumX s a.length = shr p a (keyX a s)))
def r4 (p : Nat) (a : Bs) (s : Rd) : Rd := rnum (r3 p a s) 1073741824
def r5 (p : Nat) (a : Bs) (s : Rd) : Rd := rnum (r4 p a s) 1
def delX (p : Nat) (a : Bs) (s : Rd) : Bool := decide (rnumX (r4 p a s) 1 = 1)
def rent (p : Nat) (a : Bs) (s : Rd) : Rd := if delX p a s then r5 p a s else rtext (r5 p a s) 4096
def rentX (p : Nat) (a : Bs) (s : Rd) : Ent := ⟨keyX a s, if delX p a s then [] else rtextX (r5 p a s) 4096, (rnumX (r3 p a s) 1073741824 : Nat), delX p a s⟩
def rents : Rd → Nat → Nat → Bs → Rd
  | s, 0, _, _ => s
  | s, k + 1, p, a => rents (rent p a s) k (p + 1) (rentX p a s).key
def rentsX : Rd → Nat → Nat → Bs → List Ent
  | _, 0, _, _ => []
  | s, k + 1, p, a => rentX p a s :: rentsX (rent p a s) k (p + 1) (rentX p a s).key
def dMany (b : Bs) : Nat := rnumX ⟨b, false⟩ 64
def dFrom (b : Bs) : Rd := rnum ⟨b, false⟩ 64
def dEnts (b : Bs) : List Ent := rentsX (dFrom b) (dMany b) 0 []
def dLast (b : Bs) : Rd := rents (dFrom b) (dMany b) 0 []
def dEnd (b : Bs) : Rd := mst (mst (dLast b) (decide (checkE (dEnts b) = 0))) (decide ((dLast b).rest = []))
def dGood (b : Bs) : Bool := !(dEnd b).bad

theorem rentsX_length : ∀ (k : Nat) (s : Rd) (p : Nat) (a : Bs), (rentsX s k p a).length = k
  | 0, _, _, _ => rfl
  | k + 1, s, p, a => by rw [rentsX, List.length_cons, rentsX_length k]
theorem rents_more : ∀ (k : Nat) (s : Rd) (p : Nat) (a : Bs), rentsX s (k + 1) p a = rentsX s k p a ++ [rentX (p + k) (lastK a (rentsX s k p a)) (rents s k p a)] ∧ rents s (k + 1) p a = rent (p + k) (lastK a (rentsX s k p a)) (rents s k p a)
  | 0, s, p, a => ⟨rfl, rfl⟩
  | k + 1, s, p, a => by
    obtain ⟨h1, h2⟩ := rents_more k (rent p a s) (p + 1) (rentX p a s).key
    have e : p + 1 + k = p + (k + 1) := by omega
    rw [e] at h1 h2
    constructor
    · rw [rentsX, h1]; rfl
    · rw [rents, h2]; rfl
theorem rnumX_le (s : Rd) (most : Nat) : rnumX s most ≤ most := by
  unfold rnumX smX
  split
  · simp
  · split
    · rename_i h; omega
    · simp
theorem smN_le (l : Bs) (most : Int) : (smN l most).toNat ≤ l.length := by
  unfold smN
  split
  · rename_i h
    have := (rd_made l h.1).2
    omega
  · simp
theorem rnum_le (s : Rd) (most : Nat) : (rnum s most).rest.length ≤ s.rest.length := by
  unfold rnum rnumM mst
  split <;> simp
theorem rtextX_le (s : Rd) (most : Nat) : (rtextX s most).length ≤ most := by
  unfold rtextX
  have := rnumX_le s most
  split
  · simp
  · rw [List.length_take]; omega
theorem keyX_le (a : Bs) (s : Rd) : (keyX a s).length ≤ a.length + 512 := by
  unfold keyX
  have := rtextX_le (rnum s a.length) 512
  rw [List.length_append, List.length_take]
  omega
theorem rentX_len (p : Nat) (a : Bs) (s : Rd) : (rentX p a s).key.length ≤ a.length + 512 ∧ (rentX p a s).value.length ≤ 4096 := by
  refine ⟨keyX_le a s, ?_⟩
  show (if delX p a s then [] else rtextX (r5 p a s) 4096).length ≤ _
  split
  · simp
  · exact rtextX_le _ _
theorem rentsX_len : ∀ (k : Nat) (s : Rd) (p : Nat) (a : Bs) (n : Nat), a.length ≤ n → ∀ x ∈ rentsX s k p a, x.key.length ≤ n + 512 * k ∧ x.value.length ≤ 4096
  | 0, _, _, _, _, _, x, hx => by simp [rentsX] at hx
  | k + 1, s, p, a, n, ha, x, hx => by
    obtain ⟨h1, h2⟩ := rentX_len p a s
    rw [rentsX, List.mem_cons] at hx
    have e : n + 512 * (k + 1) = n + 512 + 512 * k := by rw [Nat.mul_succ]; omega
    rw [e]
    rcases hx with rfl | hx
    · exact ⟨Nat.le_trans h1 (by clear h1 h2; omega), h2⟩
    · exact rentsX_len k _ _ _ (n + 512) (Nat.le_trans h1 (by clear h1 h2 hx; omega)) x hx
theorem lastK_le (l : List Ent) (n : Nat) : ∀ (a : Bs), a.length ≤ n → (∀ x ∈ l, x.key.length ≤ n) → (lastK a l).length ≤ n := by
  induction l with
  | nil => intro a h _; exact h
  | cons x r ih =>
    intro a h hx
    show (lastK x.key r).length ≤ n
    exact ih _ (hx x (by simp)) (fun y hy => hx y (by simp [hy]))

/-! ### What was written is read back -/
theorem sm_back (x : Nat) (r : Bs) (most : Nat) (hm : most < 9223372036854775808) (h : x ≤ most) : smX (leb x ++ r) most = x ∧ smN (leb x ++ r) most = (leb x).length ∧ smE (leb x ++ r) most = 0 := by
  have hb := rd_back x r (by omega)
  unfold smX smN smE
  rw [hb]
  have hc : (0 : Nat) = 0 ∧ (0 : Int) ≤ (most : Int) ∧ ((x : Nat) : Int) ≤ (most : Int) := ⟨rfl, by omega, by omega⟩
  refine ⟨if_pos hc, if_pos hc, if_pos hc⟩
theorem rnum_back (x : Nat) (r : Bs) (most : Nat) (hm : most < 9223372036854775808) (h : x ≤ most) : rnumX ⟨leb x ++ r, false⟩ most = x ∧ rnum ⟨leb x ++ r, false⟩ most = ⟨r, false⟩ := by
  obtain ⟨h1, h2, h3⟩ := sm_back x r most hm h
  unfold rnumX rnum rnumM mst
  simp [h1, h2, h3]
theorem rtext_back (s r : Bs) (most : Nat) (hm : most < 9223372036854775808) (h : s.length ≤ most) : rtextX ⟨text s ++ r, false⟩ most = s ∧ rtext ⟨text s ++ r, false⟩ most = ⟨r, false⟩ := by
  obtain ⟨h1, h2⟩ := rnum_back s.length (s ++ r) most hm h
  unfold text rtextX rtext rtextM mst
  rw [List.append_assoc, h1, h2]
  simp
theorem rent_back (p : Nat) (a : Bs) (e : Ent) (h : may e = true) (ha : a.length < 9223372036854775808) (r : Bs) : rentX p a ⟨entB p a e ++ r, false⟩ = e ∧ rent p a ⟨entB p a e ++ r, false⟩ = ⟨r, false⟩ := by
  obtain ⟨h1, h2, h3, h4, h5, h6⟩ := may_parts h
  obtain ⟨g1, g2, g3⟩ := shr_le p a e.key
  have e0 : entB p a e ++ r = leb (shr p a e.key) ++ (text (e.key.drop (shr p a e.key)) ++ (leb e.seq.toNat ++ ((if e.del then [1] else 0 :: text e.value) ++ r))) := by unfold entB; simp
  obtain ⟨n1, n2⟩ := rnum_back (shr p a e.key) (text (e.key.drop (shr p a e.key)) ++ (leb e.seq.toNat ++ ((if e.del then [1] else 0 :: text e.value) ++ r))) a.length ha g1
  obtain ⟨t1, t2⟩ := rtext_back (e.key.drop (shr p a e.key)) (leb e.seq.toNat ++ ((if e.del then [1] else 0 :: text e.value) ++ r)) 512 (by decide) (by rw [List.length_drop]; omega)
  obtain ⟨q1, q2⟩ := rnum_back e.seq.toNat ((if e.del then [1] else 0 :: text e.value) ++ r) 1073741824 (by decide) (by omega)
  rw [← e0] at n1 n2
  have k1 : keyX a ⟨entB p a e ++ r, false⟩ = e.key := by unfold keyX; rw [n1, n2, t1, g3, List.take_append_drop]
  have k2 : r3 p a ⟨entB p a e ++ r, false⟩ = ⟨leb e.seq.toNat ++ ((if e.del then [1] else 0 :: text e.value) ++ r), false⟩ := by
    unfold r3 r2 mst; rw [k1, n1, n2, t2]; simp
  have k3 : r4 p a ⟨entB p a e ++ r, false⟩ = ⟨(if e.del then [1] else 0 :: text e.value) ++ r, false⟩ := by unfold r4; rw [k2, q2]
  have k4 : rnumX (r3 p a ⟨entB p a e ++ r, false⟩) 1073741824 = e.seq.toNat := by rw [k2, q1]
  obtain ⟨ek, ev, es, ed⟩ := e
  simp only at h1 h2 h5 h6 k1 k3 k4
  cases ed with
  | true =>
    have hv := h6 rfl
    subst hv
    have e1 : (if true = true then [1] else 0 :: text ([] : Bs)) ++ r = leb 1 ++ r := by rw [leb_small 1 (by decide)]; rfl
    rw [e1] at k3
    obtain ⟨m1, m2⟩ := rnum_back 1 r 1 (by decide) (Nat.le_refl _)
    have d1 : delX p a ⟨entB p a ⟨ek, [], es, true⟩ ++ r, false⟩ = true := by unfold delX; rw [k3, m1]; rfl
    have d2 : r5 p a ⟨entB p a ⟨ek, [], es, true⟩ ++ r, false⟩ = ⟨r, false⟩ := by unfold r5; rw [k3, m2]
    unfold rentX rent
    rw [d1, d2, k1, k4]
    refine ⟨?_, rfl⟩
    simp; omega
  | false =>
    have e1 : (if false = true then [1] else 0 :: text ev) ++ r = leb 0 ++ (text ev ++ r) := by rw [leb_small 0 (by decide)]; rfl
    rw [e1] at k3
    obtain ⟨m1, m2⟩ := rnum_back 0 (text ev ++ r) 1 (by decide) (by decide)
    obtain ⟨v1, v2⟩ := rtext_back ev r 4096 (by decide) h5
    have d1 : delX p a ⟨entB p a ⟨ek, ev, es, false⟩ ++ r, false⟩ = false := by unfold delX; rw [k3, m1]; rfl
    have d2 : r5 p a ⟨entB p a ⟨ek, ev, es, false⟩ ++ r, false⟩ = ⟨text ev ++ r, false⟩ := by unfold r5; rw [k3, m2]
    unfold rentX rent
    rw [d1, d2, k1, k4]
    simp [v1, v2]; omega
theorem rents_back (l : List Ent) (h : l.all may = true) (r : Bs) : ∀ (p : Nat) (a : Bs), a.length < 9223372036854775808 → rentsX ⟨encF p a l ++ r, false⟩ l.length p a = l ∧ rents ⟨encF p a l ++ r, false⟩ l.length p a = ⟨r, false⟩ := by
  induction l with
  | nil => intro p a _; exact ⟨rfl, rfl⟩
  | cons x l ih =>
    intro p a ha
    rw [List.all_cons, Bool.and_eq_true] at h
    obtain ⟨_, _, _, hk, _⟩ := may_parts h.1
    obtain ⟨i1, i2⟩ := ih h.2 (p + 1) x.key (by omega)
    obtain ⟨w1, w2⟩ := rent_back p a x h.1 ha (encF (p + 1) x.key l ++ r)
    rw [encF, List.append_assoc, List.length_cons, rentsX, rents, w1, w2, i1, i2]
    exact ⟨rfl, rfl⟩
theorem dec_back (l : List Ent) (h : checkE l = 0) : dEnts (blockB l) = l ∧ dGood (blockB l) = true := by
  obtain ⟨k1, k2, k3, k4⟩ := checkE_ok h
  have e1 : blockB l = leb l.length ++ (encF 0 [] l ++ []) := by unfold blockB; simp
  obtain ⟨a1, a2⟩ := rnum_back l.length (encF 0 [] l ++ []) 64 (by decide) k2
  obtain ⟨c1, c2⟩ := rents_back l k3 [] 0 [] (by decide)
  have f2 : dMany (blockB l) = l.length := by unfold dMany; rw [e1, a1]
  have f3 : dFrom (blockB l) = ⟨encF 0 [] l ++ [], false⟩ := by unfold dFrom; rw [e1, a2]
  have f4 : dEnts (blockB l) = l := by unfold dEnts; rw [f2, f3, c1]
  have f5 : dLast (blockB l) = ⟨[], false⟩ := by unfold dLast; rw [f2, f3, c2]
  refine ⟨f4, ?_⟩
  unfold dGood dEnd mst
  rw [f4, f5, h]
  simp

/-! ### Nothing else is a block -/
theorem mst_bad {s : Rd} {c : Bool} (h : (mst s c).bad = false) : s.bad = false ∧ c = true := by
  unfold mst at h
  simpa using h
theorem rnum_good {s : Rd} {most : Nat} (h : (rnum s most).bad = false) : s.bad = false ∧ s.rest = leb (rnumX s most) ++ (rnum s most).rest := by
  have hM : (rnumM s most).bad = false := by
    unfold rnum at h
    cases hb : (rnumM s most).bad with
    | false => rfl
    | true => rw [if_pos hb, hb] at h; cases h
  obtain ⟨h1, h2⟩ := mst_bad hM
  refine ⟨h1, ?_⟩
  unfold rnum rnumX
  rw [hM]
  have h3 : smE s.rest most = 0 := of_decide_eq_true h2
  have hc : (rd s.rest).2.2 = 0 ∧ (0 : Int) ≤ most ∧ ((rd s.rest).1 : Int) ≤ most := by
    unfold smE at h3
    split at h3
    · assumption
    · cases h3
  obtain ⟨m1, m2⟩ := rd_made s.rest hc.1
  have hX : smX s.rest most = ((rd s.rest).1 : Int) := if_pos hc
  have hN : smN s.rest most = ((rd s.rest).2.1 : Int) := if_pos hc
  rw [hX, hN]
  simp only [Int.toNat_natCast, Bool.false_eq_true, if_false]
  rw [← m1, List.take_append_drop]
theorem rtext_good {s : Rd} {most : Nat} (h : (rtext s most).bad = false) : s.bad = false ∧ s.rest = text (rtextX s most) ++ (rtext s most).rest := by
  have hM : (rtextM s most).bad = false := by
    unfold rtext at h
    cases hb : (rtextM s most).bad with
    | false => rfl
    | true => rw [if_pos hb, hb] at h; cases h
  obtain ⟨h1, h2⟩ := mst_bad hM
  obtain ⟨h3, h4⟩ := rnum_good h1
  refine ⟨h3, ?_⟩
  have hle : rnumX s most ≤ (rnum s most).rest.length := of_decide_eq_true h2
  unfold rtextX rtext text
  rw [hM]
  simp only [Bool.false_eq_true, if_false]
  rw [List.length_take, Nat.min_eq_left hle, List.append_assoc, List.take_append_drop]
  exact h4
theorem rent_good {p : Nat} {a : Bs} {s : Rd} (h : (rent p a s).bad = false) : s.bad = false ∧ s.rest = entB p a (rentX p a s) ++ (rent p a s).rest := by
  have h5 : (r5 p a s).bad = false ∧ (r5 p a s).rest = (if delX p a s then [] else text (rentX p a s).value) ++ (rent p a s).rest := by
    unfold rent at h ⊢
    unfold rentX
    cases hd : delX p a s with
    | true => rw [hd] at h; exact ⟨h, rfl⟩
    | false =>
      rw [hd] at h
      obtain ⟨x1, x2⟩ := rtext_good h
      exact ⟨x1, x2⟩
  obtain ⟨h4, e4⟩ := rnum_good h5.1
  obtain ⟨h3, e3⟩ := rnum_good h4
  obtain ⟨h2, c3⟩ := mst_bad h3
  obtain ⟨h1, e2⟩ := rtext_good h2
  obtain ⟨h0, e1⟩ := rnum_good h1
  refine ⟨h0, ?_⟩
  have hs : rnumX s a.length = shr p a (keyX a s) := of_decide_eq_true c3
  have hx : rnumX s a.length ≤ a.length := rnumX_le _ _
  have hkd : (keyX a s).drop (rnumX s a.length) = rtextX (rnum s a.length) 512 := by
    unfold keyX
    have : (a.take (rnumX s a.length)).length = rnumX s a.length := by rw [List.length_take]; omega
    exact List.drop_left' this
  have h3r : (r3 p a s).rest = (r2 a s).rest := rfl
  have e4' : (r4 p a s).rest = leb (rnumX (r4 p a s) 1) ++ (r5 p a s).rest := e4
  have e3' : (r3 p a s).rest = leb (rnumX (r3 p a s) 1073741824) ++ (r4 p a s).rest := e3
  have e2' : (rnum s a.length).rest = text (rtextX (rnum s a.length) 512) ++ (r2 a s).rest := e2
  have hmark : leb (rnumX (r4 p a s) 1) ++ (if delX p a s then [] else text (rentX p a s).value) = (if delX p a s then [1] else 0 :: text (rentX p a s).value) := by
    have hle := rnumX_le (r4 p a s) 1
    cases hd : delX p a s with
    | true =>
      have : rnumX (r4 p a s) 1 = 1 := of_decide_eq_true hd
      rw [this, leb_small 1 (by decide)]; rfl
    | false =>
      have : ¬ rnumX (r4 p a s) 1 = 1 := of_decide_eq_false hd
      have h0 : rnumX (r4 p a s) 1 = 0 := by omega
      rw [h0, leb_small 0 (by decide)]; rfl
  have hE : entB p a (rentX p a s) = leb (rnumX s a.length) ++ (text (rtextX (rnum s a.length) 512) ++ (leb (rnumX (r3 p a s) 1073741824) ++ (if delX p a s then [1] else 0 :: text (rentX p a s).value))) := by
    unfold entB
    show leb (shr p a (keyX a s)) ++ (text ((keyX a s).drop (shr p a (keyX a s))) ++ (leb ((rnumX (r3 p a s) 1073741824 : Nat) : Int).toNat ++ (if delX p a s then [1] else 0 :: text (rentX p a s).value))) = _
    rw [← hs, hkd, Int.toNat_natCast]
  rw [hE, e1, e2', ← h3r, e3', e4', h5.2, ← hmark]
  simp only [List.append_assoc]
theorem rents_good : ∀ (k : Nat) (s : Rd) (p : Nat) (a : Bs), (rents s k p a).bad = false → s.bad = false ∧ s.rest = encF p a (rentsX s k p a) ++ (rents s k p a).rest
  | 0, s, p, a, h => ⟨h, rfl⟩
  | k + 1, s, p, a, h => by
    obtain ⟨h1, h2⟩ := rents_good k (rent p a s) (p + 1) (rentX p a s).key h
    obtain ⟨h3, h4⟩ := rent_good h1
    refine ⟨h3, ?_⟩
    rw [rentsX, encF, List.append_assoc, rents, ← h2]
    exact h4
theorem enc_back (b : Bs) (h : dGood b = true) : checkE (dEnts b) = 0 ∧ blockB (dEnts b) = b := by
  have hb : (dEnd b).bad = false := by
    unfold dGood at h
    simpa using h
  obtain ⟨h1, h2⟩ := mst_bad hb
  obtain ⟨h3, h4⟩ := mst_bad h1
  have hr : (dLast b).rest = [] := of_decide_eq_true h2
  refine ⟨of_decide_eq_true h4, ?_⟩
  obtain ⟨h5, h6⟩ := rents_good _ _ _ _ h3
  obtain ⟨h7, h8⟩ := rnum_good h5
  have h6' : (dFrom b).rest = encF 0 [] (dEnts b) ++ (dLast b).rest := h6
  rw [hr, List.append_nil] at h6'
  have hl : (dEnts b).length = dMany b := rentsX_length _ _ _ _
  have h8' : b = leb (dMany b) ++ (dFrom b).rest := h8
  unfold blockB
  rw [hl, ← h6', ← h8']
end Bk
end Go.Proofs.Ytbdgdigpnfpnhaa.Q
namespace Go.Proofs.Ytbdgdigpnfpnhaa.Q
open Go.RowKit

theorem own_below {base : Nat} {w w' : World} {e s n : Nat} {v : Value} {xs : List Value} (h : w.ownsRow base e s v n xs) (hb : base ≤ w.heap.size) (hg : w.grownBy w' v.ownBlock) : Below base w w' :=
  (Below.refl _ _).grown hg hb (fun k hk => by
    rcases h.2 with ⟨rfl, _⟩ | ⟨g, cap, cur, rfl, hge, _⟩
    · cases hk
    · cases hk; exact hge)
theorem own_after {base : Nat} {w w' : World} {e s n : Nat} {v : Value} {xs : List Value} (h : w.ownsRow base e s v n xs) (hb : Below w.heap.size w w') : w'.ownsRow base e s v n xs :=
  h.kept (row := none) ⟨hb.os, hb.tape, hb.output, hb.size, fun k hk _ => hb.block k hk⟩ (by cases v.ownBlock with | none => exact .inl rfl | some g => exact .inr (by simp))

theorem wext_after {base : Nat} {w w1 w2 : World} {v v2 : Value} {l : List UInt8} (hb : Below w.heap.size w w1) (h : Ext base w1 v w2 v2 l) : Ext base w v w2 v2 l :=
  ⟨h.own, grownBy_trans (grown_any hb) h.grown (.inl rfl), by
    rcases h.lies with e | ⟨g, e, hg⟩
    · exact .inl e
    · exact .inr ⟨g, e, Nat.le_trans hb.size hg⟩⟩
theorem ext_off {base : Nat} {a b : World} {g n cap g' n' cap' : Nat} {l : List UInt8} (h : Ext base a (.slice (some ⟨g, 0, none⟩) n cap) b (.slice (some ⟨g', 0, none⟩) n' cap') l) {q : Nat} (hq : q < a.heap.size) (hg : ¬ q = g) : ¬ q = g' := by
  rcases h.lies with e | ⟨k, e, hk⟩
  · simp [Value.ownBlock] at e
    omega
  · simp [Value.ownBlock] at e
    omega
theorem own_chain {base : Nat} {w wr X w8 w9 : World} {g n cap m g8 n8 cap8 m8 : Nat} {xs ys : List Value} (hb : base ≤ w.heap.size) (bx : Below base w wr) (h : wr.ownsRow base 5 1 (.slice (some ⟨g, 0, none⟩) n cap) m xs) (hX : Below wr.heap.size wr X) (b8 : X.grownBy w8 (some g)) (h8 : w8.ownsRow base 5 1 (.slice (some ⟨g8, 0, none⟩) n8 cap8) m8 ys) (z8 : base ≤ w8.heap.size) (b9 : w8.grownBy w9 (some g8)) : Below base w w9 := by
  have c1 : Below base w X := bx.trans (hX.mono (Nat.le_trans hb bx.size))
  have hg : base ≤ g := (h.lt g rfl).1
  have c2 := c1.grown b8 (Nat.le_trans hb c1.size) (fun k hk => by cases hk; exact hg)
  exact c2.trans (own_below h8 z8 b9)
theorem strCells_bc (l : List UInt8) : Lib.strCells ⟨l.toArray⟩ = bc l := by simp [Lib.strCells, bc]

set_option maxHeartbeats 800000 in
theorem appNum_any (w : World) (base : Nat) (v : Value) (l : List UInt8) (x : Nat) (hx : x ≤ 9223372036854775807) (h : w.ownsRow base 5 1 v l.length (bc l)) (hb : base ≤ w.heap.size) (hl : l.length ≤ 1000000000) :
    Calls Try.prog 79 #[v, .int .i64 (x : Int)] w fun e w' => ∃ v', e = .returned v' ∧ Ext base w v w' v' (l ++ Enc.leb x) := by
  have hw : IntKind.u64.wrap (x : Int) = (x : Int) := by rw [IntKind.wrap_u64]; omega
  have AP : Hid (Calls Try.prog 88 #[.slice none 0 0, .int .u64 (x : Int)] w fun e w' => ∃ g c, e = .returned (.slice (some ⟨g, 0, none⟩) (Enc.leb x).length c) ∧ Ext w.heap.size w (.slice none 0 0) w' (.slice (some ⟨g, 0, none⟩) (Enc.leb x).length c) (Enc.leb x)) := by
    refine (Enc.append_any w (.slice none 0 0) [] x ⟨⟨none, 0, rfl, fun h => absurd rfl h⟩, by simp⟩ (fun a b e => by cases e; rfl) (by omega) (by simp)).mono ?_
    rintro e w' ⟨v', rfl, hx'⟩
    rw [List.nil_append] at hx'
    obtain ⟨g, c, rfl⟩ := hx'.some (by have := Enc.leb_pos x; intro e; rw [e] at this; simp at this)
    exact ⟨g, c, rfl, hx'⟩
  have hlp := Enc.leb_pos x
  have hl10 := Enc.leb_len64 x (by omega)
  have H : Hid (w.ownsRow base 5 1 v l.length (bc l)) := h
  obtain ⟨q, hq⟩ : ∃ q, q = Enc.leb x := ⟨_, rfl⟩
  rw [← hq] at AP hlp hl10 ⊢
  have R1 : Hid (l.length + q.length ≤ 140737488355328) := by show _ ≤ _; omega
  obtain ⟨m, hm⟩ : ∃ m, m = q.length := ⟨_, rfl⟩
  rw [← hm] at AP
  have HM : Hid (m = q.length) := hm
  have HP : Hid (0 < q.length) := hlp
  clear h hq hx hlp hl10 hm hl
  go_enter Try.func79, Try.ntmps79
  go_wp2_with (first
    | (go_at_call 88; refine AP.out.mono ?_; rintro e w1 ⟨g1, c1, rfl, x1⟩; have b1 := below_of x1.grown; have o1 : Hid _ := own_after H.out b1; have z1 : base ≤ w1.heap.size := Nat.le_trans hb b1.size; have y1 : Hid _ := x1.own; clear AP x1)
    | (at_builtin; refine wpList_append_bytes _ rfl _ _ rfl base v l q rfl o1.out ⟨g1, 0, none⟩ m c1 rfl HM.out (own_cells (by have := y1.out; rw [← HM.out] at this; exact this)) HP.out R1.out z1 ?_; intro g2 cap2 L2 w2 HL2 x2 lt2))
  go_ret
  exact ⟨_, rfl, wext_after b1 x2⟩

set_option maxHeartbeats 800000 in
theorem appText_any (w : World) (base : Nat) (v : Value) (l s : List UInt8) (hs : s.length ≤ 1000000) (h : w.ownsRow base 5 1 v l.length (bc l)) (hb : base ≤ w.heap.size) (hl : l.length ≤ 1000000000) :
    Calls Try.prog 81 #[v, str s] w fun e w' => ∃ v', e = .returned v' ∧ w'.ownsRow base 5 1 v' (l ++ Bk.text s).length (bc (l ++ Bk.text s)) ∧ w.grownBy w' v.ownBlock := by
  obtain ⟨i0, hi, hz0, hz1, hz2⟩ := info_parts Try.info5
  have AP := appNum_any w base v l s.length (by omega) h hb hl
  have hl10 := Enc.leb_len64 s.length (by omega)
  have e1 : Hid (l ++ Enc.leb s.length ++ s = l ++ Bk.text s) := by show _ = _; unfold Bk.text; rw [List.append_assoc]
  rw [← e1.out]
  obtain ⟨q, hq⟩ : ∃ q, q = l ++ Enc.leb s.length := ⟨_, rfl⟩
  rw [← hq] at AP ⊢
  have R1 : q.length + s.length ≤ 140737488355328 := by rw [hq, List.length_append]; omega
  have M1 : Hid (q.length + (⟨s.toArray⟩ : ByteArray).size ≤ maxLen) := by show _ + s.toArray.size ≤ _; simp [maxLen]; omega
  have M2 : Hid (q.length + (⟨s.toArray⟩ : ByteArray).size ≤ 140737488355328) := by show _ + s.toArray.size ≤ _; simp; omega
  clear h hq hl10 e1 hl R1
  go_enter Try.func81, Try.ntmps81
  go_wp2_with (first
    | (go_at_call 79; refine AP.mono ?_; rintro e w1 ⟨v1, rfl, x1⟩; have z1 : base ≤ w1.heap.size := Nat.le_trans hb x1.size; have X1 : Hid _ := x1; clear AP x1)
    | (at_builtin; refine Lib.wpList_append_own_string _ rfl _ _ 89 9 rfl base 5 i0 Try.underlying89 Try.underlying9 hi hz0 hz1 hz2 v1 q.length (bc q) rfl X1.out.own ⟨s.toArray⟩ rfl M1.out M2.out z1 ?_; intro v2 w2 o2 g2 _))
  go_ret
  refine ⟨_, rfl, ?_, grownBy_trans X1.out.grown g2 X1.out.lies⟩
  rw [strCells_bc, ← bc_append] at o2
  have : q.length + (⟨s.toArray⟩ : ByteArray).size = (q ++ s).length := by rw [List.length_append]; show _ + s.toArray.size = _; simp
  rw [this] at o2
  exact o2

theorem own_some {base : Nat} {w : World} {v : Value} {l : List UInt8} (h : w.ownsRow base 5 1 v l.length (bc l)) (hl : l ≠ []) : ∃ g cap, v = .slice (some ⟨g, 0, none⟩) l.length cap := by
  rcases h.2 with ⟨_, h0⟩ | ⟨g, cap, cur, rfl, _⟩
  · exact absurd (List.eq_nil_of_length_eq_zero h0) hl
  · exact ⟨g, cap, rfl⟩

/-- One byte that is written out. -/
theorem lit_bytes (W : World) (B : Nat) (hB : B = W.heap.size) (c : UInt8) (x : Int) (hx : x = (c.toNat : Int)) : BytesIn (W.alloc (.cells #[.int .u8 x] 5)) (.slice (some ⟨B, 0, none⟩) 1 1) [c] := by
  subst hB
  subst hx
  refine BytesIn.block (World.alloc_heap_new W _) [c] (by simp) (fun j hj => ?_) 1 1 rfl
  have : j = 0 := by simp at hj; exact hj
  subst this
  rfl

end Go.Proofs.Ytbdgdigpnfpnhaa.Q
namespace Go.Proofs.Ytbdgdigpnfpnhaa.Q
open Go.RowKit

set_option maxRecDepth 100000 in
set_option maxHeartbeats 4000000 in
theorem inOrder_any (w : World) (a : Option Addr) (c n : Nat) (l : List Mm.Ent) (h : EntsAt w (.slice a n c) l) (hn : n = l.length) (hl : n ≤ 1000000) (S : Bool) (HS : Hid (S = Bk.inOrd l)) :
    Calls Try.prog 61 #[.slice a n c] w fun e w' => e = .returned (.bool S) ∧ Below w.heap.size w w' := by
  have H : Hid _ := h
  have HN : Hid (n = l.length) := hn
  clear h hn
  go_enter Try.func61, Try.ntmps61
  go_wp2_with (fail)
  go_loopw [3] (fun i wr => Below w.heap.size w wr ∧ ∃ m : Nat, i = .int .i64 (m + 1 : Nat) ∧ Hid (∀ k (h : k + 1 < l.length), k < m → Mm.ahead l[k] l[k + 1] = true)) (fun i _ => n - (intOf i).toNat)
  case atStart => exact ⟨Below.refl _ _, 0, rfl, fun k _ h => absurd h (by omega)⟩
  case round =>
    obtain ⟨bx, m, rfl, HT⟩ := hrel
    by_cases hlt : m + 1 < n
    · have jl : m + 1 < l.length := by have := HN.out; omega
      have jl0 : m < l.length := by omega
      obtain ⟨b, off, rfl⟩ := H.out.some (by omega)
      have AH : Hid (∀ wx, Calls Try.prog 13 #[entV l[m], entV l[m + 1]] wx fun r w' => r = .returned (.bool (Mm.ahead l[m] l[m + 1])) ∧ Below wx.heap.size wx w') := fun wx => ahead_any wx _ _
      have KC : Hid (∀ wx, Below wr.heap.size wr wx → (wx.cell? ⟨b, off + m * 4, none⟩ = some (str l[m].key) ∧ wx.cell? ⟨b, off + m * 4 + 1, none⟩ = some (str l[m].value) ∧ wx.cell? ⟨b, off + m * 4 + 2, none⟩ = some (.int .i64 l[m].seq) ∧ wx.cell? ⟨b, off + m * 4 + 3, none⟩ = some (.bool l[m].del)) ∧ wx.cell? ⟨b, off + (m + 1) * 4, none⟩ = some (str l[m + 1].key) ∧ wx.cell? ⟨b, off + (m + 1) * 4 + 1, none⟩ = some (str l[m + 1].value) ∧ wx.cell? ⟨b, off + (m + 1) * 4 + 2, none⟩ = some (.int .i64 l[m + 1].seq) ∧ wx.cell? ⟨b, off + (m + 1) * 4 + 3, none⟩ = some (.bool l[m + 1].del)) := fun wx hw => ⟨((H.out.later bx).later hw).cells m jl0, ((H.out.later bx).later hw).cells (m + 1) jl⟩
      have P1 := KC.out wr.drew (Below.refl _ _).drew
      have qk : (m : Int) + 1 < (n : Int) := by omega
      have mk : (m : Int) < (n : Int) := by omega
      have m0 : (0 : Int) ≤ (m : Int) + 1 := by omega
      have m3 : (0 : Int) ≤ (m : Int) := by omega
      have wm : IntKind.i64.wrap (m : Int) = (m : Int) := by rw [IntKind.wrap_i64]; omega
      have wm1 : IntKind.i64.wrap ((m : Int) + 1) = (m : Int) + 1 := by rw [IntKind.wrap_i64]; omega
      have FN : Hid (Mm.ahead l[m] l[m + 1] = false → S = false) := fun hf => by
        rw [HS.out]
        cases hI : Bk.inOrd l with
        | false => rfl
        | true => have := (Bk.inOrd_iff l).1 hI m jl; rw [hf] at this; cases this
      have FT : Hid (Mm.ahead l[m] l[m + 1] = true → ∀ k (h : k + 1 < l.length), k < m + 1 → Mm.ahead l[k] l[k + 1] = true) := fun ht k h hk => by
        by_cases e : k = m
        · subst e; exact ht
        · exact HT.out k h (by omega)
      obtain ⟨A, hA⟩ : ∃ A, A = Mm.ahead l[m] l[m + 1] := ⟨_, rfl⟩
      rw [← hA] at AH FN FT
      generalize l[m] = x1 at *
      generalize l[m + 1] = x2 at *
      clear H HS HN HT jl jl0 hA
      rw [show ((m + 1 : Nat) : Int) = (m : Int) + 1 by omega]
      cases A with
      | true =>
        have FQ : Hid (∀ k (h : k + 1 < l.length), k < m + 1 → Mm.ahead l[k] l[k + 1] = true) := FT.out rfl
        clear FN FT
        go_wp2_with (fail)
        go_region_held3 (fun wx => (wx.cell? ⟨b, off + m * 4, none⟩ = some (str x1.key) ∧ wx.cell? ⟨b, off + m * 4 + 1, none⟩ = some (str x1.value) ∧ wx.cell? ⟨b, off + m * 4 + 2, none⟩ = some (.int .i64 x1.seq) ∧ wx.cell? ⟨b, off + m * 4 + 3, none⟩ = some (.bool x1.del)) ∧ wx.cell? ⟨b, off + (m + 1) * 4, none⟩ = some (str x2.key) ∧ wx.cell? ⟨b, off + (m + 1) * 4 + 1, none⟩ = some (str x2.value) ∧ wx.cell? ⟨b, off + (m + 1) * 4 + 2, none⟩ = some (.int .i64 x2.seq) ∧ wx.cell? ⟨b, off + (m + 1) * 4 + 3, none⟩ = some (.bool x2.del))
          (first | exact P1 | exact P2)
          (first
            | (go_at_call 13; refine (AH.out _).mono ?_; rintro r w8 ⟨rfl, b8⟩; have D8 := (Below.refl wr.heap.size wr).drew.trans b8; have P2 := KC.out _ D8))
        go_wp2_with (fail)
        exact ⟨⟨bx.trans (D8.mono bx.size), m + 1, by go_num, FQ⟩, by simp [intOf]; omega⟩
      | false =>
        have HF : Hid (S = false) := FN.out rfl
        clear FN FT
        go_wp2_with (fail)
        go_region_held3 (fun wx => (wx.cell? ⟨b, off + m * 4, none⟩ = some (str x1.key) ∧ wx.cell? ⟨b, off + m * 4 + 1, none⟩ = some (str x1.value) ∧ wx.cell? ⟨b, off + m * 4 + 2, none⟩ = some (.int .i64 x1.seq) ∧ wx.cell? ⟨b, off + m * 4 + 3, none⟩ = some (.bool x1.del)) ∧ wx.cell? ⟨b, off + (m + 1) * 4, none⟩ = some (str x2.key) ∧ wx.cell? ⟨b, off + (m + 1) * 4 + 1, none⟩ = some (str x2.value) ∧ wx.cell? ⟨b, off + (m + 1) * 4 + 2, none⟩ = some (.int .i64 x2.seq) ∧ wx.cell? ⟨b, off + (m + 1) * 4 + 3, none⟩ = some (.bool x2.del))
          (first | exact P1 | exact P2)
          (first
            | (go_at_call 13; refine (AH.out _).mono ?_; rintro r w8 ⟨rfl, b8⟩; have D8 := (Below.refl wr.heap.size wr).drew.trans b8; have P2 := KC.out _ D8))
        go_wp2_with (fail)
        go_ret
        exact ⟨by rw [HF.out]; rfl, bx.trans (D8.mono bx.size)⟩
    · have i3 : ¬ ((m + 1 : Nat) : Int) < (n : Int) := by omega
      have HF : Hid (S = true) := by
        show _ = _
        rw [HS.out, Bk.inOrd_iff]
        exact fun k hk => HT.out k hk (by have := HN.out; omega)
      clear HT H HN HS
      go_wp2_with (fail)
      go_ret
      exact ⟨by rw [HF.out]; rfl, bx⟩

theorem all_take_e {l : List Mm.Ent} {j : Nat} (h : j < l.length) (ht : (l.take j).all Bk.may = true) : (l.take (j + 1)).all Bk.may = Bk.may l[j] := by
  rw [List.take_succ_eq_append_getElem h, List.all_append, ht]
  simp
theorem all_no_e {l : List Mm.Ent} {j : Nat} (h : j < l.length) (hf : Bk.may l[j] = false) : l.all Bk.may = false := by
  rw [List.all_eq_false]
  exact ⟨l[j], List.getElem_mem h, by rw [hf]; simp⟩
theorem checkE_may (e : Mm.Ent) : Mm.checkE e = if Bk.may e then 0 else 2 := rfl

set_option maxRecDepth 100000 in
set_option maxHeartbeats 4000000 in
theorem bcheck_any (w : World) (a : Option Addr) (c n : Nat) (l : List Mm.Ent) (h : EntsAt w (.slice a n c) l) (hn : n = l.length) (hl : n ≤ 1000000) (hk : ∀ x ∈ l, x.key.length ≤ 1000000 ∧ x.value.length ≤ 1000000) (S : Int) (HS : Hid (S = Bk.checkE l)) :
    Calls Try.prog 78 #[.slice a n c] w fun e w' => e = .returned (.int .i64 S) ∧ Below w.heap.size w w' := by
  have H : Hid _ := h
  have HN : Hid (n = l.length) := hn
  have HK : Hid (∀ x ∈ l, x.key.length ≤ 1000000 ∧ x.value.length ≤ 1000000) := hk
  clear h hn hk
  by_cases h0 : n = 0
  · subst h0
    have HF : Hid (S = 2) := by show _ = _; rw [HS.out, Bk.checkE, if_pos HN.out.symm]
    clear H HN HK HS
    go_enter Try.func78, Try.ntmps78
    go_wp2_with (fail)
    go_ret
    exact ⟨by rw [HF.out]; rfl, Below.refl _ _⟩
  have n0 : ((n : Int) == 0) = false := by simp; omega
  by_cases h64 : n > 64
  · have HF : Hid (S = 3) := by show _ = _; rw [HS.out, Bk.checkE, if_neg (by have := HN.out; omega), if_pos (by have := HN.out; omega)]
    have g64 : (n : Int) > 64 := by omega
    clear H HN HK HS
    go_enter Try.func78, Try.ntmps78
    go_wp2_with (fail)
    go_ret
    exact ⟨by rw [HF.out]; rfl, Below.refl _ _⟩
  have g64 : ¬ (n : Int) > 64 := by omega
  have HC : Hid (S = if l.all Bk.may then if Bk.inOrd l then 0 else 10 else 2) := by show _ = _; rw [HS.out, Bk.checkE, if_neg (by have := HN.out; omega), if_neg (by have := HN.out; omega)]
  clear HS
  go_enter Try.func78, Try.ntmps78
  go_wp2_with (fail)
  go_loopw [14] (fun i wr => Below w.heap.size w wr ∧ ∃ j : Nat, j ≤ n ∧ i = .int .i64 j ∧ Hid ((l.take j).all Bk.may = true)) (fun i _ => n - (intOf i).toNat)
  case atStart => exact ⟨Below.refl _ _, 0, Nat.zero_le _, rfl, by show _ = _; simp⟩
  case round =>
    obtain ⟨bx, j, hj, rfl, HT⟩ := hrel
    by_cases hlt : j < n
    · have jl : j < l.length := by have := HN.out; omega
      obtain ⟨b, off, rfl⟩ := H.out.some (by omega)
      obtain ⟨c0, c1, c2, c3⟩ := (H.out.later bx).cells j jl
      have hk := HK.out l[j] (List.getElem_mem jl)
      obtain ⟨x, hx⟩ : ∃ x, x = l[j] := ⟨_, rfl⟩
      rw [← hx] at c0 c1 c2 c3 hk
      have FT : Hid (Bk.may x = true → (l.take (j + 1)).all Bk.may = true) := fun ht => by rw [all_take_e jl HT.out, ← hx]; exact ht
      have FN : Hid (Bk.may x = false → S = 2) := fun hf => by rw [HC.out, all_no_e jl (by rw [← hx]; exact hf)]; rfl
      have MC : Hid (∀ wx, Calls Try.prog 11 #[entV x] wx fun r w' => r = .returned (.int .i64 (if Bk.may x then 0 else 2)) ∧ Below wx.heap.size wx w') := fun wx => mcheck_any wx x hk.1 hk.2
      obtain ⟨M, hM⟩ : ∃ M, M = Bk.may x := ⟨_, rfl⟩
      rw [← hM] at FT FN MC
      clear hx H HC HT HN HK jl hk hM
      obtain ⟨K, V, Q, D⟩ := x
      simp only at c0 c1 c2 c3
      cases M with
      | true =>
        have FQ : Hid ((l.take (j + 1)).all Bk.may = true) := FT.out rfl
        clear FN FT
        go_wp2_with (first
          | (go_at_call 11; refine (MC.out _).mono ?_; rintro r w8 ⟨rfl, b8⟩))
        have b9 := (bx.alloc bx.size _).trans (b8.mono (bx.alloc bx.size _).size)
        exact ⟨⟨b9, j + 1, by omega, by go_num, FQ⟩, by simp [intOf]; omega⟩
      | false =>
        have HF : Hid (S = 2) := FN.out rfl
        clear FN FT
        go_wp2_with (first
          | (go_at_call 11; refine (MC.out _).mono ?_; rintro r w8 ⟨rfl, b8⟩))
        go_ret
        exact ⟨by rw [HF.out]; rfl, (bx.alloc bx.size _).trans (b8.mono (bx.alloc bx.size _).size)⟩
    · have i3 : ¬ (j : Int) < (n : Int) := by omega
      have hall : l.all Bk.may = true := by
        have := HT.out
        rw [List.take_of_length_le (by have := HN.out; omega)] at this
        exact this
      have IO := inOrder_any wr a c n l (H.out.later bx) HN.out hl _ rfl
      have HF : Hid (S = if Bk.inOrd l then 0 else 10) := by show _ = _; rw [HC.out, hall]; rfl
      generalize Bk.inOrd l = I at IO HF
      clear HT H HK HN HC hall
      cases I with
      | true =>
        go_wp2_with (first
          | (go_at_call 61; refine IO.mono ?_; rintro r w8 ⟨rfl, b8⟩))
        go_ret
        exact ⟨by rw [HF.out]; rfl, bx.trans (b8.mono bx.size)⟩
      | false =>
        go_wp2_with (first
          | (go_at_call 61; refine IO.mono ?_; rintro r w8 ⟨rfl, b8⟩))
        go_ret
        exact ⟨by rw [HF.out]; rfl, bx.trans (b8.mono bx.size)⟩
end Go.Proofs.Ytbdgdigpnfpnhaa.Q
namespace Go.Proofs.Ytbdgdigpnfpnhaa.Q
open Go.RowKit

set_option maxRecDepth 100000 in
set_option maxHeartbeats 4000000 in
theorem shared_any (w : World) (p : Nat) (a k : List UInt8) (hp : p ≤ 1000000) (ha : a.length ≤ 1000000) (_hk : k.length ≤ 1000000) :
    Calls Try.prog 80 #[.int .i64 (p : Int), str a, str k] w fun e w' => e = .returned (.int .i64 (Bk.shr p a k : Nat)) ∧ Below w.heap.size w w' := by
  by_cases h8 : p % 8 = 0
  · have HS : Hid (Bk.shr p a k = 0) := if_pos h8
    have e8 : (p : Int).tmod 8 = 0 := by rw [Int.tmod_eq_emod_of_nonneg (by omega)]; omega
    rw [HS.out]
    go_enter Try.func80, Try.ntmps80
    go_wp2_with (fail)
    go_ret
    exact ⟨rfl, Below.refl _ _⟩
  · have HS : Hid (Bk.shr p a k = Bk.cp a k) := if_neg h8
    have e8 : ((p : Int).tmod 8 == 0) = false := by rw [Int.tmod_eq_emod_of_nonneg (by omega)]; simp; omega
    rw [HS.out]
    have LE := Bk.cp_le a k
    go_enter Try.func80, Try.ntmps80
    go_wp2_with (fail)
    go_loopw [7] (fun i wr => Below w.heap.size w wr ∧ ∃ n : Nat, i = .int .i64 n ∧ n ≤ Bk.cp a k) (fun i _ => Bk.cp a k - (intOf i).toNat)
    case atStart => exact ⟨Below.refl _ _, 0, rfl, Nat.zero_le _⟩
    case round =>
      obtain ⟨bx, n, rfl, hn⟩ := hrel
      have ST : Hid _ := Bk.cp_step a k n hn
      by_cases h1 : n < a.length
      · by_cases h2 : n < k.length
        · have m1 : (n : Int) < min (a.length : Int) (k.length : Int) := by omega
          have m2 : (n : Int) < (a.length : Int) := by omega
          have m3 : (n : Int) < (k.length : Int) := by omega
          have m4 : (0 : Int) ≤ (n : Int) := by omega
          have q1 : n < (⟨a.toArray⟩ : ByteArray).size := by show n < a.toArray.size; simpa using h1
          have q2 : n < (⟨k.toArray⟩ : ByteArray).size := by show n < k.toArray.size; simpa using h2
          have q3 : (⟨a.toArray⟩ : ByteArray)[n] = a[n] := by show a.toArray[n] = a[n]; simp
          have q4 : (⟨k.toArray⟩ : ByteArray)[n] = k[n] := by show k.toArray[n] = k[n]; simp
          by_cases h3 : a[n] = k[n]
          · have HN : Hid (n < Bk.cp a k) := ST.out.2 ⟨h1, h2, h3⟩
            have e3 : (((⟨a.toArray⟩ : ByteArray)[n].toNat : Int) == ((⟨k.toArray⟩ : ByteArray)[n].toNat : Int)) = true := by rw [q3, q4, h3]; simp
            clear ST q3 q4 h3
            go_wp2_with (fail)
            go_region
            go_wp2_with (fail)
            exact ⟨⟨bx.drew, n + 1, by go_num, HN.out⟩, by simp [intOf]; have := HN.out; omega⟩
          · have HN : Hid (n = Bk.cp a k) := by
              show _ = _
              have := mt ST.out.1 (fun h => h3 h.2.2)
              omega
            have e3 : (((⟨a.toArray⟩ : ByteArray)[n].toNat : Int) == ((⟨k.toArray⟩ : ByteArray)[n].toNat : Int)) = false := by
              rw [q3, q4]
              have h4 : ¬ a[n].toNat = k[n].toNat := fun e => h3 (UInt8.toNat_inj.1 e)
              simp; omega
            clear ST q3 q4 h3
            go_wp2_with (fail)
            go_region
            go_wp2_with (fail)
            go_ret
            exact ⟨by rw [← HN.out]; rfl, bx.drew⟩
        · have HN : Hid (n = Bk.cp a k) := by
            show _ = _
            have := mt ST.out.1 (fun h => h2 h.2.1)
            omega
          have m1 : decide ((n : Int) < min (a.length : Int) (k.length : Int)) = false := decide_eq_false (by omega)
          clear ST
          go_wp2_with (fail)
          go_region
          go_wp2_with (fail)
          go_ret
          exact ⟨by rw [← HN.out]; rfl, bx.drew⟩
      · have HN : Hid (n = Bk.cp a k) := by
          show _ = _
          have := mt ST.out.1 (fun h => h1 h.1)
          omega
        have m1 : decide ((n : Int) < min (a.length : Int) (k.length : Int)) = false := decide_eq_false (by omega)
        clear ST
        go_wp2_with (fail)
        go_region
        go_wp2_with (fail)
        go_ret
        exact ⟨by rw [← HN.out]; rfl, bx.drew⟩
end Go.Proofs.Ytbdgdigpnfpnhaa.Q
namespace Go.Proofs.Ytbdgdigpnfpnhaa.Q
open Go.RowKit

abbrev eO (e : Mm.Ent) : Obj := .cells #[str e.key, str e.value, .int .i64 e.seq, .bool e.del] 38 (0, 0)
theorem own_ne {w : World} {base n B : Nat} {v : Value} {xs : List Value} {e : Mm.Ent} (h : w.ownsRow base 5 1 v n xs) (hb : w.heap[B]? = some (eO e)) : v.ownBlock ≠ some B := by
  rcases h.2 with ⟨rfl, _⟩ | ⟨g, cap, cur, rfl, _, hg, _⟩
  · intro e; cases e
  · intro e1
    have : g = B := Option.some.inj e1
    subst this
    rw [hg] at hb
    have := (Obj.cells.inj (Option.some.inj hb)).2.1
    revert this
    decide
/-- Bytes that a call owns, beside the block of an entry. -/
structure En (base B : Nat) (e : Mm.Ent) (w0 wx : World) (v : Value) (q : List UInt8) : Prop where
  own : wx.ownsRow base 5 1 v q.length (bc q)
  blk : wx.heap[B]? = some (eO e)
  bel : Below base w0 wx
  low : base ≤ w0.heap.size
theorem En.size {base B : Nat} {e : Mm.Ent} {w0 wx : World} {v : Value} {q : List UInt8} (h : En base B e w0 wx v q) : base ≤ wx.heap.size := Nat.le_trans h.low h.bel.size
theorem En.later {base B : Nat} {e : Mm.Ent} {w0 wx w' : World} {v : Value} {q : List UInt8} (h : En base B e w0 wx v q) (b : Below wx.heap.size wx w') : En base B e w0 w' v q :=
  ⟨own_after h.own b, keepB b h.blk, h.bel.trans (b.mono h.size), h.low⟩
theorem En.cells {base B : Nat} {e : Mm.Ent} {w0 wx : World} {v : Value} {q : List UInt8} (h : En base B e w0 wx v q) :
    wx.cell? ⟨B, 0, none⟩ = some (str e.key) ∧ wx.cell? ⟨B, 1, none⟩ = some (str e.value) ∧ wx.cell? ⟨B, 2, none⟩ = some (.int .i64 e.seq) ∧ wx.cell? ⟨B, 3, none⟩ = some (.bool e.del) := by
  refine ⟨?_, ?_, ?_, ?_⟩ <;> exact Joins.cell_of_block h.blk _
theorem En.grown {base B : Nat} {e : Mm.Ent} {w0 wx w' : World} {v v' : Value} {q q' : List UInt8} (h : En base B e w0 wx v q) (o : w'.ownsRow base 5 1 v' q'.length (bc q')) (hg : wx.grownBy w' v.ownBlock) : En base B e w0 w' v' q' :=
  have hB : B < wx.heap.size := (Array.getElem?_eq_some_iff.1 h.blk).1
  ⟨o, (hg.block B hB (fun e => own_ne h.own h.blk e.symm)).trans h.blk, h.bel.trans (own_below h.own h.size hg), h.low⟩
theorem en_num {base B : Nat} {e : Mm.Ent} {w0 wx : World} {v : Value} {q : List UInt8} (x : Nat) (h : En base B e w0 wx v q) (hx : x ≤ 9223372036854775807) (hq : q.length ≤ 1000000) :
    Calls Try.prog 79 #[v, .int .i64 (x : Int)] wx fun r w' => ∃ g cap L, r = .returned (.slice (some ⟨g, 0, none⟩) L cap) ∧ Hid (L = (q ++ Enc.leb x).length) ∧ Hid (En base B e w0 w' (.slice (some ⟨g, 0, none⟩) L cap) (q ++ Enc.leb x)) := by
  refine (appNum_any wx base v q x hx h.own h.size (by omega)).mono ?_
  rintro r w' ⟨v', rfl, x1⟩
  obtain ⟨g, cap, rfl⟩ := x1.some (by
    intro e
    have h1 := congrArg List.length e
    have h2 := Enc.leb_pos x
    rw [List.length_append, List.length_nil] at h1
    omega)
  exact ⟨g, cap, _, rfl, rfl, h.grown x1.own x1.grown⟩
theorem en_text {base B : Nat} {e : Mm.Ent} {w0 wx : World} {v : Value} {q : List UInt8} (s : List UInt8) (h : En base B e w0 wx v q) (hs : s.length ≤ 1000000) (hq : q.length ≤ 1000000) :
    Calls Try.prog 81 #[v, str s] wx fun r w' => ∃ g cap L, r = .returned (.slice (some ⟨g, 0, none⟩) L cap) ∧ Hid (L = (q ++ Bk.text s).length) ∧ Hid (En base B e w0 w' (.slice (some ⟨g, 0, none⟩) L cap) (q ++ Bk.text s)) := by
  refine (appText_any wx base v q s hs h.own h.size (by omega)).mono ?_
  rintro r w' ⟨v', rfl, o1, g1⟩
  obtain ⟨g, cap, rfl⟩ := own_some o1 (by
    intro e
    have h1 := congrArg List.length e
    have h2 := Enc.leb_pos s.length
    unfold Bk.text at h1
    rw [List.length_append, List.length_append, List.length_nil] at h1
    omega)
  exact ⟨g, cap, _, rfl, rfl, h.grown o1 g1⟩
theorem EntsAt.len {w : World} {a : Option Addr} {n cap : Nat} {l : List Mm.Ent} (h : EntsAt w (.slice a n cap) l) : n = l.length := by
  obtain ⟨⟨a', c', e, _⟩⟩ := h
  cases e; rfl

theorem ext_drop (K : List UInt8) (n : Nat) : (⟨K.toArray⟩ : ByteArray).extract n K.length = ⟨(K.drop n).toArray⟩ := by
  apply ByteArray.ext
  rw [ByteArray.data_extract]
  simp [List.take_of_length_le]
theorem en_own {base B : Nat} {e : Mm.Ent} {w0 wx : World} {g cap L : Nat} {q : List UInt8} (hL : L = q.length) (h : En base B e w0 wx (.slice (some ⟨g, 0, none⟩) L cap) q) : wx.ownsRow base 5 1 (.slice (some ⟨g, 0, none⟩) L cap) L (bc q) := by
  have := h.own
  rw [← hL] at this
  exact this

set_option maxRecDepth 100000 in
set_option maxHeartbeats 2000000 in
theorem bencode_bad (w : World) (a : Option Addr) (c n : Nat) (l : List Mm.Ent) (h : EntsAt w (.slice a n c) l) (hl : n ≤ 1000000) (hk : ∀ x ∈ l, x.key.length ≤ 1000000 ∧ x.value.length ≤ 1000000) (hc : Bk.checkE l ≠ 0) :
    Calls Try.prog 58 #[.slice a n c] w fun e w' => e = .returned (.tuple #[.slice none 0 0, .int .i64 (Bk.checkE l)]) ∧ Below w.heap.size w w' := by
  have CK := bcheck_any w a c n l h h.len hl hk _ rfl
  have hq : (Bk.checkE l != 0) = true := by simpa using hc
  generalize Bk.checkE l = E at *
  clear h hk hc
  go_enter Try.func58, Try.ntmps58
  go_wp2_with (first
    | (go_at_call 78; refine CK.mono ?_; rintro r w8 ⟨rfl, b8⟩))
  go_ret2
  exact ⟨rfl, b8⟩

set_option maxRecDepth 100000 in
set_option maxHeartbeats 8000000 in
theorem bencode_ok (w : World) (a : Option Addr) (c n : Nat) (l : List Mm.Ent) (h : EntsAt w (.slice a n c) l) (hc : Bk.checkE l = 0) :
    Calls Try.prog 58 #[.slice a n c] w fun e w' => ∃ g cap, e = .returned (.tuple #[.slice (some ⟨g, 0, none⟩) (Bk.blockB l).length cap, .int .i64 0]) ∧ w'.ownsRow w.heap.size 5 1 (.slice (some ⟨g, 0, none⟩) (Bk.blockB l).length cap) (Bk.blockB l).length (bc (Bk.blockB l)) ∧ Below w.heap.size w w' := by
  obtain ⟨k1, k2, k3, k4⟩ := Bk.checkE_ok hc
  have HN : Hid (n = l.length) := h.len
  have HM : Hid (∀ x ∈ l, Bk.may x = true) := by show ∀ x ∈ l, _; exact List.all_eq_true.1 k3
  have hk : ∀ x ∈ l, x.key.length ≤ 1000000 ∧ x.value.length ≤ 1000000 := fun x hx => by
    obtain ⟨_, _, _, h4, h5, _⟩ := Bk.may_parts (HM.out x hx)
    omega
  have CK := bcheck_any w a c n l h HN.out (by have := HN.out; omega) hk 0 hc.symm
  have HW : Hid _ := h
  have PL : Hid (∀ j, (Bk.preB l j).length ≤ 330000) := Bk.preB_len l hc
  have N1 : Hid (∀ wx, Below w.heap.size w wx → Calls Try.prog 79 #[.slice none 0 0, .int .i64 (n : Int)] wx fun r w' => ∃ g cap, r = .returned (.slice (some ⟨g, 0, none⟩) (Bk.preB l 0).length cap) ∧ w'.ownsRow w.heap.size 5 1 (.slice (some ⟨g, 0, none⟩) (Bk.preB l 0).length cap) (Bk.preB l 0).length (bc (Bk.preB l 0)) ∧ Below w.heap.size wx w') := fun wx hb => by
    have o0 : wx.ownsRow w.heap.size 5 1 (.slice none 0 0) ([] : List UInt8).length (bc []) := World.ownsRow_nil _ _ _ _
    refine (appNum_any wx w.heap.size (.slice none 0 0) [] n (by have := HN.out; omega) o0 hb.size (by simp)).mono ?_
    rintro e w' ⟨v', rfl, x⟩
    have o := x.own
    rw [List.nil_append, HN.out, ← Bk.preB_zero] at o
    have b := own_below o0 hb.size x.grown
    obtain ⟨g, cap, rfl⟩ := own_some o (Bk.preB_ne l 0)
    exact ⟨g, cap, rfl, o, b⟩
  have n64 : n ≤ 64 := by have := HN.out; omega
  clear h hc hk k1 k2 k3 k4
  go_enter Try.func58, Try.ntmps58
  go_wp2_with (first
    | (go_at_call 78; refine CK.mono ?_; rintro r w1 ⟨rfl, b1⟩)
    | (go_at_call 79; refine (N1.out _ b1).mono ?_; rintro r w2 ⟨g2, cap2, rfl, o2, b2⟩; have B2 := b1.trans b2))
  clear CK N1 b1 b2
  go_loopw [5, 6, 20] (fun v t i wr => ∃ (j g cap : Nat), j ≤ n ∧ i = .int .i64 j ∧ t = str (Bk.keyAt l j) ∧ v = .slice (some ⟨g, 0, none⟩) (Bk.preB l j).length cap ∧ wr.ownsRow w.heap.size 5 1 (.slice (some ⟨g, 0, none⟩) (Bk.preB l j).length cap) (Bk.preB l j).length (bc (Bk.preB l j)) ∧ Below w.heap.size w wr) (fun _ _ i _ => n - (intOf i).toNat)
  case atStart => exact ⟨0, g2, cap2, Nat.zero_le _, rfl, rfl, rfl, o2, B2⟩
  case round =>
    obtain ⟨j, g, cap, hj, rfl, rfl, rfl, o, bx⟩ := hrel
    clear o2 B2
    by_cases hlt : j < n
    · have hl : j < l.length := by have := HN.out; omega
      obtain ⟨B, off, rfl⟩ := HW.out.some (by omega)
      obtain ⟨c0, c1, c2, c3⟩ := (HW.out.later bx).cells j hl
      have hx := HM.out l[j] (List.getElem_mem hl)
      have hpn := Bk.preB_next l j hl
      have hkn := Bk.keyAt_next l j hl
      have p0 := PL.out j
      have hka : (Bk.keyAt l j).length ≤ 1000000 := by
        refine Bk.lastK_le _ 1000000 [] (by simp) (fun x hx => ?_)
        obtain ⟨_, _, _, h4, _⟩ := Bk.may_parts (HM.out x (List.mem_of_mem_take hx))
        omega
      obtain ⟨x, hxe⟩ : ∃ x, x = l[j] := ⟨_, rfl⟩
      rw [← hxe] at c0 c1 c2 c3 hx hpn hkn
      obtain ⟨h1, h2, h3, h4, h5, h6⟩ := Bk.may_parts hx
      obtain ⟨s1, s2, _⟩ := Bk.shr_le j (Bk.keyAt l j) x.key
      have SH : Hid (∀ wx, Calls Try.prog 80 #[.int .i64 (j : Int), str (Bk.keyAt l j), str x.key] wx fun e w' => e = .returned (.int .i64 (Bk.shr j (Bk.keyAt l j) x.key : Nat)) ∧ Below wx.heap.size wx w') := fun wx => shared_any wx j _ _ (by omega) hka (by omega)
      have HP : Hid (Bk.preB l (j + 1) = Bk.preB l j ++ Bk.entB j (Bk.keyAt l j) x) := hpn
      have HK : Hid (Bk.keyAt l (j + 1) = x.key) := hkn
      unfold Bk.entB at HP
      generalize Bk.shr j (Bk.keyAt l j) x.key = sh at SH HP s1 s2
      generalize Bk.keyAt l j = ka at *
      obtain ⟨P, hP⟩ : ∃ P, P = Bk.preB l j := ⟨_, rfl⟩
      rw [← hP] at o p0 ⊢
      rw [← hP] at HP
      have E1 : Hid (En w.heap.size wr.heap.size x w (wr.alloc (.cells #[str x.key, str x.value, .int .i64 x.seq, .bool x.del] 38)) (.slice (some ⟨g, 0, none⟩) P.length cap) P) :=
        ⟨o.alloc _, World.alloc_heap_new wr _, bx.alloc bx.size _, Nat.le_refl _⟩
      have hD : (x.key.drop sh).length ≤ 1000000 := by rw [List.length_drop]; omega
      have hq1 : (P ++ Enc.leb sh).length ≤ 1000000 := by have := Enc.leb_len64 sh (by omega); rw [List.length_append]; omega
      have hq2 : (P ++ Enc.leb sh ++ Bk.text (x.key.drop sh)).length ≤ 1000000 := by have := Bk.text_len (x.key.drop sh) (by rw [List.length_drop]; omega); rw [List.length_drop] at this; rw [List.length_append]; have := Enc.leb_len64 sh (by omega); rw [List.length_append]; omega
      have hq3 : (P ++ Enc.leb sh ++ Bk.text (x.key.drop sh) ++ Enc.leb x.seq.toNat).length ≤ 1000000 := by have := Enc.leb_len64 x.seq.toNat (by omega); rw [List.length_append]; have := Bk.text_len (x.key.drop sh) (by rw [List.length_drop]; omega); rw [List.length_drop] at this; rw [List.length_append]; have := Enc.leb_len64 sh (by omega); rw [List.length_append]; omega
      have hsq : (x.seq.toNat : Int) = x.seq := by omega
      clear hxe hP PL HM HW hl o hx hpn hkn hka
      obtain ⟨K, V, Q, D⟩ := x
      simp only at c0 c1 c2 c3 h1 h2 h3 h4 h5 h6 s2 hD hq1 hq2 hq3 hsq
      clear h3 h6
      have SL : (sh : Int) ≤ (K.length : Int) := by omega
      have TX : Hid (∀ wx v, En w.heap.size wr.heap.size ⟨K, V, Q, D⟩ w wx v (P ++ Enc.leb sh) → Calls Try.prog 81 #[v, .string ((⟨K.toArray⟩ : ByteArray).extract sh K.length)] wx fun r w' => ∃ g cap L, r = .returned (.slice (some ⟨g, 0, none⟩) L cap) ∧ Hid (L = (P ++ Enc.leb sh ++ Bk.text (K.drop sh)).length) ∧ Hid (En w.heap.size wr.heap.size ⟨K, V, Q, D⟩ w w' (.slice (some ⟨g, 0, none⟩) L cap) (P ++ Enc.leb sh ++ Bk.text (K.drop sh)))) := fun wx v hE => by
        rw [ext_drop]
        exact en_text (K.drop sh) hE hD hq1
      have NQ : Hid (∀ wx v, En w.heap.size wr.heap.size ⟨K, V, Q, D⟩ w wx v (P ++ Enc.leb sh ++ Bk.text (K.drop sh)) → Calls Try.prog 79 #[v, .int .i64 Q] wx fun r w' => ∃ g cap L, r = .returned (.slice (some ⟨g, 0, none⟩) L cap) ∧ Hid (L = (P ++ Enc.leb sh ++ Bk.text (K.drop sh) ++ Enc.leb Q.toNat).length) ∧ Hid (En w.heap.size wr.heap.size ⟨K, V, Q, D⟩ w w' (.slice (some ⟨g, 0, none⟩) L cap) (P ++ Enc.leb sh ++ Bk.text (K.drop sh) ++ Enc.leb Q.toNat))) := fun wx v hE => by
        have := en_num Q.toNat hE (by omega) hq2
        rw [hsq] at this
        exact this
      have H3 : Hid (∀ q : List UInt8, q = P ++ Enc.leb sh ++ Bk.text (K.drop sh) ++ Enc.leb Q.toNat → ∀ b : UInt8, q.length + [b].length ≤ 140737488355328) := fun q hq b => by rw [hq, List.length_singleton]; omega
      have H4 : Hid ((P ++ Enc.leb sh ++ Bk.text (K.drop sh) ++ Enc.leb Q.toNat ++ [0]).length ≤ 1000000) := by
        show _ ≤ _
        have := Enc.leb_len64 Q.toNat (by omega); rw [List.length_append, List.length_append]; have := Bk.text_len (K.drop sh) (by rw [List.length_drop]; omega); rw [List.length_drop] at this; rw [List.length_append]; have := Enc.leb_len64 sh (by omega); rw [List.length_append, List.length_singleton]; omega
      clear hsq hq2 hq3 hD hq1
      cases D with
      | true =>
        have EQ : Hid (Bk.preB l (j + 1) = P ++ Enc.leb sh ++ Bk.text (K.drop sh) ++ Enc.leb Q.toNat ++ [1]) := by
          show _ = _
          rw [HP.out]
          simp
        go_wp2_with (first
          | (go_at_call 80; refine (SH.out _).mono ?_; rintro r w2 ⟨rfl, b2⟩; have E2 : Hid _ := E1.out.later b2; obtain ⟨d0, d1, d2, d3⟩ := E2.out.cells; clear SH E1)
          | (go_at_call 79; have tok := E2; refine (en_num sh E2.out (by omega) (by omega)).mono ?_; rintro r w3 ⟨g3, cap3, L3, rfl, HL3, E3⟩; obtain ⟨f0, f1, f2, f3⟩ := E3.out.cells; clear E2 tok d0 d1 d2 d3)
          | (go_at_call 81; refine (TX.out _ _ E3.out).mono ?_; rintro r w4 ⟨g4, cap4, L4, rfl, HL4, E4⟩; obtain ⟨f0, f1, f2, f3⟩ := E4.out.cells; clear E3 TX)
          | (go_at_call 79; refine (NQ.out _ _ E4.out).mono ?_; rintro r w5 ⟨g5, cap5, L5, rfl, HL5, E5⟩; obtain ⟨f0, f1, f2, f3⟩ := E5.out.cells; clear E4 NQ)
          | (at_builtin; refine wpList_app_bytes _ rfl _ _ rfl w.heap.size g5 cap5 _ [1] L5 1 1 HL5.out rfl rfl ((en_own HL5.out E5.out).alloc _) _ rfl (lit_bytes _ _ rfl _ _ rfl) (fun e => by cases e) (H3.out _ rfl _) (by have := E5.out.size; simp; omega) ?_; intro g6 cap6 L6 w6 HL6 x6; have E6 : Hid _ := (E5.out.later ((Below.refl _ _).alloc (Nat.le_refl _) _)).grown x6.own x6.grown; obtain ⟨f0, f1, f2, f3⟩ := E6.out.cells; clear E5 x6))
        have hL := HL6.out
        rw [← EQ.out] at hL
        subst hL
        have o6 := E6.out.own
        rw [← EQ.out] at o6
        exact ⟨⟨j + 1, g6, cap6, by omega, by go_num, by rw [HK.out], rfl, o6, E6.out.bel⟩, by simp [intOf]; omega⟩
      | false =>
        have EQ : Hid (Bk.preB l (j + 1) = P ++ Enc.leb sh ++ Bk.text (K.drop sh) ++ Enc.leb Q.toNat ++ [0] ++ Bk.text V) := by
          show _ = _
          rw [HP.out]
          simp
        go_wp2_with (first
          | (go_at_call 80; refine (SH.out _).mono ?_; rintro r w2 ⟨rfl, b2⟩; have E2 : Hid _ := E1.out.later b2; obtain ⟨d0, d1, d2, d3⟩ := E2.out.cells; clear SH E1)
          | (go_at_call 79; have tok := E2; refine (en_num sh E2.out (by omega) (by omega)).mono ?_; rintro r w3 ⟨g3, cap3, L3, rfl, HL3, E3⟩; obtain ⟨f0, f1, f2, f3⟩ := E3.out.cells; clear E2 tok d0 d1 d2 d3)
          | (go_at_call 81; refine (TX.out _ _ E3.out).mono ?_; rintro r w4 ⟨g4, cap4, L4, rfl, HL4, E4⟩; obtain ⟨f0, f1, f2, f3⟩ := E4.out.cells; clear E3 TX)
          | (go_at_call 79; refine (NQ.out _ _ E4.out).mono ?_; rintro r w5 ⟨g5, cap5, L5, rfl, HL5, E5⟩; obtain ⟨f0, f1, f2, f3⟩ := E5.out.cells; clear E4 NQ))
        go_region_held3 (fun w' => w'.cell? ⟨wr.heap.size, 1, none⟩ = some (str V))
          (first | exact f1 | exact kx | (go_keep; done))
          (first
            | (refine step_app_bytes _ (by rfl) _ _ (by rfl) w.heap.size g5 cap5 _ [0] L5 1 1 HL5.out rfl (by rfl) (own_after (en_own HL5.out E5.out) (by first | exact (Below.refl _ _).alloc (Nat.le_refl _) _ | exact ((Below.refl _ _).alloc (Nat.le_refl _) _).drew | exact (Below.refl _ _).drew.alloc (Nat.le_refl _) _)) _ (by rfl) (by first | exact lit_bytes _ _ (by simp) _ _ rfl | exact (lit_bytes _ _ (by simp) _ _ rfl).later (Below.refl _ _).drew) (fun e => by cases e) (H3.out _ rfl _) (by have := E5.out.size; simp; omega) ?_; intro g6 cap6 L6 w6 HL6 x6; have E6 : Hid _ := (E5.out.later (by first | exact (Below.refl _ _).alloc (Nat.le_refl _) _ | exact ((Below.refl _ _).alloc (Nat.le_refl _) _).drew | exact (Below.refl _ _).drew.alloc (Nat.le_refl _) _)).grown x6.own x6.grown; obtain ⟨k0, kx, k2, k3⟩ := E6.out.cells; clear x6)
            | (go_at_call 81; refine (en_text V (by first | exact E6.out | exact E6.out.later (Below.refl _ _).drew) (by omega) H4.out).mono ?_; rintro r w7 ⟨g7, cap7, L7, rfl, HL7, E7⟩; obtain ⟨k0, kx, k2, k3⟩ := E7.out.cells))
        clear E5 E6
        go_wp2_with (fail)
        have hL := HL7.out
        rw [← EQ.out] at hL
        subst hL
        have o7 := E7.out.own
        rw [← EQ.out] at o7
        exact ⟨⟨j + 1, g7, cap7, by omega, by go_num, by rw [HK.out], rfl, o7, E7.out.bel⟩, by simp [intOf]; omega⟩
    · have e : j = n := by omega
      have i3 : ¬ (j : Int) < (n : Int) := by omega
      have HE : Hid (Bk.preB l j = Bk.blockB l) := by show _ = _; rw [e, HN.out]; exact Bk.preB_all l
      rw [HE.out] at o ⊢
      clear HE e PL HM HW hlt hj
      go_wp2_with (fail)
      go_ret2
      exact ⟨g, cap, rfl, o, bx⟩
end Go.Proofs.Ytbdgdigpnfpnhaa.Q
