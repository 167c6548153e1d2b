/-
  Blocks in plain words: what may be one, its bytes, and a reader that takes bytes to pieces; what was written is read back, and nothing else is a block. Nothing here speaks of the program. .. and what follows from it.
-/
import Derived.Test.YtbdgdigpnfpnhaaKA
import Derived.Test.YtbdgdigpnfpnhaaKC
namespace Go.Proofs.Ytbdgdigpnfpnhaa
namespace Bk
open Enc
open Mm (Ent)
abbrev Bs := List UInt8

/-- May an entry be? -/
def may (e : Ent) : Bool := decide (1 ≤ e.seq) && decide (e.seq ≤ 1073741824) && Wl.mayBe ⟨e.key, e.value, e.del⟩
/-- Is each ahead of the next? -/
def inOrd : List Ent → Bool
  | [] => true
  | [_] => true
  | a :: b :: r => Mm.ahead a b && inOrd (b :: r)
def InOrd (l : List Ent) : Prop := ∀ k (h : k + 1 < l.length), Mm.ahead l[k] l[k + 1] = true
theorem inOrd_iff (l : List Ent) : inOrd l = true ↔ InOrd l := by
  induction l with
  | nil => exact ⟨fun _ k h => by simp at h, fun _ => rfl⟩
  | cons a r ih =>
    cases r with
    | nil => exact ⟨fun _ k h => by simp at h, fun _ => rfl⟩
    | cons b r =>
      rw [inOrd, Bool.and_eq_true, ih]
      constructor
      · rintro ⟨h1, h2⟩ k hk
        cases k with
        | zero => exact h1
        | succ k => exact h2 k (by simpa using hk)
      · intro h
        exact ⟨h 0 (by simp), fun k hk => h (k + 1) (by simpa using hk)⟩
/-- Why a list is no block. -/
def checkE (l : List Ent) : Int := if l.length = 0 then 2 else if l.length > 64 then 3 else if l.all may then if inOrd l then 0 else 10 else 2
theorem checkE_ok {l : List Ent} (h : checkE l = 0) : 1 ≤ l.length ∧ l.length ≤ 64 ∧ l.all may = true ∧ inOrd l = true := by
  unfold checkE at h
  split at h
  · cases h
  · split at h
    · cases h
    · split at h
      · split at h
        · rename_i a b c d; exact ⟨by omega, by omega, c, d⟩
        · cases h
      · cases h
theorem may_parts {e : Ent} (h : may e = true) : 1 ≤ e.seq ∧ e.seq ≤ 1073741824 ∧ e.key ≠ [] ∧ e.key.length ≤ 512 ∧ e.value.length ≤ 4096 ∧ (e.del = true → e.value = []) := by
  simp only [may, Wl.mayBe, Bool.and_eq_true, decide_eq_true_eq, Bool.or_eq_true, Bool.not_eq_true'] at h
  obtain ⟨⟨h1, h2⟩, ⟨⟨⟨h3, h4⟩, h5⟩, h6⟩⟩ := h
  refine ⟨h1, h2, h3, h4, h5, fun hd => ?_⟩
  rcases h6 with h6 | h6
  · rw [hd] at h6; cases h6
  · exact h6

/-- How many first bytes two texts have in common. -/
def cp : Bs → Bs → Nat
  | a :: r, b :: s => if a = b then cp r s + 1 else 0
  | [], _ => 0
  | _ :: _, [] => 0
theorem cp_le : ∀ (a k : Bs), cp a k ≤ a.length ∧ cp a k ≤ k.length ∧ a.take (cp a k) = k.take (cp a k)
  | [], _ => by simp [cp]
  | _ :: _, [] => by simp [cp]
  | a :: r, b :: s => by
    obtain ⟨h1, h2, h3⟩ := cp_le r s
    rw [cp]
    split
    · rename_i e; subst e
      simp [h3]; omega
    · simp
theorem cp_step : ∀ (a k : Bs) (n : Nat), n ≤ cp a k → (n < cp a k ↔ ∃ (h1 : n < a.length) (h2 : n < k.length), a[n] = k[n])
  | [], k, n, h => by simp [cp] at h ⊢
  | x :: r, [], n, h => by simp [cp] at h ⊢
  | x :: r, b :: s, n, h => by
    rw [cp] at h ⊢
    split at h
    · rename_i e; subst e
      rw [if_pos rfl]
      cases n with
      | zero => simp
      | succ n =>
        have := cp_step r s n (by omega)
        simp only [List.length_cons, List.getElem_cons_succ, Nat.add_lt_add_iff_right]
        exact this
    · rename_i e
      rw [if_neg e]
      have : n = 0 := by omega
      subst this
      simp [e]
/-- How many bytes the key of a place is said to share. -/
def shr (p : Nat) (a k : Bs) : Nat := if p % 8 = 0 then 0 else cp a k
theorem shr_le (p : Nat) (a k : Bs) : shr p a k ≤ a.length ∧ shr p a k ≤ k.length ∧ a.take (shr p a k) = k.take (shr p a k) := by
  unfold shr
  split
  · simp
  · exact cp_le a k

def text (s : Bs) : Bs := leb s.length ++ s
/-- The bytes of an entry at a place, behind a key. -/
def entB (p : Nat) (a : Bs) (e : Ent) : Bs := leb (shr p a e.key) ++ (text (e.key.drop (shr p a e.key)) ++ (leb e.seq.toNat ++ (if e.del then [1] else 0 :: text e.value)))
def encF : Nat → Bs → List Ent → Bs
  | _, _, [] => []
  | p, a, e :: r => entB p a e ++ encF (p + 1) e.key r
/-- The bytes of a block. -/
def blockB (l : List Ent) : Bs := leb l.length ++ encF 0 [] l
def lastK (a : Bs) (l : List Ent) : Bs := l.foldl (fun _ e => e.key) a
theorem lastK_snoc (a : Bs) (l : List Ent) (e : Ent) : lastK a (l ++ [e]) = e.key := by simp [lastK]
theorem encF_snoc (l : List Ent) (e : Ent) : ∀ (p : Nat) (a : Bs), encF p a (l ++ [e]) = encF p a l ++ entB (p + l.length) (lastK a l) e := by
  induction l with
  | nil => intro p a; simp [encF, lastK]
  | cons x r ih =>
    intro p a
    rw [List.cons_append, encF, ih, encF, List.append_assoc, List.length_cons]
    have : p + 1 + r.length = p + (r.length + 1) := by omega
    rw [this]; rfl
/-- What the bytes are up to the j-th entry. -/
def preB (l : List Ent) (j : Nat) : Bs := leb l.length ++ encF 0 [] (l.take j)
def keyAt (l : List Ent) (j : Nat) : Bs := lastK [] (l.take j)
theorem preB_zero (l : List Ent) : preB l 0 = leb l.length := by simp [preB, encF]
theorem preB_all (l : List Ent) : preB l l.length = blockB l := by simp [preB, blockB]
theorem keyAt_zero (l : List Ent) : keyAt l 0 = [] := rfl
theorem keyAt_next (l : List Ent) (j : Nat) (h : j < l.length) : keyAt l (j + 1) = l[j].key := by
  unfold keyAt; rw [List.take_succ_eq_append_getElem h, lastK_snoc]
theorem preB_next (l : List Ent) (j : Nat) (h : j < l.length) : preB l (j + 1) = preB l j ++ entB j (keyAt l j) l[j] := by
  unfold preB keyAt
  rw [List.take_succ_eq_append_getElem h, encF_snoc, List.append_assoc, List.length_take, Nat.min_eq_left (by omega), Nat.zero_add]
theorem text_len (s : Bs) (h : s.length ≤ 4096) : (text s).length ≤ s.length + 2 := by
  unfold text
  rw [List.length_append]
  have := leb_len 1 s.length (by omega)
  omega
theorem entB_len (p : Nat) (a : Bs) (e : Ent) (h : may e = true) : (entB p a e).length ≤ 5000 := by
  obtain ⟨h1, h2, h3, h4, h5, h6⟩ := may_parts h
  obtain ⟨g1, g2, _⟩ := shr_le p a e.key
  have a1 := leb_len64 (shr p a e.key) (by omega)
  have a2 := text_len (e.key.drop (shr p a e.key)) (by rw [List.length_drop]; omega)
  rw [List.length_drop] at a2
  have a3 := leb_len64 e.seq.toNat (by omega)
  have a4 := text_len e.value h5
  unfold entB
  rw [List.length_append, List.length_append, List.length_append]
  split
  · rw [List.length_singleton]; omega
  · rw [List.length_cons]; omega
theorem encF_len (l : List Ent) (h : l.all may = true) : ∀ (p : Nat) (a : Bs), (encF p a l).length ≤ 5000 * l.length := by
  induction l with
  | nil => intro p a; simp [encF]
  | cons x r ih =>
    intro p a
    rw [List.all_cons, Bool.and_eq_true] at h
    have h1 := entB_len p a x h.1
    have h2 := ih h.2 (p + 1) x.key
    rw [encF, List.length_append, List.length_cons]
    omega
theorem preB_len (l : List Ent) (h : checkE l = 0) (j : Nat) : (preB l j).length ≤ 330000 := by
  obtain ⟨h1, h2, h3, _⟩ := checkE_ok h
  have a1 := leb_len64 l.length (by omega)
  have h4 : (l.take j).all may = true := by
    rw [List.all_eq_true] at h3 ⊢
    exact fun x hx => h3 x (List.mem_of_mem_take hx)
  have a2 := encF_len (l.take j) h4 0 []
  rw [List.length_take] at a2
  unfold preB
  rw [List.length_append]
  omega
theorem preB_ne (l : List Ent) (j : Nat) : preB l j ≠ [] := by
  intro e
  have := leb_pos l.length
  have h := congrArg List.length e
  unfold preB at h
  rw [List.length_append, List.length_nil] at h
  omega

/-! ### A reader -/
structure Rd where
  rest : Bs
  bad : Bool
def mst (s : Rd) (c : Bool) : Rd := ⟨s.rest, s.bad || !c⟩
def rnumM (s : Rd) (most : Nat) : Rd := mst s (decide (smE s.rest most = 0))
def rnum (s : Rd) (most : Nat) : Rd := if (rnumM s most).bad then rnumM s most else ⟨s.rest.drop (smN s.rest most).toNat, false⟩
def rnumX (s : Rd) (most : Nat) : Nat := if (rnumM s most).bad then 0 else (smX s.rest most).toNat
def rtextM (s : Rd) (most : Nat) : Rd := mst (rnum s most) (decide (rnumX s most ≤ (rnum s most).rest.length))
def rtext (s : Rd) (most : Nat) : Rd := if (rtextM s most).bad then rtextM s most else ⟨(rnum s most).rest.drop (rnumX s most), false⟩
def rtextX (s : Rd) (most : Nat) : Bs := if (rtextM s most).bad then [] else (rnum s most).rest.take (rnumX s most)
/-- The reader behind the key of an entry, the key, and the reader behind what has to be so of it. -/
def r2 (a : Bs) (s : Rd) : Rd := rtext (rnum s a.length) 512
def keyX (a : Bs) (s : Rd) : Bs := a.take (rnumX s a.length) ++ rtextX (rnum s a.length) 512
def r3 (p : Nat) (a : Bs) (s : Rd) : Rd := mst (r2 a s) (decide (rnumX s a.length = shr p a (keyX a s)))
def r4 (p : Nat) (a : Bs) (s : Rd) : Rd := rnum (r3 p a s) 1073741824
def r5 (p : Nat) (a : Bs) (s : Rd) : Rd := rnum (r4 p a s) 1
def delX (p : Nat) (a : Bs) (s : Rd) : Bool := decide (rnumX (r4 p a s) 1 = 1)
def rent (p : Nat) (a : Bs) (s : Rd) : Rd := if delX p a s then r5 p a s else rtext (r5 p a s) 4096
def rentX (p : Nat) (a : Bs) (s : Rd) : Ent := ⟨keyX a s, if delX p a s then [] else rtextX (r5 p a s) 4096, (rnumX (r3 p a s) 1073741824 : Nat), delX p a s⟩
def rents : Rd → Nat → Nat → Bs → Rd
  | s, 0, _, _ => s
  | s, k + 1, p, a => rents (rent p a s) k (p + 1) (rentX p a s).key
def rentsX : Rd → Nat → Nat → Bs → List Ent
  | _, 0, _, _ => []
  | s, k + 1, p, a => rentX p a s :: rentsX (rent p a s) k (p + 1) (rentX p a s).key
def dMany (b : Bs) : Nat := rnumX ⟨b, false⟩ 64
def dFrom (b : Bs) : Rd := rnum ⟨b, false⟩ 64
def dEnts (b : Bs) : List Ent := rentsX (dFrom b) (dMany b) 0 []
def dLast (b : Bs) : Rd := rents (dFrom b) (dMany b) 0 []
def dEnd (b : Bs) : Rd := mst (mst (dLast b) (decide (checkE (dEnts b) = 0))) (decide ((dLast b).rest = []))
def dGood (b : Bs) : Bool := !(dEnd b).bad

theorem rentsX_length : ∀ (k : Nat) (s : Rd) (p : Nat) (a : Bs), (rentsX s k p a).length = k
  | 0, _, _, _ => rfl
  | k + 1, s, p, a => by rw [rentsX, List.length_cons, rentsX_length k]
theorem rents_more : ∀ (k : Nat) (s : Rd) (p : Nat) (a : Bs), rentsX s (k + 1) p a = rentsX s k p a ++ [rentX (p + k) (lastK a (rentsX s k p a)) (rents s k p a)] ∧ rents s (k + 1) p a = rent (p + k) (lastK a (rentsX s k p a)) (rents s k p a)
  | 0, s, p, a => ⟨rfl, rfl⟩
  | k + 1, s, p, a => by
    obtain ⟨h1, h2⟩ := rents_more k (rent p a s) (p + 1) (rentX p a s).key
    have e : p + 1 + k = p + (k + 1) := by omega
    rw [e] at h1 h2
    constructor
    · rw [rentsX, h1]; rfl
    · rw [rents, h2]; rfl
theorem rnumX_le (s : Rd) (most : Nat) : rnumX s most ≤ most := by
  unfold rnumX smX
  split
  · simp
  · split
    · rename_i h; omega
    · simp
theorem smN_le (l : Bs) (most : Int) : (smN l most).toNat ≤ l.length := by
  unfold smN
  split
  · rename_i h
    have := (rd_made l h.1).2
    omega
  · simp
theorem rnum_le (s : Rd) (most : Nat) : (rnum s most).rest.length ≤ s.rest.length := by
  unfold rnum rnumM mst
  split <;> simp
theorem rtextX_le (s : Rd) (most : Nat) : (rtextX s most).length ≤ most := by
  unfold rtextX
  have := rnumX_le s most
  split
  · simp
  · rw [List.length_take]; omega
theorem keyX_le (a : Bs) (s : Rd) : (keyX a s).length ≤ a.length + 512 := by
  unfold keyX
  have := rtextX_le (rnum s a.length) 512
  rw [List.length_append, List.length_take]
  omega
theorem rentX_len (p : Nat) (a : Bs) (s : Rd) : (rentX p a s).key.length ≤ a.length + 512 ∧ (rentX p a s).value.length ≤ 4096 := by
  refine ⟨keyX_le a s, ?_⟩
  show (if delX p a s then [] else rtextX (r5 p a s) 4096).length ≤ _
  split
  · simp
  · exact rtextX_le _ _
theorem rentsX_len : ∀ (k : Nat) (s : Rd) (p : Nat) (a : Bs) (n : Nat), a.length ≤ n → ∀ x ∈ rentsX s k p a, x.key.length ≤ n + 512 * k ∧ x.value.length ≤ 4096
  | 0, _, _, _, _, _, x, hx => by simp [rentsX] at hx
  | k + 1, s, p, a, n, ha, x, hx => by
    obtain ⟨h1, h2⟩ := rentX_len p a s
    rw [rentsX, List.mem_cons] at hx
    have e : n + 512 * (k + 1) = n + 512 + 512 * k := by rw [Nat.mul_succ]; omega
    rw [e]
    rcases hx with rfl | hx
    · exact ⟨Nat.le_trans h1 (by clear h1 h2; omega), h2⟩
    · exact rentsX_len k _ _ _ (n + 512) (Nat.le_trans h1 (by clear h1 h2 hx; omega)) x hx
theorem lastK_le (l : List Ent) (n : Nat) : ∀ (a : Bs), a.length ≤ n → (∀ x ∈ l, x.key.length ≤ n) → (lastK a l).length ≤ n := by
  induction l with
  | nil => intro a h _; exact h
  | cons x r ih =>
    intro a h hx
    show (lastK x.key r).length ≤ n
    exact ih _ (hx x (by simp)) (fun y hy => hx y (by simp [hy]))

/-! ### What was written is read back -/
theorem sm_back (x : Nat) (r : Bs) (most : Nat) (hm : most < 9223372036854775808) (h : x ≤ most) : smX (leb x ++ r) most = x ∧ smN (leb x ++ r) most = (leb x).length ∧ smE (leb x ++ r) most = 0 := by
  have hb := rd_back x r (by omega)
  unfold smX smN smE
  rw [hb]
  have hc : (0 : Nat) = 0 ∧ (0 : Int) ≤ (most : Int) ∧ ((x : Nat) : Int) ≤ (most : Int) := ⟨rfl, by omega, by omega⟩
  refine ⟨if_pos hc, if_pos hc, if_pos hc⟩
theorem rnum_back (x : Nat) (r : Bs) (most : Nat) (hm : most < 9223372036854775808) (h : x ≤ most) : rnumX ⟨leb x ++ r, false⟩ most = x ∧ rnum ⟨leb x ++ r, false⟩ most = ⟨r, false⟩ := by
  obtain ⟨h1, h2, h3⟩ := sm_back x r most hm h
  unfold rnumX rnum rnumM mst
  simp [h1, h2, h3]
theorem rtext_back (s r : Bs) (most : Nat) (hm : most < 9223372036854775808) (h : s.length ≤ most) : rtextX ⟨text s ++ r, false⟩ most = s ∧ rtext ⟨text s ++ r, false⟩ most = ⟨r, false⟩ := by
  obtain ⟨h1, h2⟩ := rnum_back s.length (s ++ r) most hm h
  unfold text rtextX rtext rtextM mst
  rw [List.append_assoc, h1, h2]
  simp
theorem rent_back (p : Nat) (a : Bs) (e : Ent) (h : may e = true) (ha : a.length < 9223372036854775808) (r : Bs) : rentX p a ⟨entB p a e ++ r, false⟩ = e ∧ rent p a ⟨entB p a e ++ r, false⟩ = ⟨r, false⟩ := by
  obtain ⟨h1, h2, h3, h4, h5, h6⟩ := may_parts h
  obtain ⟨g1, g2, g3⟩ := shr_le p a e.key
  have e0 : entB p a e ++ r = leb (shr p a e.key) ++ (text (e.key.drop (shr p a e.key)) ++ (leb e.seq.toNat ++ ((if e.del then [1] else 0 :: text e.value) ++ r))) := by unfold entB; simp
  obtain ⟨n1, n2⟩ := rnum_back (shr p a e.key) (text (e.key.drop (shr p a e.key)) ++ (leb e.seq.toNat ++ ((if e.del then [1] else 0 :: text e.value) ++ r))) a.length ha g1
  obtain ⟨t1, t2⟩ := rtext_back (e.key.drop (shr p a e.key)) (leb e.seq.toNat ++ ((if e.del then [1] else 0 :: text e.value) ++ r)) 512 (by decide) (by rw [List.length_drop]; omega)
  obtain ⟨q1, q2⟩ := rnum_back e.seq.toNat ((if e.del then [1] else 0 :: text e.value) ++ r) 1073741824 (by decide) (by omega)
  rw [← e0] at n1 n2
  have k1 : keyX a ⟨entB p a e ++ r, false⟩ = e.key := by unfold keyX; rw [n1, n2, t1, g3, List.take_append_drop]
  have k2 : r3 p a ⟨entB p a e ++ r, false⟩ = ⟨leb e.seq.toNat ++ ((if e.del then [1] else 0 :: text e.value) ++ r), false⟩ := by
    unfold r3 r2 mst; rw [k1, n1, n2, t2]; simp
  have k3 : r4 p a ⟨entB p a e ++ r, false⟩ = ⟨(if e.del then [1] else 0 :: text e.value) ++ r, false⟩ := by unfold r4; rw [k2, q2]
  have k4 : rnumX (r3 p a ⟨entB p a e ++ r, false⟩) 1073741824 = e.seq.toNat := by rw [k2, q1]
  obtain ⟨ek, ev, es, ed⟩ := e
  simp only at h1 h2 h5 h6 k1 k3 k4
  cases ed with
  | true =>
    have hv := h6 rfl
    subst hv
    have e1 : (if true = true then [1] else 0 :: text ([] : Bs)) ++ r = leb 1 ++ r := by rw [leb_small 1 (by decide)]; rfl
    rw [e1] at k3
    obtain ⟨m1, m2⟩ := rnum_back 1 r 1 (by decide) (Nat.le_refl _)
    have d1 : delX p a ⟨entB p a ⟨ek, [], es, true⟩ ++ r, false⟩ = true := by unfold delX; rw [k3, m1]; rfl
    have d2 : r5 p a ⟨entB p a ⟨ek, [], es, true⟩ ++ r, false⟩ = ⟨r, false⟩ := by unfold r5; rw [k3, m2]
    unfold rentX rent
    rw [d1, d2, k1, k4]
    refine ⟨?_, rfl⟩
    simp; omega
  | false =>
    have e1 : (if false = true then [1] else 0 :: text ev) ++ r = leb 0 ++ (text ev ++ r) := by rw [leb_small 0 (by decide)]; rfl
    rw [e1] at k3
    obtain ⟨m1, m2⟩ := rnum_back 0 (text ev ++ r) 1 (by decide) (by decide)
    obtain ⟨v1, v2⟩ := rtext_back ev r 4096 (by decide) h5
    have d1 : delX p a ⟨entB p a ⟨ek, ev, es, false⟩ ++ r, false⟩ = false := by unfold delX; rw [k3, m1]; rfl
    have d2 : r5 p a ⟨entB p a ⟨ek, ev, es, false⟩ ++ r, false⟩ = ⟨text ev ++ r, false⟩ := by unfold r5; rw [k3, m2]
    unfold rentX rent
    rw [d1, d2, k1, k4]
    simp [v1, v2]; omega
theorem rents_back (l : List Ent) (h : l.all may = true) (r : Bs) : ∀ (p : Nat) (a : Bs), a.length < 9223372036854775808 → rentsX ⟨encF p a l ++ r, false⟩ l.length p a = l ∧ rents ⟨encF p a l ++ r, false⟩ l.length p a = ⟨r, false⟩ := by
  induction l with
  | nil => intro p a _; exact ⟨rfl, rfl⟩
  | cons x l ih =>
    intro p a ha
    rw [List.all_cons, Bool.and_eq_true] at h
    obtain ⟨_, _, _, hk, _⟩ := may_parts h.1
    obtain ⟨i1, i2⟩ := ih h.2 (p + 1) x.key (by omega)
    obtain ⟨w1, w2⟩ := rent_back p a x h.1 ha (encF (p + 1) x.key l ++ r)
    rw [encF, List.append_assoc, List.length_cons, rentsX, rents, w1, w2, i1, i2]
    exact ⟨rfl, rfl⟩
theorem dec_back (l : List Ent) (h : checkE l = 0) : dEnts (blockB l) = l ∧ dGood (blockB l) = true := by
  obtain ⟨k1, k2, k3, k4⟩ := checkE_ok h
  have e1 : blockB l = leb l.length ++ (encF 0 [] l ++ []) := by unfold blockB; simp
  obtain ⟨a1, a2⟩ := rnum_back l.length (encF 0 [] l ++ []) 64 (by decide) k2
  obtain ⟨c1, c2⟩ := rents_back l k3 [] 0 [] (by decide)
  have f2 : dMany (blockB l) = l.length := by unfold dMany; rw [e1, a1]
  have f3 : dFrom (blockB l) = ⟨encF 0 [] l ++ [], false⟩ := by unfold dFrom; rw [e1, a2]
  have f4 : dEnts (blockB l) = l := by unfold dEnts; rw [f2, f3, c1]
  have f5 : dLast (blockB l) = ⟨[], false⟩ := by unfold dLast; rw [f2, f3, c2]
  refine ⟨f4, ?_⟩
  unfold dGood dEnd mst
  rw [f4, f5, h]
  simp

/-! ### Nothing else is a block -/
theorem mst_bad {s : Rd} {c : Bool} (h : (mst s c).bad = false) : s.bad = false ∧ c = true := by
  unfold mst at h
  simpa using h
theorem rnum_good {s : Rd} {most : Nat} (h : (rnum s most).bad = false) : s.bad = false ∧ s.rest = leb (rnumX s most) ++ (rnum s most).rest := by
  have hM : (rnumM s most).bad = false := by
    unfold rnum at h
    cases hb : (rnumM s most).bad with
    | false => rfl
    | true => rw [if_pos hb, hb] at h; cases h
  obtain ⟨h1, h2⟩ := mst_bad hM
  refine ⟨h1, ?_⟩
  unfold rnum rnumX
  rw [hM]
  have h3 : smE s.rest most = 0 := of_decide_eq_true h2
  have hc : (rd s.rest).2.2 = 0 ∧ (0 : Int) ≤ most ∧ ((rd s.rest).1 : Int) ≤ most := by
    unfold smE at h3
    split at h3
    · assumption
    · cases h3
  obtain ⟨m1, m2⟩ := rd_made s.rest hc.1
  have hX : smX s.rest most = ((rd s.rest).1 : Int) := if_pos hc
  have hN : smN s.rest most = ((rd s.rest).2.1 : Int) := if_pos hc
  rw [hX, hN]
  simp only [Int.toNat_natCast, Bool.false_eq_true, if_false]
  rw [← m1, List.take_append_drop]
theorem rtext_good {s : Rd} {most : Nat} (h : (rtext s most).bad = false) : s.bad = false ∧ s.rest = text (rtextX s most) ++ (rtext s most).rest := by
  have hM : (rtextM s most).bad = false := by
    unfold rtext at h
    cases hb : (rtextM s most).bad with
    | false => rfl
    | true => rw [if_pos hb, hb] at h; cases h
  obtain ⟨h1, h2⟩ := mst_bad hM
  obtain ⟨h3, h4⟩ := rnum_good h1
  refine ⟨h3, ?_⟩
  have hle : rnumX s most ≤ (rnum s most).rest.length := of_decide_eq_true h2
  unfold rtextX rtext text
  rw [hM]
  simp only [Bool.false_eq_true, if_false]
  rw [List.length_take, Nat.min_eq_left hle, List.append_assoc, List.take_append_drop]
  exact h4
theorem rent_good {p : Nat} {a : Bs} {s : Rd} (h : (rent p a s).bad = false) : s.bad = false ∧ s.rest = entB p a (rentX p a s) ++ (rent p a s).rest := by
  have h5 : (r5 p a s).bad = false ∧ (r5 p a s).rest = (if delX p a s then [] else text (rentX p a s).value) ++ (rent p a s).rest := by
    unfold rent at h ⊢
    unfold rentX
    cases hd : delX p a s with
    | true => rw [hd] at h; exact ⟨h, rfl⟩
    | false =>
      rw [hd] at h
      obtain ⟨x1, x2⟩ := rtext_good h
      exact ⟨x1, x2⟩
  obtain ⟨h4, e4⟩ := rnum_good h5.1
  obtain ⟨h3, e3⟩ := rnum_good h4
  obtain ⟨h2, c3⟩ := mst_bad h3
  obtain ⟨h1, e2⟩ := rtext_good h2
  obtain ⟨h0, e1⟩ := rnum_good h1
  refine ⟨h0, ?_⟩
  have hs : rnumX s a.length = shr p a (keyX a s) := of_decide_eq_true c3
  have hx : rnumX s a.length ≤ a.length := rnumX_le _ _
  have hkd : (keyX a s).drop (rnumX s a.length) = rtextX (rnum s a.length) 512 := by
    unfold keyX
    have : (a.take (rnumX s a.length)).length = rnumX s a.length := by rw [List.length_take]; omega
    exact List.drop_left' this
  have h3r : (r3 p a s).rest = (r2 a s).rest := rfl
  have e4' : (r4 p a s).rest = leb (rnumX (r4 p a s) 1) ++ (r5 p a s).rest := e4
  have e3' : (r3 p a s).rest = leb (rnumX (r3 p a s) 1073741824) ++ (r4 p a s).rest := e3
  have e2' : (rnum s a.length).rest = text (rtextX (rnum s a.length) 512) ++ (r2 a s).rest := e2
  have hmark : leb (rnumX (r4 p a s) 1) ++ (if delX p a s then [] else text (rentX p a s).value) = (if delX p a s then [1] else 0 :: text (rentX p a s).value) := by
    have hle := rnumX_le (r4 p a s) 1
    cases hd : delX p a s with
    | true =>
      have : rnumX (r4 p a s) 1 = 1 := of_decide_eq_true hd
      rw [this, leb_small 1 (by decide)]; rfl
    | false =>
      have : ¬ rnumX (r4 p a s) 1 = 1 := of_decide_eq_false hd
      have h0 : rnumX (r4 p a s) 1 = 0 := by omega
      rw [h0, leb_small 0 (by decide)]; rfl
  have hE : entB p a (rentX p a s) = leb (rnumX s a.length) ++ (text (rtextX (rnum s a.length) 512) ++ (leb (rnumX (r3 p a s) 1073741824) ++ (if delX p a s then [1] else 0 :: text (rentX p a s).value))) := by
    unfold entB
    show leb (shr p a (keyX a s)) ++ (text ((keyX a s).drop (shr p a (keyX a s))) ++ (leb ((rnumX (r3 p a s) 1073741824 : Nat) : Int).toNat ++ (if delX p a s then [1] else 0 :: text (rentX p a s).value))) = _
    rw [← hs, hkd, Int.toNat_natCast]
  rw [hE, e1, e2', ← h3r, e3', e4', h5.2, ← hmark]
  simp only [List.append_assoc]
theorem rents_good : ∀ (k : Nat) (s : Rd) (p : Nat) (a : Bs), (rents s k p a).bad = false → s.bad = false ∧ s.rest = encF p a (rentsX s k p a) ++ (rents s k p a).rest
  | 0, s, p, a, h => ⟨h, rfl⟩
  | k + 1, s, p, a, h => by
    obtain ⟨h1, h2⟩ := rents_good k (rent p a s) (p + 1) (rentX p a s).key h
    obtain ⟨h3, h4⟩ := rent_good h1
    refine ⟨h3, ?_⟩
    rw [rentsX, encF, List.append_assoc, rents, ← h2]
    exact h4
theorem enc_back (b : Bs) (h : dGood b = true) : checkE (dEnts b) = 0 ∧ blockB (dEnts b) = b := by
  have hb : (dEnd b).bad = false := by
    unfold dGood at h
    simpa using h
  obtain ⟨h1, h2⟩ := mst_bad hb
  obtain ⟨h3, h4⟩ := mst_bad h1
  have hr : (dLast b).rest = [] := of_decide_eq_true h2
  refine ⟨of_decide_eq_true h4, ?_⟩
  obtain ⟨h5, h6⟩ := rents_good _ _ _ _ h3
  obtain ⟨h7, h8⟩ := rnum_good h5
  have h6' : (dFrom b).rest = encF 0 [] (dEnts b) ++ (dLast b).rest := h6
  rw [hr, List.append_nil] at h6'
  have hl : (dEnts b).length = dMany b := rentsX_length _ _ _ _
  have h8' : b = leb (dMany b) ++ (dFrom b).rest := h8
  unfold blockB
  rw [hl, ← h6', ← h8']
end Bk
end Go.Proofs.Ytbdgdigpnfpnhaa
namespace Go.Proofs.Ytbdgdigpnfpnhaa
namespace Bk

/-- The first entry of the list at a place. -/
def hdAt (l : List (List Mm.Ent)) (i : Nat) : Mm.Ent := (l.getD i []).headD ⟨[], [], 0, false⟩
/-- The foremost of the first n lists. -/
def foreN (l : List (List Mm.Ent)) : Nat → Nat
  | 0 => 0
  | n + 1 => if Mm.ahead (hdAt l n) (hdAt l (foreN l n)) = true then n else foreN l n
theorem foreN_lt (l : List (List Mm.Ent)) (n : Nat) : foreN l n < max 1 n := by
  induction n with
  | zero => simp [foreN]
  | succ n ih =>
    rw [foreN]
    split
    · omega
    · omega
def fore (l : List (List Mm.Ent)) : Nat := foreN l l.length
theorem fore_lt (l : List (List Mm.Ent)) (h : l ≠ []) : fore l < l.length := by
  have h0 : 0 < l.length := List.length_pos_iff.2 h
  have := foreN_lt l l.length
  unfold fore
  omega

/-- The list at a place without its first entry; without that list, if it has no other. -/
def cutAt (l : List (List Mm.Ent)) (i : Nat) : List (List Mm.Ent) := if (l.getD i []).tail = [] then l.eraseIdx i else l.set i (l.getD i []).tail
def total (l : List (List Mm.Ent)) : Nat := (l.map List.length).sum
def mayFollow (out : List Mm.Ent) (e : Mm.Ent) : Bool := match out.getLast? with
  | none => true
  | some y => Mm.ahead y e

def mrg : Nat → List (List Mm.Ent) → List Mm.Ent → Option (List Mm.Ent)
  | 0, _, out => some out
  | f + 1, l, out => if l = [] then some out else if mayFollow out (hdAt l (fore l)) = true then mrg f (cutAt l (fore l)) (out ++ [hdAt l (fore l)]) else none

theorem total_cons (x : List Mm.Ent) (l : List (List Mm.Ent)) : total (x :: l) = x.length + total l := by simp [total]
theorem total_erase (l : List (List Mm.Ent)) (i : Nat) (h : i < l.length) : total (l.eraseIdx i) + l[i].length = total l := by
  induction l generalizing i with
  | nil => simp at h
  | cons x l ih =>
    cases i with
    | zero => simp [total_cons]; omega
    | succ i =>
      have := ih i (by simpa using h)
      simp only [List.eraseIdx_cons_succ, total_cons, List.getElem_cons_succ]
      omega
theorem total_set (l : List (List Mm.Ent)) (i : Nat) (h : i < l.length) (r : List Mm.Ent) : total (l.set i r) + l[i].length = total l + r.length := by
  induction l generalizing i with
  | nil => simp at h
  | cons x l ih =>
    cases i with
    | zero => simp [total_cons]; omega
    | succ i =>
      have := ih i (by simpa using h)
      simp only [List.set_cons_succ, total_cons, List.getElem_cons_succ]
      omega
theorem getD_at (l : List (List Mm.Ent)) (i : Nat) (h : i < l.length) : l.getD i [] = l[i] := by simp [List.getD, h]
theorem hdAt_cons (l : List (List Mm.Ent)) (i : Nat) (h : i < l.length) (hne : l[i] ≠ []) : l[i] = hdAt l i :: l[i].tail := by
  unfold hdAt
  rw [getD_at l i h]
  cases hx : l[i] with
  | nil => exact absurd hx hne
  | cons a r => rfl
theorem total_cut (l : List (List Mm.Ent)) (i : Nat) (h : i < l.length) (hne : l[i] ≠ []) : total (cutAt l i) + 1 = total l := by
  have hc := congrArg List.length (hdAt_cons l i h hne)
  rw [List.length_cons] at hc
  unfold cutAt
  rw [getD_at l i h]
  split
  · rename_i ht
    have := total_erase l i h
    rw [ht] at hc
    simp at hc
    omega
  · have := total_set l i h l[i].tail
    omega
theorem cut_ne (l : List (List Mm.Ent)) (i : Nat) (hne : ∀ x ∈ l, x ≠ []) : ∀ x ∈ cutAt l i, x ≠ [] := by
  intro x hx
  unfold cutAt at hx
  split at hx
  · exact hne x (List.mem_of_mem_eraseIdx hx)
  · rename_i ht
    rcases List.mem_or_eq_of_mem_set hx with h | h
    · exact hne x h
    · rw [h]; exact ht
theorem cut_other (l : List (List Mm.Ent)) (i j : Nat) (h : j < l.length) (hij : i ≠ j) : l[j] ∈ cutAt l i := by
  unfold cutAt
  split
  · rw [List.mem_eraseIdx_iff_getElem]
    exact ⟨j, h, fun e => hij e.symm, rfl⟩
  · rw [List.mem_iff_getElem]
    exact ⟨j, by simpa using h, by rw [List.getElem_set_ne hij]⟩
theorem cut_self (l : List (List Mm.Ent)) (i : Nat) (h : i < l.length) (ht : l[i].tail ≠ []) : l[i].tail ∈ cutAt l i := by
  unfold cutAt
  rw [getD_at l i h, if_neg ht]
  rw [List.mem_iff_getElem]
  exact ⟨i, by simpa using h, by simp⟩

theorem inOrd_snoc (l : List Mm.Ent) (e : Mm.Ent) (h : inOrd l = true) (hf : mayFollow l e = true) : inOrd (l ++ [e]) = true := by
  induction l with
  | nil => rfl
  | cons a r ih =>
    cases r with
    | nil =>
      have : Mm.ahead a e = true := hf
      show (Mm.ahead a e && inOrd [e]) = true
      rw [this]; rfl
    | cons b r =>
      rw [inOrd, Bool.and_eq_true] at h
      have hf' : mayFollow (b :: r) e = true := by
        unfold mayFollow at hf ⊢
        rw [List.getLast?_cons_cons] at hf
        exact hf
      have := ih h.2 hf'
      show (Mm.ahead a b && inOrd (b :: r ++ [e])) = true
      rw [h.1, this]; rfl

/-- What comes out has all that was in the lists, each list's in its order, and is in order. -/
theorem mrg_ok (f : Nat) : ∀ (l : List (List Mm.Ent)) (out a : List Mm.Ent), (∀ x ∈ l, x ≠ []) → total l ≤ f → mrg f l out = some a → ∃ t, a = out ++ t ∧ t.length = total l ∧ (∀ x ∈ l, x.Sublist t) ∧ (inOrd out = true → inOrd a = true) := by
  induction f with
  | zero =>
    intro l out a hne ht h
    have hl : l = [] := by
      cases l with
      | nil => rfl
      | cons x l =>
        have := hne x (by simp)
        have h0 : 0 < x.length := List.length_pos_iff.2 this
        rw [total_cons] at ht
        omega
    subst hl
    simp only [mrg, Option.some.injEq] at h
    subst h
    exact ⟨[], by simp, rfl, by simp, id⟩
  | succ f ih =>
    intro l out a hne ht h
    rw [mrg] at h
    split at h
    · rename_i hl
      subst hl
      simp only [Option.some.injEq] at h
      subst h
      exact ⟨[], by simp, rfl, by simp, id⟩
    · rename_i hl
      split at h
      · rename_i hf
        have hi := fore_lt l hl
        have hni := hne _ (List.getElem_mem hi)
        have htc := total_cut l (fore l) hi hni
        obtain ⟨t, h1, h2, h3, h4⟩ := ih _ _ _ (cut_ne l (fore l) hne) (by omega) h
        refine ⟨hdAt l (fore l) :: t, by rw [h1]; simp, by rw [List.length_cons, h2, htc], fun x hx => ?_, fun ho => h4 (inOrd_snoc out _ ho hf)⟩
        obtain ⟨j, hj, rfl⟩ := List.mem_iff_getElem.1 hx
        by_cases e : fore l = j
        · subst e
          rw [hdAt_cons l (fore l) hi hni]
          by_cases htl : l[fore l].tail = []
          · rw [htl]; exact List.Sublist.cons_cons _ (List.nil_sublist t)
          · exact List.Sublist.cons_cons _ (h3 _ (cut_self l _ hi htl))
        · exact List.Sublist.cons _ (h3 _ (cut_other l _ j hj e))
      · cases h

/-- One match more, or one entry less to look at. -/
theorem sub_step {x y : Mm.Ent} {r s : List Mm.Ent} (h : (x :: r).Sublist (y :: s)) : (x = y → r.Sublist s) ∧ (x ≠ y → (x :: r).Sublist s) := by
  cases h with
  | cons _ h => exact ⟨fun _ => (List.sublist_cons_self x r).trans h, fun _ => h⟩
  | cons_cons _ h => exact ⟨fun _ => h, fun hne => absurd rfl hne⟩

/-- What Merge answers. -/
def lefts (ls : List (List Mm.Ent)) : List (List Mm.Ent) := ls.filter fun x => decide (x ≠ [])
def mergeO (ls : List (List Mm.Ent)) : Option (List Mm.Ent) := mrg (total (lefts ls)) (lefts ls) []
def mergeE (ls : List (List Mm.Ent)) : Int := if ls.all inOrd = true then (if (mergeO ls).isSome = true then 0 else 9) else 10
def mergeL (ls : List (List Mm.Ent)) : List Mm.Ent := if ls.all inOrd = true then (mergeO ls).getD [] else []
theorem total_lefts (ls : List (List Mm.Ent)) : total (lefts ls) = total ls := by
  induction ls with
  | nil => rfl
  | cons x ls ih =>
    by_cases hx : x = []
    · subst hx
      have e : lefts ([] :: ls) = lefts ls := by unfold lefts; rw [List.filter_cons_of_neg (by simp)]
      rw [e, ih, total_cons, List.length_nil, Nat.zero_add]
    · have e : lefts (x :: ls) = x :: lefts ls := by unfold lefts; rw [List.filter_cons_of_pos (by simpa using hx)]
      rw [e, total_cons, ih, total_cons]
theorem merge_all (ls : List (List Mm.Ent)) (h : mergeE ls = 0) : (mergeL ls).length = total ls ∧ inOrd (mergeL ls) = true ∧ ∀ x ∈ ls, x.Sublist (mergeL ls) := by
  unfold mergeE at h
  split at h
  · rename_i hi
    split at h
    · rename_i hs
      obtain ⟨a, ha⟩ := Option.isSome_iff_exists.1 hs
      have e : mergeL ls = a := by unfold mergeL; rw [if_pos hi, ha]; rfl
      obtain ⟨t, h1, h2, h3, h4⟩ := mrg_ok _ (lefts ls) [] a (fun x hx => by have := (List.mem_filter.1 hx).2; simpa using this) (Nat.le_refl _) ha
      rw [List.nil_append] at h1
      subst h1
      rw [e]
      refine ⟨by rw [h2, total_lefts], h4 rfl, fun x hx => ?_⟩
      by_cases h0 : x = []
      · rw [h0]; exact List.nil_sublist _
      · exact h3 x (List.mem_filter.2 ⟨hx, by simpa using h0⟩)
    · omega
  · omega
theorem merge_bad (ls : List (List Mm.Ent)) (h : mergeE ls ≠ 0) : mergeL ls = [] ∧ (mergeE ls = 9 ∨ mergeE ls = 10) := by
  unfold mergeE at h ⊢
  unfold mergeL
  by_cases hi : ls.all inOrd = true
  · rw [if_pos hi] at h ⊢
    rw [if_pos hi]
    cases hm : mergeO ls with
    | none => exact ⟨rfl, .inl rfl⟩
    | some a => rw [hm] at h; exact absurd rfl h
  · rw [if_neg hi, if_neg hi]
    exact ⟨rfl, .inr rfl⟩
theorem mrg_step (l : List (List Mm.Ent)) (out : List Mm.Ent) (hl : l ≠ []) (hne : ∀ x ∈ l, x ≠ []) (hf : mayFollow out (hdAt l (fore l)) = true) : mrg (total l) l out = mrg (total (cutAt l (fore l))) (cutAt l (fore l)) (out ++ [hdAt l (fore l)]) := by
  have hi := fore_lt l hl
  have ht := total_cut l (fore l) hi (hne _ (List.getElem_mem hi))
  rw [← ht, mrg, if_neg hl, if_pos hf]
theorem mrg_stop (l : List (List Mm.Ent)) (out : List Mm.Ent) (hl : l ≠ []) (hne : ∀ x ∈ l, x ≠ []) (hf : mayFollow out (hdAt l (fore l)) = false) : mrg (total l) l out = none := by
  have hi := fore_lt l hl
  have ht := total_cut l (fore l) hi (hne _ (List.getElem_mem hi))
  rw [← ht, mrg, if_neg hl, if_neg (by rw [hf]; decide)]
theorem mrg_nil (out : List Mm.Ent) : mrg (total []) [] out = some out := rfl
theorem lefts_succ (ls : List (List Mm.Ent)) (j : Nat) (h : j < ls.length) : lefts (ls.take (j + 1)) = lefts (ls.take j) ++ (if ls[j] = [] then [] else [ls[j]]) := by
  unfold lefts
  rw [List.take_succ_eq_append_getElem h, List.filter_append]
  congr 1
  by_cases hx : ls[j] = []
  · rw [if_pos hx, List.filter_cons_of_neg (by simpa using hx)]; rfl
  · rw [if_neg hx, List.filter_cons_of_pos (by simpa using hx)]; rfl
theorem follow_nil (e : Mm.Ent) : mayFollow [] e = true := rfl
theorem follow_snoc (o : List Mm.Ent) (y e : Mm.Ent) : mayFollow (o ++ [y]) e = Mm.ahead y e := by
  unfold mayFollow
  simp
theorem lefts_ne (ls : List (List Mm.Ent)) : ∀ x ∈ lefts ls, x ≠ [] := fun x hx => by
  have := (List.mem_filter.1 hx).2
  simpa using this
theorem lefts_short (ls : List (List Mm.Ent)) (P : List Mm.Ent → Prop) (h : ∀ x ∈ ls, P x) : ∀ x ∈ lefts ls, P x := fun x hx => h x (List.mem_filter.1 hx).1
end Bk
end Go.Proofs.Ytbdgdigpnfpnhaa
namespace Go.Proofs.Ytbdgdigpnfpnhaa
namespace Bk
open Mm hiding ahead

/-- The best of the first n lists that have an entry left. -/
def rbN (R : List (List Ent)) : Nat → Option Nat
  | 0 => none
  | n + 1 => if !decide (R.getD n [] = []) && (match rbN R n with | none => true | some b => Mm.ahead (hdAt R n) (hdAt R b)) then some n else rbN R n

theorem hd_left (L M : List (List Ent)) (i : Nat) (h : i < L.length) : hdAt (L ++ M) i = hdAt L i := by
  unfold hdAt
  rw [getD_at _ i (by rw [List.length_append]; omega), getD_at _ i h, List.getElem_append_left h]
theorem hd_mid (L M : List (List Ent)) (x : List Ent) : hdAt (L ++ x :: M) L.length = x.headD ⟨[], [], 0, false⟩ := by
  unfold hdAt
  rw [getD_at _ _ (by simp)]
  simp
theorem fore_left (L M : List (List Ent)) : ∀ n, n ≤ L.length → 0 < L.length → foreN (L ++ M) n = foreN L n
  | 0, _, _ => rfl
  | n + 1, h, h0 => by
    have ih := fore_left L M n (by omega) h0
    have hlt := foreN_lt L n
    rw [foreN, foreN, ih, hd_left L M n (by omega), hd_left L M (foreN L n) (by omega)]
/-- The same choice. -/
theorem rb_fore (R : List (List Ent)) : ∀ k, k ≤ R.length → (rbN R k = none ∧ lefts (R.take k) = []) ∨ ∃ b, rbN R k = some b ∧ b < k ∧ R.getD b [] ≠ [] ∧ lefts (R.take k) ≠ [] ∧ hdAt R b = hdAt (lefts (R.take k)) (fore (lefts (R.take k))) ∧ fore (lefts (R.take k)) = (lefts (R.take b)).length
  | 0, _ => .inl ⟨rfl, rfl⟩
  | k + 1, h => by
    have hk : k < R.length := by omega
    have ih := rb_fore R k (by omega)
    rw [lefts_succ R k hk]
    have hg := getD_at R k hk
    by_cases he : R[k] = []
    · rw [if_pos he, List.append_nil]
      have e1 : rbN R (k + 1) = rbN R k := by
        rw [rbN, hg, he]
        simp
      rw [e1]
      rcases ih with ih | ⟨b, h1, h2, h3⟩
      · exact .inl ih
      · exact .inr ⟨b, h1, by omega, h3⟩
    · rw [if_neg he]
      have hhd : hdAt R k = R[k].headD ⟨[], [], 0, false⟩ := by unfold hdAt; rw [hg]
      right
      rcases ih with ⟨h1, h2⟩ | ⟨b, h1, h2, h3, h4, h5, h6⟩
      · refine ⟨k, ?_, by omega, by rw [hg]; exact he, by simp, ?_, ?_⟩
        · rw [rbN, h1, hg]
          simp [he]
        · rw [h2, hhd]
          have : fore ([] ++ [R[k]]) = 0 := by
            have := fore_lt ([] ++ [R[k]]) (by simp)
            simp at this ⊢
            omega
          rw [this]
          exact (hd_mid [] [] R[k]).symm
        · have := fore_lt (lefts (R.take k) ++ [R[k]]) (by simp)
          rw [h2] at this ⊢
          simp at this ⊢
          omega
      · have hL : 0 < (lefts (R.take k)).length := List.length_pos_iff.2 h4
        obtain ⟨L, hLd⟩ : ∃ L, L = lefts (R.take k) := ⟨_, rfl⟩
        rw [← hLd] at h4 h5 h6 hL ⊢
        have hfl := fore_lt L h4
        have hf : fore (L ++ [R[k]]) = if Mm.ahead (hdAt R k) (hdAt R b) = true then L.length else fore L := by
          unfold fore
          rw [List.length_append, List.length_singleton, foreN, fore_left L [R[k]] L.length (Nat.le_refl _) hL, hd_mid L [] R[k], ← hhd, hd_left L [R[k]] (foreN L L.length) hfl, h5]
          rfl
        by_cases ha : Mm.ahead (hdAt R k) (hdAt R b) = true
        · rw [if_pos ha] at hf
          refine ⟨k, ?_, by omega, by rw [hg]; exact he, by simp, ?_, ?_⟩
          · rw [rbN, h1, hg]
            simp [he, ha]
          · rw [hf, hd_mid, hhd]
          · rw [hf, hLd]
        · rw [if_neg ha] at hf
          refine ⟨b, ?_, by omega, h3, by simp, ?_, ?_⟩
          · rw [rbN, h1, hg]
            simp [ha]
          · rw [hf, hd_left L _ _ hfl, h5]
          · rw [hf, h6]
theorem lefts_app (A B : List (List Ent)) : lefts (A ++ B) = lefts A ++ lefts B := by unfold lefts; rw [List.filter_append]
/-- What is left. -/
theorem rb_cut (R : List (List Ent)) (b : Nat) (hb : b < R.length) (hne : R[b] ≠ []) : lefts (R.set b R[b].tail) = cutAt (lefts R) (lefts (R.take b)).length := by
  obtain ⟨x, hx⟩ : ∃ x, x = R[b] := ⟨_, rfl⟩
  have e1 : R = R.take b ++ x :: R.drop (b + 1) := by
    rw [hx]
    conv => lhs; rw [← List.take_append_drop b R, List.drop_eq_getElem_cons hb]
  have e2 : R.set b x.tail = R.take b ++ x.tail :: R.drop (b + 1) := by
    conv => lhs; rw [e1]
    rw [List.set_append_right _ _ (by rw [List.length_take]; omega)]
    have : b - (R.take b).length = 0 := by rw [List.length_take]; omega
    rw [this]
    rfl
  rw [← hx] at hne ⊢
  generalize R.take b = A at *
  generalize R.drop (b + 1) = B at *
  rw [e2]
  subst e1
  have l1 : lefts (A ++ x :: B) = lefts A ++ x :: lefts B := by
    rw [lefts_app]
    congr 1
    unfold lefts
    rw [List.filter_cons_of_pos (by simpa using hne)]
  have l2 : lefts (A ++ x.tail :: B) = lefts A ++ (if x.tail = [] then lefts B else x.tail :: lefts B) := by
    rw [lefts_app]
    congr 1
    unfold lefts
    by_cases ht : x.tail = []
    · rw [if_pos ht, List.filter_cons_of_neg (by simpa using ht)]
    · rw [if_neg ht, List.filter_cons_of_pos (by simpa using ht)]
  rw [l1, l2]
  have hgd : (lefts A ++ x :: lefts B).getD (lefts A).length [] = x := by
    rw [getD_at _ _ (by simp)]
    simp
  unfold cutAt
  rw [hgd]
  by_cases ht : x.tail = []
  · rw [if_pos ht, if_pos ht, List.eraseIdx_append_of_length_le (Nat.le_refl _), Nat.sub_self]
    rfl
  · rw [if_neg ht, if_neg ht]
    simp
/-- Nobody's first entry stands ahead of the foremost one's. -/
theorem foreN_best (l : List (List Ent)) : ∀ n j, j < n → Mm.ahead (hdAt l j) (hdAt l (foreN l n)) = false
  | 0, j, h => by omega
  | n + 1, j, h => by
    rw [foreN]
    by_cases ha : Mm.ahead (hdAt l n) (hdAt l (foreN l n)) = true
    · rw [if_pos ha]
      by_cases e : j = n
      · rw [e]
        exact Mm.ahead_irrefl _
      · have ih := foreN_best l n j (by omega)
        cases hj : Mm.ahead (hdAt l j) (hdAt l n)
        · rfl
        · rw [Mm.ahead_trans hj ha] at ih
          cases ih
    · rw [if_neg ha]
      by_cases e : j = n
      · rw [e]
        simpa using ha
      · exact foreN_best l n j (by omega)
/-- No entry that is left stands ahead of the last one that came out. -/
def Behind (R : List (List Ent)) (out : List Ent) : Prop := ∀ o y, out = o ++ [y] → ∀ x ∈ R, ∀ e t, x = e :: t → Mm.ahead e y = false
theorem behind_nil (R : List (List Ent)) : Behind R [] := fun o y h => by simp at h
/-- So an entry that may not follow is there already. -/
theorem follow_there {R : List (List Ent)} {o : List Ent} {y e : Ent} {x t : List Ent} (h : Behind R (o ++ [y])) (hx : x ∈ R) (he : x = e :: t) : mayFollow (o ++ [y]) e = !(decide (y.key = e.key) && decide (y.seq = e.seq)) := by
  have h1 := h o y rfl x hx e t he
  rw [follow_snoc]
  cases h2 : Mm.ahead y e
  · obtain ⟨h3, h4⟩ := Mm.ahead_total h2 h1
    simp [h3, h4]
  · symm
    rw [Bool.not_eq_true', Bool.and_eq_false_iff]
    by_cases h3 : y.key = e.key
    · right
      rw [decide_eq_false]
      intro h4
      have : Mm.ahead y e = false := by
        unfold Mm.ahead
        simp [h3, h4]
      rw [h2] at this
      cases this
    · left
      rw [decide_eq_false h3]
theorem behind_step {R : List (List Ent)} {b : Nat} {e : Ent} {t : List Ent} (hb : b < R.length) (hx : R[b] = e :: t) (he : e = hdAt (lefts R) (fore (lefts R))) (ho : inOrd R[b] = true) (out : List Ent) : Behind (R.set b t) (out ++ [e]) := by
  intro o y hy x hmem e' t' hxe
  have hye : y = e := by
    have := congrArg List.getLast? hy
    simp at this
    exact this.symm
  subst hye
  rcases List.mem_or_eq_of_mem_set hmem with hR | hT
  · have hl : x ∈ lefts R := by
      unfold lefts
      rw [List.mem_filter]
      exact ⟨hR, by rw [hxe]; simp⟩
    obtain ⟨j, hj, hxj⟩ := List.getElem_of_mem hl
    have hh : hdAt (lefts R) j = e' := by
      unfold hdAt
      rw [getD_at _ j hj, hxj, hxe]
      rfl
    have := foreN_best (lefts R) (lefts R).length j hj
    rw [hh] at this
    rw [he]
    exact this
  · rw [hT] at hxe
    rw [hx, hxe, inOrd, Bool.and_eq_true] at ho
    exact Mm.ahead_asym ho.1
theorem inOrd_tail {e : Ent} {t : List Ent} (h : inOrd (e :: t) = true) : inOrd t = true := by
  cases t with
  | nil => rfl
  | cons a r =>
    rw [inOrd, Bool.and_eq_true] at h
    exact h.2
end Bk
end Go.Proofs.Ytbdgdigpnfpnhaa
