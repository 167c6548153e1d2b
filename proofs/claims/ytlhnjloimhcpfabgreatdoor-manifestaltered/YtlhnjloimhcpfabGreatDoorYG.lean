/-
  How a manifest's reader takes an edit's bytes to pieces: plain. .. and what follows from it.
-/
import Derived.Test.YtlhnjloimhcpfabGreatDoorWlP
import Derived.Test.YtlhnjloimhcpfabGreatDoorYPR
namespace Go.Proofs.YtlhnjloimhcpfabGreatDoor
namespace Mf
open Wl (Rd rnum rnumX rtext rtextX)
def w1 (s : Rd) : Rd := rnum s 999999
def w2 (s : Rd) : Rd := rnum (w1 s) 6
def w3 (s : Rd) : Rd := rnum (w2 s) 65536
def w4 (s : Rd) : Rd := rtext (w3 s) 512
/-- Behind a table's words. -/
def wordsR (s : Rd) : Rd := rtext (w4 s) 512
def wordsX (s : Rd) : Mt := ⟨(rnumX s 999999 : Nat), (rnumX (w1 s) 6 : Nat), (rnumX (w2 s) 65536 : Nat), rtextX (w3 s) 512, rtextX (w4 s) 512⟩
/-- So many numbers of dropped tables, and what is behind them. -/
def dropsR : Nat → Rd → Rd
  | 0, s => s
  | n + 1, s => dropsR n (rnum s 999999)
def dropsX : Nat → Rd → List Int
  | 0, _ => []
  | n + 1, s => (rnumX s 999999 : Int) :: dropsX n (rnum s 999999)
def addsR : Nat → Rd → Rd
  | 0, s => s
  | n + 1, s => addsR n (wordsR s)
def addsX : Nat → Rd → List Mt
  | 0, _ => []
  | n + 1, s => wordsX s :: addsX n (wordsR s)
theorem dropsR_succ (n : Nat) (s : Rd) : dropsR (n + 1) s = rnum (dropsR n s) 999999 := by
  induction n generalizing s with
  | zero => rfl
  | succ n ih => exact ih (rnum s 999999)
theorem dropsX_succ (n : Nat) (s : Rd) : dropsX (n + 1) s = dropsX n s ++ [(rnumX (dropsR n s) 999999 : Int)] := by
  induction n generalizing s with
  | zero => rfl
  | succ n ih =>
    have h := ih (rnum s 999999)
    show (rnumX s 999999 : Int) :: dropsX (n + 1) (rnum s 999999) = (rnumX s 999999 : Int) :: dropsX n (rnum s 999999) ++ _
    rw [h]
    rfl
theorem addsR_succ (n : Nat) (s : Rd) : addsR (n + 1) s = wordsR (addsR n s) := by
  induction n generalizing s with
  | zero => rfl
  | succ n ih => exact ih (wordsR s)
theorem addsX_succ (n : Nat) (s : Rd) : addsX (n + 1) s = addsX n s ++ [wordsX (addsR n s)] := by
  induction n generalizing s with
  | zero => rfl
  | succ n ih =>
    have h := ih (wordsR s)
    show wordsX s :: addsX (n + 1) (wordsR s) = wordsX s :: addsX n (wordsR s) ++ _
    rw [h]
    rfl
theorem dropsX_length (n : Nat) (s : Rd) : (dropsX n s).length = n := by
  induction n generalizing s with
  | zero => rfl
  | succ n ih => show (dropsX n _).length + 1 = n + 1; rw [ih]
theorem addsX_length (n : Nat) (s : Rd) : (addsX n s).length = n := by
  induction n generalizing s with
  | zero => rfl
  | succ n ih => show (addsX n _).length + 1 = n + 1; rw [ih]
/-- The readers of a decoding, in their order. -/
def d1 (b : Bs) : Rd := rnum ⟨b, false⟩ 1024
def dN (b : Bs) : Nat := rnumX ⟨b, false⟩ 1024
def d2 (b : Bs) : Rd := dropsR (dN b) (d1 b)
def d3 (b : Bs) : Rd := rnum (d2 b) 1024
def dM (b : Bs) : Nat := rnumX (d2 b) 1024
def d4 (b : Bs) : Rd := addsR (dM b) (d3 b)
def d5 (b : Bs) : Rd := rnum (d4 b) 999999
def d6 (b : Bs) : Rd := rnum (d5 b) 1073741824
def d7 (b : Bs) : Rd := rnum (d6 b) 999999
/-- What the bytes would be, if they are an edit's. -/
def decX (b : Bs) : Ed := ⟨dropsX (dN b) (d1 b), addsX (dM b) (d3 b), (rnumX (d4 b) 999999 : Nat), (rnumX (d5 b) 1073741824 : Nat), (rnumX (d6 b) 999999 : Nat)⟩
def decOk (b : Bs) : Bool := !(d7 b).bad && (d7 b).rest.isEmpty && bounds (decX b)
end Mf
end Go.Proofs.YtlhnjloimhcpfabGreatDoor
namespace Go.Proofs.YtlhnjloimhcpfabGreatDoor
namespace Mf
open Wl (Rd rnum rnumX rtext rtextX)
theorem num_back (x : Int) (r : Bs) (b : Bool) (most : Nat) (hm : most < 9223372036854775808) (h0 : 0 ≤ x) (h : x ≤ most) : (rnumX ⟨Enc.leb x.toNat ++ r, b⟩ most : Int) = x ∧ rnum ⟨Enc.leb x.toNat ++ r, b⟩ most = ⟨r, b⟩ := by
  obtain ⟨h1, h2⟩ := Wl.rnum_back x.toNat r b most hm (by omega)
  exact ⟨by rw [h1]; omega, h2⟩
theorem text_back (s r : Bs) (b : Bool) (h : s.length ≤ 512) : rtextX ⟨text s ++ r, b⟩ 512 = s ∧ rtext ⟨text s ++ r, b⟩ 512 = ⟨r, b⟩ := Wl.rtext_back s r b 512 (by decide) h
theorem words_back (x : Mt) (h : words x = true) (r : Bs) (b : Bool) : wordsX ⟨mtB x ++ r, b⟩ = x ∧ wordsR ⟨mtB x ++ r, b⟩ = ⟨r, b⟩ := by
  obtain ⟨n, l, c, f, la⟩ := x
  have hb : (0 ≤ n ∧ n ≤ 999999) ∧ (0 ≤ l ∧ l ≤ 6) ∧ (0 ≤ c ∧ c ≤ 65536) ∧ f.length ≤ 512 ∧ la.length ≤ 512 := by
    simp [words, inB] at h
    omega
  obtain ⟨⟨n0, n1⟩, ⟨l0, l1⟩, ⟨c0, c1⟩, f1, a1⟩ := hb
  have e0 : mtB ⟨n, l, c, f, la⟩ ++ r = Enc.leb n.toNat ++ (Enc.leb l.toNat ++ (Enc.leb c.toNat ++ (text f ++ (text la ++ r)))) := by simp [mtB, lebs]
  rw [e0]
  obtain ⟨x1, y1⟩ := num_back n (Enc.leb l.toNat ++ (Enc.leb c.toNat ++ (text f ++ (text la ++ r)))) b 999999 (by decide) n0 (by omega)
  obtain ⟨x2, y2⟩ := num_back l (Enc.leb c.toNat ++ (text f ++ (text la ++ r))) b 6 (by decide) l0 (by omega)
  obtain ⟨x3, y3⟩ := num_back c (text f ++ (text la ++ r)) b 65536 (by decide) c0 (by omega)
  obtain ⟨x4, y4⟩ := text_back f (text la ++ r) b f1
  obtain ⟨x5, y5⟩ := text_back la r b a1
  unfold wordsX wordsR w4 w3 w2 w1
  rw [y1, y2, y3, y4, y5, x1, x2, x3, x4, x5]
  exact ⟨rfl, rfl⟩
theorem drops_back (l : List Int) (h : ∀ x ∈ l, 0 ≤ x ∧ x ≤ 999999) (r : Bs) (b : Bool) : dropsX l.length ⟨lebs l ++ r, b⟩ = l ∧ dropsR l.length ⟨lebs l ++ r, b⟩ = ⟨r, b⟩ := by
  induction l with
  | nil => exact ⟨rfl, rfl⟩
  | cons x l ih =>
    obtain ⟨a1, a2⟩ := ih (fun y hy => h y (List.mem_cons_of_mem _ hy))
    obtain ⟨h0, h1⟩ := h x (List.mem_cons_self ..)
    obtain ⟨x1, y1⟩ := num_back x (lebs l ++ r) b 999999 (by decide) h0 (by omega)
    have e0 : lebs (x :: l) ++ r = Enc.leb x.toNat ++ (lebs l ++ r) := by simp [lebs]
    rw [e0, List.length_cons]
    unfold dropsX dropsR
    rw [y1, x1, a1, a2]
    exact ⟨rfl, rfl⟩
theorem adds_back (l : List Mt) (h : ∀ x ∈ l, words x = true) (r : Bs) (b : Bool) : addsX l.length ⟨l.flatMap mtB ++ r, b⟩ = l ∧ addsR l.length ⟨l.flatMap mtB ++ r, b⟩ = ⟨r, b⟩ := by
  induction l with
  | nil => exact ⟨rfl, rfl⟩
  | cons x l ih =>
    obtain ⟨a1, a2⟩ := ih (fun y hy => h y (List.mem_cons_of_mem _ hy))
    obtain ⟨x1, y1⟩ := words_back x (h x (List.mem_cons_self ..)) (l.flatMap mtB ++ r) b
    have e0 : (x :: l).flatMap mtB ++ r = mtB x ++ (l.flatMap mtB ++ r) := by simp
    rw [e0, List.length_cons]
    unfold addsX addsR
    rw [y1, x1, a1, a2]
    exact ⟨rfl, rfl⟩
theorem dec_back (e : Ed) (h : encE e = 0) : decX (recB e) = e ∧ decOk (recB e) = true := by
  obtain ⟨ds, as', lo, se, ne⟩ := e
  have hb : ds.length ≤ 1024 ∧ as'.length ≤ 1024 ∧ bounds ⟨ds, as', lo, se, ne⟩ = true := by
    unfold encE at h
    split at h
    · cases h
    · split at h
      · refine ⟨?_, ?_, ?_⟩
        · rename_i k _; simp only at k; omega
        · rename_i k _; simp only at k; omega
        · assumption
      · cases h
  obtain ⟨d1', a1', hbo⟩ := hb
  have hbb := hbo
  unfold bounds at hbb
  simp only [Bool.and_eq_true, List.all_eq_true] at hbb
  obtain ⟨⟨hd, ha⟩, hn⟩ := hbb
  have hd' : ∀ x ∈ ds, 0 ≤ x ∧ x ≤ 999999 := fun x hx => by have := hd x hx; simp [inB] at this; omega
  have hn' : (0 ≤ lo ∧ lo ≤ 999999) ∧ (0 ≤ se ∧ se ≤ 1073741824) ∧ (0 ≤ ne ∧ ne ≤ 999999) := by simp [nums, inB] at hn; omega
  obtain ⟨⟨lo0, lo1⟩, ⟨se0, se1⟩, ⟨ne0, ne1⟩⟩ := hn'
  have e0 : recB ⟨ds, as', lo, se, ne⟩ = Enc.leb (ds.length : Int).toNat ++ (lebs ds ++ (Enc.leb (as'.length : Int).toNat ++ (as'.flatMap mtB ++ (Enc.leb lo.toNat ++ (Enc.leb se.toNat ++ (Enc.leb ne.toNat ++ [])))))) := by simp [recB, lebs]
  obtain ⟨x1, y1⟩ := num_back (ds.length : Int) (lebs ds ++ (Enc.leb (as'.length : Int).toNat ++ (as'.flatMap mtB ++ (Enc.leb lo.toNat ++ (Enc.leb se.toNat ++ (Enc.leb ne.toNat ++ [])))))) false 1024 (by decide) (by omega) (by omega)
  obtain ⟨x2, y2⟩ := drops_back ds hd' (Enc.leb (as'.length : Int).toNat ++ (as'.flatMap mtB ++ (Enc.leb lo.toNat ++ (Enc.leb se.toNat ++ (Enc.leb ne.toNat ++ []))))) false
  obtain ⟨x3, y3⟩ := num_back (as'.length : Int) (as'.flatMap mtB ++ (Enc.leb lo.toNat ++ (Enc.leb se.toNat ++ (Enc.leb ne.toNat ++ [])))) false 1024 (by decide) (by omega) (by omega)
  obtain ⟨x4, y4⟩ := adds_back as' ha (Enc.leb lo.toNat ++ (Enc.leb se.toNat ++ (Enc.leb ne.toNat ++ []))) false
  obtain ⟨x5, y5⟩ := num_back lo (Enc.leb se.toNat ++ (Enc.leb ne.toNat ++ [])) false 999999 (by decide) lo0 (by omega)
  obtain ⟨x6, y6⟩ := num_back se (Enc.leb ne.toNat ++ []) false 1073741824 (by decide) se0 (by omega)
  obtain ⟨x7, y7⟩ := num_back ne [] false 999999 (by decide) ne0 (by omega)
  have z1 : rnumX ⟨recB ⟨ds, as', lo, se, ne⟩, false⟩ 1024 = ds.length := by rw [e0]; omega
  have q1 : d1 (recB ⟨ds, as', lo, se, ne⟩) = ⟨lebs ds ++ (Enc.leb (as'.length : Int).toNat ++ (as'.flatMap mtB ++ (Enc.leb lo.toNat ++ (Enc.leb se.toNat ++ (Enc.leb ne.toNat ++ []))))), false⟩ := by unfold d1; rw [e0]; exact y1
  have q2 : dN (recB ⟨ds, as', lo, se, ne⟩) = ds.length := z1
  have q3 : d2 (recB ⟨ds, as', lo, se, ne⟩) = ⟨Enc.leb (as'.length : Int).toNat ++ (as'.flatMap mtB ++ (Enc.leb lo.toNat ++ (Enc.leb se.toNat ++ (Enc.leb ne.toNat ++ [])))), false⟩ := by unfold d2; rw [q1, q2]; exact y2
  have q4 : d3 (recB ⟨ds, as', lo, se, ne⟩) = ⟨as'.flatMap mtB ++ (Enc.leb lo.toNat ++ (Enc.leb se.toNat ++ (Enc.leb ne.toNat ++ []))), false⟩ := by unfold d3; rw [q3]; exact y3
  have q5 : dM (recB ⟨ds, as', lo, se, ne⟩) = as'.length := by unfold dM; rw [q3]; omega
  have q6 : d4 (recB ⟨ds, as', lo, se, ne⟩) = ⟨Enc.leb lo.toNat ++ (Enc.leb se.toNat ++ (Enc.leb ne.toNat ++ [])), false⟩ := by unfold d4; rw [q4, q5]; exact y4
  have q7 : d5 (recB ⟨ds, as', lo, se, ne⟩) = ⟨Enc.leb se.toNat ++ (Enc.leb ne.toNat ++ []), false⟩ := by unfold d5; rw [q6]; exact y5
  have q8 : d6 (recB ⟨ds, as', lo, se, ne⟩) = ⟨Enc.leb ne.toNat ++ [], false⟩ := by unfold d6; rw [q7]; exact y6
  have q9 : d7 (recB ⟨ds, as', lo, se, ne⟩) = ⟨[], false⟩ := by unfold d7; rw [q8]; exact y7
  have hx : decX (recB ⟨ds, as', lo, se, ne⟩) = ⟨ds, as', lo, se, ne⟩ := by
    unfold decX
    rw [q2, q1, q5, q4, q6, q7, q8, x2, x4, x5, x6, x7]
  refine ⟨hx, ?_⟩
  unfold decOk
  rw [hx, q9, hbo]
  rfl
end Mf
end Go.Proofs.YtlhnjloimhcpfabGreatDoor
namespace Go.Proofs.YtlhnjloimhcpfabGreatDoor
namespace Mf
open Wl (Rd rnum rnumX rtext rtextX)
theorem rnum_made (s : Rd) (most : Nat) (h : (rnum s most).bad = false) : s.bad = false ∧ s.rest = Enc.leb (rnumX s most) ++ (rnum s most).rest := by
  by_cases hE : Enc.smE s.rest most = 0
  · have hcd : (Enc.rd s.rest).2.2 = 0 ∧ (0 : Int) ≤ most ∧ ((Enc.rd s.rest).1 : Int) ≤ most := by
      unfold Enc.smE at hE
      split at hE
      · assumption
      · cases hE
    have hX : Enc.smX s.rest most = ((Enc.rd s.rest).1 : Int) := if_pos hcd
    have hN : Enc.smN s.rest most = ((Enc.rd s.rest).2.1 : Int) := if_pos hcd
    have hmd := Enc.rd_made s.rest hcd.1
    have e1 : rnum s most = ⟨s.rest.drop (Enc.rd s.rest).2.1, s.bad⟩ := by unfold rnum; rw [if_pos hE, hN]; rfl
    have e2 : rnumX s most = (Enc.rd s.rest).1 := by unfold rnumX; rw [hX]; rfl
    rw [e1] at h ⊢
    rw [e2]
    refine ⟨h, ?_⟩
    rw [← hmd.1]
    exact (List.take_append_drop _ _).symm
  · have e1 : rnum s most = ⟨[], true⟩ := if_neg hE
    rw [e1] at h
    cases h
theorem rtext_made (s : Rd) (h : (rtext s 512).bad = false) : s.bad = false ∧ s.rest = text (rtextX s 512) ++ (rtext s 512).rest := by
  obtain ⟨n, hn⟩ : ∃ n, n = rnumX s 512 := ⟨_, rfl⟩
  obtain ⟨t, ht⟩ : ∃ t, t = rnum s 512 := ⟨_, rfl⟩
  have hx : rtextX s 512 = if n > t.rest.length then [] else t.rest.take n := by unfold rtextX; rw [← hn, ← ht]
  have hr : rtext s 512 = if n > t.rest.length then ⟨[], true⟩ else ⟨t.rest.drop n, t.bad⟩ := by unfold rtext; rw [← hn, ← ht]
  by_cases hlt : n > t.rest.length
  · rw [hr, if_pos hlt] at h
    cases h
  · rw [if_neg hlt] at hx hr
    rw [hr] at h ⊢
    rw [hx]
    have hm := rnum_made s 512 (by rw [← ht]; exact h)
    rw [← ht, ← hn] at hm
    refine ⟨hm.1, ?_⟩
    have hl : (t.rest.take n).length = n := by rw [List.length_take]; omega
    unfold text
    rw [hl, List.append_assoc, List.take_append_drop]
    exact hm.2
theorem words_made (s : Rd) (h : (wordsR s).bad = false) : s.bad = false ∧ s.rest = mtB (wordsX s) ++ (wordsR s).rest := by
  have h5 := rtext_made (w4 s) h
  have h4 := rtext_made (w3 s) h5.1
  have h3 := rnum_made (w2 s) 65536 h4.1
  have h2 := rnum_made (w1 s) 6 h3.1
  have h1 := rnum_made s 999999 h2.1
  refine ⟨h1.1, ?_⟩
  have e : mtB (wordsX s) ++ (wordsR s).rest = Enc.leb (rnumX s 999999) ++ (Enc.leb (rnumX (w1 s) 6) ++ (Enc.leb (rnumX (w2 s) 65536) ++ (text (rtextX (w3 s) 512) ++ (text (rtextX (w4 s) 512) ++ (wordsR s).rest)))) := by
    unfold wordsX mtB
    simp only [lebs, List.flatMap_cons, List.flatMap_nil, Int.toNat_natCast, List.append_assoc, List.append_nil]
  rw [e]
  refine Eq.trans h1.2 ?_
  refine congrArg (Enc.leb (rnumX s 999999) ++ ·) (Eq.trans h2.2 ?_)
  refine congrArg (Enc.leb (rnumX (w1 s) 6) ++ ·) (Eq.trans h3.2 ?_)
  refine congrArg (Enc.leb (rnumX (w2 s) 65536) ++ ·) (Eq.trans h4.2 ?_)
  exact congrArg (text (rtextX (w3 s) 512) ++ ·) h5.2
theorem drops_made (n : Nat) : ∀ s : Rd, (dropsR n s).bad = false → s.bad = false ∧ s.rest = lebs (dropsX n s) ++ (dropsR n s).rest := by
  induction n with
  | zero => intro s h; exact ⟨h, rfl⟩
  | succ n ih =>
    intro s h
    obtain ⟨a, b⟩ := ih (rnum s 999999) h
    obtain ⟨c, d⟩ := rnum_made s 999999 a
    refine ⟨c, d.trans ?_⟩
    show _ = Enc.leb ((rnumX s 999999 : Int)).toNat ++ lebs (dropsX n (rnum s 999999)) ++ (dropsR n (rnum s 999999)).rest
    rw [Int.toNat_natCast, List.append_assoc]
    congr 1
theorem adds_made (n : Nat) : ∀ s : Rd, (addsR n s).bad = false → s.bad = false ∧ s.rest = (addsX n s).flatMap mtB ++ (addsR n s).rest := by
  induction n with
  | zero => intro s h; exact ⟨h, rfl⟩
  | succ n ih =>
    intro s h
    obtain ⟨a, b⟩ := ih (wordsR s) h
    obtain ⟨c, d⟩ := words_made s a
    refine ⟨c, d.trans ?_⟩
    show _ = (wordsX s :: addsX n (wordsR s)).flatMap mtB ++ (addsR n (wordsR s)).rest
    rw [List.flatMap_cons, List.append_assoc]
    congr 1
theorem enc_back (b : Bs) (h : decOk b = true) : recB (decX b) = b ∧ encE (decX b) = 0 := by
  unfold decOk at h
  simp only [Bool.and_eq_true, Bool.not_eq_true', List.isEmpty_iff] at h
  obtain ⟨⟨hb, hr⟩, hbo⟩ := h
  have h7 := rnum_made (d6 b) 999999 hb
  have h6 := rnum_made (d5 b) 1073741824 h7.1
  have h5 := rnum_made (d4 b) 999999 h6.1
  have h4 := adds_made (dM b) (d3 b) h5.1
  have h3 := rnum_made (d2 b) 1024 h4.1
  have h2 := drops_made (dN b) (d1 b) h3.1
  have h1 := rnum_made ⟨b, false⟩ 1024 h2.1
  have hdl : (decX b).drops.length = dN b := dropsX_length _ _
  have hal : (decX b).adds.length = dM b := addsX_length _ _
  have m1 : dN b ≤ 1024 := Wl.rnumX_le _ _
  have m2 : dM b ≤ 1024 := Wl.rnumX_le _ _
  refine ⟨?_, ?_⟩
  · have e : recB (decX b) = Enc.leb (dN b) ++ (lebs (dropsX (dN b) (d1 b)) ++ (Enc.leb (dM b) ++ ((addsX (dM b) (d3 b)).flatMap mtB ++ (Enc.leb (rnumX (d4 b) 999999) ++ (Enc.leb (rnumX (d5 b) 1073741824) ++ (Enc.leb (rnumX (d6 b) 999999) ++ (d7 b).rest)))))) := by
      unfold recB
      rw [hdl, hal, hr]
      unfold decX
      simp only [lebs, List.flatMap_cons, List.flatMap_nil, Int.toNat_natCast, List.append_assoc, List.append_nil]
    rw [e]
    refine Eq.symm (Eq.trans h1.2 ?_)
    refine congrArg (Enc.leb (dN b) ++ ·) (Eq.trans h2.2 ?_)
    refine congrArg (lebs (dropsX (dN b) (d1 b)) ++ ·) (Eq.trans h3.2 ?_)
    refine congrArg (Enc.leb (dM b) ++ ·) (Eq.trans h4.2 ?_)
    refine congrArg ((addsX (dM b) (d3 b)).flatMap mtB ++ ·) (Eq.trans h5.2 ?_)
    refine congrArg (Enc.leb (rnumX (d4 b) 999999) ++ ·) (Eq.trans h6.2 ?_)
    exact congrArg (Enc.leb (rnumX (d5 b) 1073741824) ++ ·) h7.2
  · unfold encE
    rw [if_neg (by rw [hdl, hal]; omega), if_pos hbo]
end Mf
end Go.Proofs.YtlhnjloimhcpfabGreatDoor
