/-
  How the document reads a block: number after number, and at the end the bytes must be those that it would write (plain).
-/
import Derived.Test.YtanhmebjfockjaaBkP
namespace Go.Proofs.Ytanhmebjfockjaa
open Go.RowKit
namespace Bk
open Enc Mm

/-- What is left of the bytes behind each part of an entry, whose key follows the key a. -/
def q1 (a s : Bs) : Bs := s.drop (smN s a.length).toNat
def qm (a s : Bs) : Nat := (smX (q1 a s) 512).toNat
def q2 (a s : Bs) : Bs := (q1 a s).drop (smN (q1 a s) 512).toNat
def q3 (a s : Bs) : Bs := (q2 a s).drop (qm a s)
def q4 (a s : Bs) : Bs := (q3 a s).drop (smN (q3 a s) 1073741824).toNat
def q5 (a s : Bs) : Bs := (q4 a s).drop 1
def qv (a s : Bs) : Nat := (smX (q5 a s) 4096).toNat
def q6 (a s : Bs) : Bs := (q5 a s).drop (smN (q5 a s) 4096).toNat
def q7 (a s : Bs) : Bs := (q6 a s).drop (qv a s)
def qk (a s : Bs) : Bs := a.take (smX s a.length).toNat ++ (q2 a s).take (qm a s)
def qx (a s : Bs) (d : Bool) : Ent := ⟨qk a s, if d then [] else (q6 a s).take (qv a s), smX (q3 a s) 1073741824, d⟩
/-- An entry and what is left behind it, if there is one. -/
def pe (a s : Bs) : Option (Ent × Bs) :=
  if smE s a.length = 0 ∧ smE (q1 a s) 512 = 0 ∧ qm a s ≤ (q2 a s).length ∧ smE (q3 a s) 1073741824 = 0 then
    if (q4 a s).head? = some 1 then some (qx a s true, q5 a s)
    else if (q4 a s).head? = some 0 ∧ smE (q5 a s) 4096 = 0 ∧ qv a s ≤ (q6 a s).length then some (qx a s false, q7 a s)
    else none
  else none
/-- So many entries. -/
def pents : Nat → Bs → Bs → Option (List Ent × Bs)
  | 0, _, s => some ([], s)
  | k + 1, a, s => match pe a s with
    | none => none
    | some (e, r) => match pents k e.key r with
      | none => none
      | some (l, t) => some (e :: l, t)

theorem pe_back (p : Nat) (a : Bs) (e : Ent) (h : may e = true) (ha : a.length < 9223372036854775808) (r : Bs) : pe a (entB p a e ++ r) = some (e, r) := by
  obtain ⟨h1, h2, h3, h4, h5, h6⟩ := may_parts h
  obtain ⟨g1, g2, g3⟩ := shr_le p a e.key
  obtain ⟨S, hS⟩ : ∃ S, S = entB p a e ++ r := ⟨_, rfl⟩
  have e0 : S = leb (shr p a e.key) ++ (leb (e.key.drop (shr p a e.key)).length ++ (e.key.drop (shr p a e.key) ++ (leb e.seq.toNat ++ ((if e.del then [1] else 0 :: text e.value) ++ r)))) := by rw [hS]; unfold entB text; simp
  rw [← hS]
  clear hS
  generalize shr p a e.key = sh at *
  have hd : (e.key.drop sh).length ≤ 512 := by rw [List.length_drop]; omega
  obtain ⟨x1, n1, m1⟩ := sm_back sh (leb (e.key.drop sh).length ++ (e.key.drop sh ++ (leb e.seq.toNat ++ ((if e.del then [1] else 0 :: text e.value) ++ r)))) a.length ha g1
  rw [← e0] at x1 n1 m1
  have f1 : q1 a S = leb (e.key.drop sh).length ++ (e.key.drop sh ++ (leb e.seq.toNat ++ ((if e.del then [1] else 0 :: text e.value) ++ r))) := by
    unfold q1
    rw [n1, Int.toNat_natCast, e0]
    exact List.drop_left
  obtain ⟨x2, n2, m2⟩ := sm_back (e.key.drop sh).length (e.key.drop sh ++ (leb e.seq.toNat ++ ((if e.del then [1] else 0 :: text e.value) ++ r))) 512 (by decide) hd
  rw [← f1] at x2 n2 m2
  have f2 : q2 a S = e.key.drop sh ++ (leb e.seq.toNat ++ ((if e.del then [1] else 0 :: text e.value) ++ r)) := by
    unfold q2
    rw [show ((512 : Nat) : Int) = 512 from rfl] at n2
    rw [n2, Int.toNat_natCast, f1]
    exact List.drop_left
  have fm : qm a S = (e.key.drop sh).length := by
    unfold qm
    rw [show ((512 : Nat) : Int) = 512 from rfl] at x2
    rw [x2, Int.toNat_natCast]
  have f3 : q3 a S = leb e.seq.toNat ++ ((if e.del then [1] else 0 :: text e.value) ++ r) := by
    unfold q3
    rw [fm, f2]
    exact List.drop_left
  obtain ⟨x3, n3, m3⟩ := sm_back e.seq.toNat ((if e.del then [1] else 0 :: text e.value) ++ r) 1073741824 (by decide) (by omega)
  rw [← f3] at x3 n3 m3
  have f4 : q4 a S = (if e.del then [1] else 0 :: text e.value) ++ r := by
    unfold q4
    rw [show ((1073741824 : Nat) : Int) = 1073741824 from rfl] at n3
    rw [n3, Int.toNat_natCast, f3]
    exact List.drop_left
  have fk : qk a S = e.key := by
    unfold qk
    rw [x1, fm, f2, Int.toNat_natCast, g3, List.take_left, List.take_append_drop]
  have hc : smE S a.length = 0 ∧ smE (q1 a S) 512 = 0 ∧ qm a S ≤ (q2 a S).length ∧ smE (q3 a S) 1073741824 = 0 := ⟨m1, m2, by rw [fm, f2, List.length_append]; omega, m3⟩
  have hq : (e.seq.toNat : Int) = e.seq := by omega
  have x3' : smX (q3 a S) 1073741824 = e.seq := by
    rw [show ((1073741824 : Nat) : Int) = 1073741824 from rfl] at x3
    rw [x3, hq]
  unfold pe
  rw [if_pos hc]
  obtain ⟨ek, ev, es, ed⟩ := e
  simp only at h5 h6 f4 fk x3'
  cases ed with
  | true =>
    have hv := h6 rfl
    subst hv
    have f5 : q5 a S = r := by unfold q5; rw [f4]; rfl
    rw [if_pos (by rw [f4]; rfl), f5]
    unfold qx
    rw [fk, x3']
    rfl
  | false =>
    have f5 : q5 a S = leb ev.length ++ (ev ++ r) := by unfold q5; rw [f4]; unfold text; simp
    obtain ⟨x5, n5, m5⟩ := sm_back ev.length (ev ++ r) 4096 (by decide) h5
    rw [← f5] at x5 n5 m5
    rw [show ((4096 : Nat) : Int) = 4096 from rfl] at x5 n5 m5
    have fv : qv a S = ev.length := by unfold qv; rw [x5, Int.toNat_natCast]
    have f6 : q6 a S = ev ++ r := by
      unfold q6
      rw [n5, Int.toNat_natCast, f5]
      exact List.drop_left
    have f7 : q7 a S = r := by unfold q7; rw [fv, f6]; exact List.drop_left
    rw [if_neg (by rw [f4]; simp), if_pos ⟨by rw [f4]; rfl, m5, by rw [fv, f6, List.length_append]; omega⟩, f7]
    unfold qx
    rw [fk, x3', f6, fv, List.take_left]
    rfl

theorem pents_back (l : List Ent) (h : l.all may = true) (r : Bs) : ∀ (p : Nat) (a : Bs), a.length < 9223372036854775808 → pents l.length a (encF p a l ++ r) = some (l, r) := by
  induction l with
  | nil => intro p a _; rfl
  | cons x l ih =>
    intro p a ha
    rw [List.all_cons, Bool.and_eq_true] at h
    obtain ⟨_, _, _, hk, _⟩ := may_parts h.1
    have i1 := ih h.2 (p + 1) x.key (by omega)
    have w1 := pe_back p a x h.1 ha (encF (p + 1) x.key l ++ r)
    rw [encF, List.append_assoc, List.length_cons, pents, w1]
    simp only [i1]
/-- One entry more. -/
theorem pents_more : ∀ (k : Nat) (a s : Bs) (l : List Ent) (t : Bs), pents k a s = some (l, t) → pents (k + 1) a s = match pe (lastK a l) t with
    | none => none
    | some (e, r) => some (l ++ [e], r)
  | 0, a, s, l, t, h => by
    have e1 : ([], s) = (l, t) := Option.some.inj h
    obtain ⟨rfl, rfl⟩ := Prod.mk.inj e1
    show pents 1 a s = match pe a s with
      | none => none
      | some (e, r) => some ([e], r)
    rw [pents]
    cases pe a s with
    | none => rfl
    | some x => rfl
  | k + 1, a, s, l, t, h => by
    rw [pents] at h ⊢
    cases hp : pe a s with
    | none => rw [hp] at h; cases h
    | some x =>
      obtain ⟨e, r⟩ := x
      rw [hp] at h
      simp only at h ⊢
      cases hq : pents k e.key r with
      | none => rw [hq] at h; cases h
      | some y =>
        obtain ⟨l', t'⟩ := y
        rw [hq] at h
        simp only [Option.some.injEq, Prod.mk.injEq] at h
        obtain ⟨rfl, rfl⟩ := h
        have ih := pents_more k e.key r l' t' hq
        rw [ih]
        show (match (match pe (lastK e.key l') t' with
          | none => none
          | some (e, r) => some (l' ++ [e], r)) with
          | none => none
          | some (l, t) => some (e :: l, t)) = match pe (lastK e.key l') t' with
          | none => none
          | some (e1, r) => some (e :: l' ++ [e1], r)
        cases pe (lastK e.key l') t' with
        | none => rfl
        | some x => rfl
theorem pents_less : ∀ (k d : Nat) (a s : Bs), pents k a s = none → pents (k + d) a s = none
  | 0, d, a, s, h => by cases h
  | k + 1, d, a, s, h => by
    rw [show k + 1 + d = k + d + 1 by omega]
    rw [pents] at h ⊢
    cases hp : pe a s with
    | none => rfl
    | some x =>
      obtain ⟨e, r⟩ := x
      rw [hp] at h
      simp only at h ⊢
      cases hq : pents k e.key r with
      | none => rw [pents_less k d e.key r hq]
      | some y => rw [hq] at h; cases h
theorem pents_len : ∀ (k : Nat) (a s : Bs) (l : List Ent) (t : Bs), pents k a s = some (l, t) → l.length = k
  | 0, a, s, l, t, h => by
    have e1 : ([], s) = (l, t) := Option.some.inj h
    obtain ⟨rfl, rfl⟩ := Prod.mk.inj e1
    rfl
  | k + 1, a, s, l, t, h => by
    rw [pents] at h
    cases hp : pe a s with
    | none => rw [hp] at h; cases h
    | some x =>
      obtain ⟨e, r⟩ := x
      rw [hp] at h
      simp only at h
      cases hq : pents k e.key r with
      | none => rw [hq] at h; cases h
      | some y =>
        obtain ⟨l', t'⟩ := y
        rw [hq] at h
        simp only [Option.some.injEq, Prod.mk.injEq] at h
        obtain ⟨rfl, rfl⟩ := h
        rw [List.length_cons, pents_len k _ _ _ _ hq]
/-- A block's bytes, as the document reads them. -/
theorem pdec_good (b : Bs) (h : dGood b = true) : smE b 64 = 0 ∧ smX b 64 = ((dEnts b).length : Int) ∧ pents (dEnts b).length [] (b.drop (smN b 64).toNat) = some (dEnts b, []) := by
  obtain ⟨hc, hb⟩ := enc_back b h
  obtain ⟨k1, k2, k3, k4⟩ := checkE_ok hc
  have e1 : b = leb (dEnts b).length ++ (encF 0 [] (dEnts b) ++ []) := by
    have : blockB (dEnts b) = leb (dEnts b).length ++ (encF 0 [] (dEnts b) ++ []) := by unfold blockB; simp
    rw [← this, hb]
  obtain ⟨x1, n1, m1⟩ := sm_back (dEnts b).length (encF 0 [] (dEnts b) ++ []) 64 (by decide) k2
  rw [← e1] at x1 n1 m1
  refine ⟨m1, x1, ?_⟩
  rw [show ((64 : Nat) : Int) = 64 from rfl] at n1
  have f1 : b.drop (smN b 64).toNat = encF 0 [] (dEnts b) ++ [] := by
    rw [n1, Int.toNat_natCast]
    have h2 : b.drop (leb (dEnts b).length).length = (leb (dEnts b).length ++ (encF 0 [] (dEnts b) ++ [])).drop (leb (dEnts b).length).length := by rw [← e1]
    rw [h2]
    exact List.drop_left
  rw [f1]
  exact pents_back (dEnts b) k3 [] 0 [] (by decide)
/-- Bytes that are no block are what no list is written as. -/
theorem pdec_bad (b : Bs) (h : dGood b = false) (l : List Ent) (hc : checkE l = 0) : blockB l ≠ b := fun e => by
  have := (dec_back l hc).2
  rw [e, h] at this
  cases this
end Bk
end Go.Proofs.Ytanhmebjfockjaa
