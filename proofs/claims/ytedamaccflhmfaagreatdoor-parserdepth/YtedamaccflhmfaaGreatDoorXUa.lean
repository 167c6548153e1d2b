/-
  Two lists of values held against each other: the call answers whether they are the same, and leaves all that was there as it was. .. and what follows from it.
-/
import Derived.Test.YtedamaccflhmfaaGreatDoorUBase
namespace Go.Proofs.YtedamaccflhmfaaGreatDoor
open Go.RowKit

/-- Two values are the same. -/
def sameV (v u : Val) : Bool := (v.k == u.k) && ((v.n == u.n) && (v.t.toList == u.t.toList))
def sameL : List Val → List Val → Bool
  | [], [] => true
  | v :: a, u :: b => sameV v u && sameL a b
  | _, _ => false

theorem val_eq {v u : Val} (h : sameV v u = true) : v = u := by
  simp only [sameV, Bool.and_eq_true, beq_iff_eq] at h
  obtain ⟨h1, h2, h3⟩ := h
  cases v; cases u
  simp only at h1 h2 h3
  subst h1; subst h2
  congr
  rw [ByteArray.toList_eq, ByteArray.toList_eq] at h3
  rename_i t t'
  cases t; cases t'; congr; simpa [Array.toList_inj] using h3
theorem sameV_refl (v : Val) : sameV v v = true := by simp [sameV]
theorem sameL_iff (a b : List Val) : sameL a b = true ↔ a = b := by
  induction a generalizing b with
  | nil => cases b <;> simp [sameL]
  | cons v a ih =>
    cases b with
    | nil => simp [sameL]
    | cons u b =>
      simp only [sameL, Bool.and_eq_true, ih]
      constructor
      · rintro ⟨h1, h2⟩; rw [val_eq h1, h2]
      · intro h; injection h with h1 h2; subst h1; exact ⟨sameV_refl _, h2⟩

theorem ValsAt.later {w w' : World} {b off : Nat} {vs : List Val} (h : ValsAt w b off vs) (hb : Below w.heap.size w w') : ValsAt w' b off vs := fun j hj => by
  obtain ⟨h0, h1, h2⟩ := h j hj
  exact ⟨(hb.cell (World.block_lt_of_cell? w _ h0)).trans h0, (hb.cell (World.block_lt_of_cell? w _ h1)).trans h1, (hb.cell (World.block_lt_of_cell? w _ h2)).trans h2⟩
theorem ValsIn.later {w w' : World} {v : Value} {vs : List Val} (h : ValsIn w v vs) (hb : Below w.heap.size w w') : ValsIn w' v vs := by
  obtain ⟨⟨a, cap, hv, hf⟩, hwf, hlen⟩ := h
  exact ⟨⟨a, cap, hv, fun h0 => by obtain ⟨b, off, ha, hat⟩ := hf h0; exact ⟨b, off, ha, hat.later hb⟩⟩, hwf, hlen⟩

/-- How two values are alike or not, part by part. -/
theorem parts_of (v u : Val) : (v.k == u.k) = false ∨ ((v.k == u.k) = true ∧ (v.n == u.n) = false) ∨ ((v.k == u.k) = true ∧ (v.n == u.n) = true ∧ (v.t.toList == u.t.toList) = false) ∨ ((v.k == u.k) = true ∧ (v.n == u.n) = true ∧ (v.t.toList == u.t.toList) = true) := by
  cases v.k == u.k <;> cases v.n == u.n <;> cases v.t.toList == u.t.toList <;> simp

end Go.Proofs.YtedamaccflhmfaaGreatDoor
namespace Go.Proofs.YtedamaccflhmfaaGreatDoor
open Go.RowKit

attribute [local go_sem ↓] Go.wp_at_zero Go.wp_at_succ


/-- The order of two numbers, as a number. -/
def cmpI (x y : Int) : Int := if x < y then -1 else if y < x then 1 else 0

/-- The first of three numbers that is not 0. -/
def or3 (a b c : Int) : Int := if a = 0 then (if b = 0 then c else b) else a

/-- The order of two texts, as a number. -/
def cmpS (s t : ByteArray) : Int := if Op.bytesLess s.toList t.toList then -1 else if s.toList == t.toList then 0 else 1

/-- The order of two values. -/
def cmpV (v u : Val) : Int := or3 (cmpI v.k u.k) (cmpI v.n u.n) (cmpS v.t u.t)

/-- The order of two tuples. -/
def cmpL : List Val → List Val → Int
  | [], [] => 0
  | [], _ :: _ => -1
  | _ :: _, [] => 1
  | v :: a, u :: b => if cmpV v u = 0 then cmpL a b else cmpV v u

theorem cmpL_drop (l m : List Val) (j : Nat) (h : j < l.length) (h2 : j < m.length) : cmpL (l.drop j) (m.drop j) = if cmpV l[j] m[j] = 0 then cmpL (l.drop (j + 1)) (m.drop (j + 1)) else cmpV l[j] m[j] := by
  rw [List.drop_eq_getElem_cons h, List.drop_eq_getElem_cons h2, cmpL]

end Go.Proofs.YtedamaccflhmfaaGreatDoor
namespace Go.Proofs.YtedamaccflhmfaaGreatDoor
open Go.RowKit

theorem cmpI_lt (x y : Int) : cmpI x y = -1 ↔ x < y := by unfold cmpI; split <;> simp_all; split <;> omega
theorem cmpI_eq (x y : Int) : cmpI x y = 0 ↔ x = y := by
  unfold cmpI; split
  · constructor <;> intro h <;> omega
  · split <;> constructor <;> intro h <;> omega

/-- What the order of two values may be. -/
theorem cmpV_cases (v u : Val) : cmpV v u = -1 ∨ cmpV v u = 0 ∨ cmpV v u = 1 := by
  unfold cmpV or3 cmpI cmpS
  repeat' split
  all_goals simp_all

theorem may_cases (v : Val) (h : v.may = true) : (v.k = 0 ∧ v.n = 0 ∧ v.t.toList = []) ∨ (v.k = 1 ∧ (v.n = 0 ∨ v.n = 1) ∧ v.t.toList = []) ∨ (v.k = 2 ∧ v.t.toList = []) ∨ (v.k = 3 ∧ v.n = 0 ∧ v.t.size ≤ 64) := by
  simp only [Val.may, mayV, Bool.or_eq_true, Bool.and_eq_true, beq_iff_eq, decide_eq_true_eq, List.isEmpty_iff] at h
  rcases h with ((⟨⟨a, b⟩, c⟩ | ⟨⟨a, b⟩, c⟩) | ⟨a, c⟩) | ⟨⟨a, b⟩, c⟩
  · exact .inl ⟨a, b, c⟩
  · exact .inr (.inl ⟨a, b, c⟩)
  · exact .inr (.inr (.inl ⟨a, c⟩))
  · exact .inr (.inr (.inr ⟨a, b, c⟩))

theorem cmpS_same {s t : ByteArray} (h : s.toList = t.toList) : cmpS s t = 0 := by unfold cmpS; rw [h, bytesLess_irrefl]; simp

theorem cmpL_cases (a b : List Val) : cmpL a b = -1 ∨ cmpL a b = 0 ∨ cmpL a b = 1 := by
  induction a generalizing b with
  | nil => cases b <;> simp [cmpL]
  | cons v a ih =>
    cases b with
    | nil => simp [cmpL]
    | cons u b =>
      rw [cmpL]
      rcases cmpV_cases v u with h | h | h
      · rw [h]; simp
      · rw [h]; simpa using ih b
      · rw [h]; simp

theorem cmpI_neg (x y : Int) : cmpI y x = - cmpI x y := by
  unfold cmpI
  rcases Int.lt_trichotomy x y with h | h | h
  · have : ¬ y < x := by omega
    simp [h, this]
  · subst h; simp
  · have : ¬ x < y := by omega
    simp [h, this]

theorem bl_total (a b : List UInt8) : Op.bytesLess a b = false → (a == b) = false → Op.bytesLess b a = true := by
  induction a generalizing b with
  | nil => cases b <;> simp [Op.bytesLess]
  | cons c a ih =>
    cases b with
    | nil => simp [Op.bytesLess]
    | cons d b =>
      rw [bl_cons, bl_cons, List.cons_beq_cons, u8_eq]
      intro h1 h2
      rw [Bool.or_eq_false_iff] at h1
      obtain ⟨h1, h3⟩ := h1
      have h1' : ¬ c.toNat < d.toNat := by simpa using h1
      by_cases e : c.toNat = d.toNat
      · have h3' : Op.bytesLess a b = false := by simpa [e] using h3
        have h2' : (a == b) = false := by simpa [e] using h2
        simp [e, ih b h3' h2']
      · have : d.toNat < c.toNat := by omega
        simp [this]
theorem bl_asym (a b : List UInt8) : Op.bytesLess a b = true → Op.bytesLess b a = false := by
  induction a generalizing b with
  | nil => cases b <;> simp [Op.bytesLess]
  | cons c a ih =>
    cases b with
    | nil => simp [Op.bytesLess]
    | cons d b =>
      rw [bl_cons, bl_cons]
      intro h
      rw [Bool.or_eq_true] at h
      rcases h with h | h
      · have h1 : c.toNat < d.toNat := by simpa using h
        have h2 : ¬ d.toNat < c.toNat := by omega
        have h3 : ¬ d.toNat = c.toNat := by omega
        simp [h2, h3]
      · rw [Bool.and_eq_true] at h
        have e : c.toNat = d.toNat := by simpa using h.1
        simp [e, ih b h.2]

theorem cmpS_neg (s t : ByteArray) : cmpS t s = - cmpS s t := by
  unfold cmpS
  cases h1 : Op.bytesLess s.toList t.toList
  · cases h2 : s.toList == t.toList
    · have h3 := bl_total _ _ h1 h2
      simp [h3]
    · have e : s.toList = t.toList := by simpa using h2
      rw [e, bytesLess_irrefl]; simp
  · have h3 := bl_asym _ _ h1
    have h4 : (t.toList == s.toList) = false := by
      rw [beq_eq_false_iff_ne]; intro e; rw [e, bytesLess_irrefl] at h1; cases h1
    simp [h3, h4]

theorem cmpV_neg (v u : Val) : cmpV u v = - cmpV v u := by
  unfold cmpV or3
  rw [cmpI_neg v.k u.k, cmpI_neg v.n u.n, cmpS_neg v.t u.t]
  by_cases h1 : cmpI v.k u.k = 0
  · by_cases h2 : cmpI v.n u.n = 0
    · simp [h1, h2]
    · have : ¬ -cmpI v.n u.n = 0 := by omega
      simp [h1, h2]
  · have : ¬ -cmpI v.k u.k = 0 := by omega
    simp [h1]

theorem cmpL_neg (a b : List Val) : cmpL b a = - cmpL a b := by
  induction a generalizing b with
  | nil => cases b <;> simp [cmpL]
  | cons v a ih =>
    cases b with
    | nil => simp [cmpL]
    | cons u b =>
      rw [cmpL, cmpL, cmpV_neg v u, ih b]
      by_cases h : cmpV v u = 0
      · simp [h]
      · have : ¬ - cmpV v u = 0 := by omega
        simp [h]

theorem cmpV_zero {v u : Val} (h : cmpV v u = 0) : v = u := by
  unfold cmpV or3 at h
  by_cases h1 : cmpI v.k u.k = 0
  · rw [if_pos h1] at h
    by_cases h2 : cmpI v.n u.n = 0
    · rw [if_pos h2] at h
      apply val_eq
      have h3 : v.t.toList == u.t.toList := by
        unfold cmpS at h
        cases h4 : Op.bytesLess v.t.toList u.t.toList
        · rw [h4] at h
          cases h5 : v.t.toList == u.t.toList
          · rw [h5] at h; simp at h
          · rfl
        · rw [h4] at h; simp at h
      simp [sameV, (cmpI_eq _ _).mp h1, (cmpI_eq _ _).mp h2, h3]
    · rw [if_neg h2] at h; exact absurd h h2
  · rw [if_neg h1] at h; exact absurd h h1

theorem cmpL_zero (a b : List Val) : cmpL a b = 0 → a = b := by
  induction a generalizing b with
  | nil => cases b <;> simp [cmpL]
  | cons v a ih =>
    cases b with
    | nil => simp [cmpL]
    | cons u b =>
      rw [cmpL]
      by_cases h : cmpV v u = 0
      · rw [if_pos h]; intro h2; rw [cmpV_zero h, ih b h2]
      · rw [if_neg h]; intro h2; exact absurd h2 h
end Go.Proofs.YtedamaccflhmfaaGreatDoor
namespace Go.Proofs.YtedamaccflhmfaaGreatDoor
open Go.RowKit

/-- How many values an operation takes. -/
def takes (op : Int) : Int := if 3 ≤ op ∧ op ≤ 16 then 2 else if 17 ≤ op ∧ op ≤ 20 then 1 else 0

theorem takes_cases (op : Int) : takes op = 0 ∨ takes op = 1 ∨ takes op = 2 := by
  unfold takes; split
  · exact .inr (.inr rfl)
  · split
    · exact .inr (.inl rfl)
    · exact .inl rfl

def nullV : Val := ⟨0, 0, ⟨#[]⟩⟩
def tv (b : Bool) : Val := ⟨1, if b then 1 else 0, ⟨#[]⟩⟩
def numV (n : Int) : Val := ⟨2, n, ⟨#[]⟩⟩
def isT (v : Val) : Bool := sameV v (tv true)

/-- The first kind that is not that of Null. -/
def firstK : List Int → Int
  | [] => 0
  | k :: l => if k = 0 then firstK l else k
/-- Is it an operation of numbers? -/
def numOp (op : Int) : Bool := decide (3 ≤ op ∧ op ≤ 7) || decide (op = 18)
def logOp (op : Int) : Bool := decide (op = 15) || (decide (op = 16) || decide (op = 17))
/-- The kind that each value must have that is not Null. -/
def asksK (op : Int) (l : List Int) : Int := if numOp op then 2 else if op = 8 then 3 else if logOp op then 1 else firstK l
def answK (op : Int) : Int := if numOp op then 2 else if op = 8 then 3 else 1

def justB (op : Int) (n : Nat) : Bool := decide (0 < n) && decide (takes op = (n : Int))
def badK (k : Int) : Bool := decide (3 < k)
def oddK (x k : Int) : Bool := !(decide (k = 0)) && !(decide (k = x))
def givesE (op : Int) (l : List Int) : Int := if justB op l.length && !(l.any badK) then (if l.any (oddK (asksK op l)) then 220 else 0) else 2
def givesK (op : Int) (l : List Int) : Int := if givesE op l = 0 then answK op else 0

/-- Why an operation may not be done to these values. -/
def refE (op : Int) (l : List Val) : Int := if justB op l.length && l.all Val.may then givesE op (l.map Val.k) else 2

def inI (n : Int) : Bool := decide (-9223372036854775808 ≤ n) && decide (n ≤ 9223372036854775807)
def fitR (n : Int) : Val × Int := if inI n then (numV n, 0) else (nullV, 221)
def divR (a b : Int) : Val × Int := if b = 0 then (nullV, 222) else fitR (a.tdiv b)
def modR (a b : Int) : Val × Int := if b = 0 then (nullV, 222) else (numV (a.tmod b), 0)
def joinR (a b : ByteArray) : Val × Int := if a.size + b.size ≤ 64 then (⟨3, 0, a ++ b⟩, 0) else (nullV, 3)
/-- Is a comparison true of the order of two values? -/
def holdsB (op c : Int) : Bool :=
  if op = 9 then c == 0 else if op = 10 then c != 0 else if op = 11 then decide (c < 0) else if op = 12 then decide (c ≤ 0) else if op = 13 then decide (0 < c) else if op = 14 then decide (0 ≤ c) else false
/-- The Bool that decides, if it is among them; else Null, if one is Null; else the other Bool. -/
def decR (d : Bool) (a b : Val) : Val := if sameV a (tv d) || sameV b (tv d) then tv d else if (a.k == 0) || (b.k == 0) then nullV else tv (!d)

theorem firstK_two (a b : Int) : firstK [a, b] = if a = 0 then b else a := by
  unfold firstK firstK firstK
  split
  · split
    · next h => rw [h]
    · rfl
  · rfl
theorem firstK_one (a : Int) : firstK [a] = a := by
  unfold firstK firstK
  split
  · next h => rw [h]
  · rfl

theorem inI_iff (n : Int) : inI n = true ↔ (-9223372036854775808 ≤ n ∧ n ≤ 9223372036854775807) := by unfold inI; simp
theorem fitR_in {n : Int} (h1 : -9223372036854775808 ≤ n) (h2 : n ≤ 9223372036854775807) : fitR n = (numV n, 0) := by unfold fitR; rw [if_pos ((inI_iff n).mpr ⟨h1, h2⟩)]
theorem fitR_out {n : Int} (h : n < -9223372036854775808 ∨ 9223372036854775807 < n) : fitR n = (nullV, 221) := by
  unfold fitR; rw [if_neg]; rw [inI_iff]; omega
end Go.Proofs.YtedamaccflhmfaaGreatDoor
