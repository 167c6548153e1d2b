/-
  What the operations do to values, in plain words: nothing here speaks of the program.
-/
import Derived.Test.YtjddhakaebkkeaaDoorUOrd
namespace Go.Proofs.YtjddhakaebkkeaaDoor
open Go.RowKit

/-- How many values an operation takes. -/
def takes (op : Int) : Int := if 3 ≤ op ∧ op ≤ 16 then 2 else if 17 ≤ op ∧ op ≤ 20 then 1 else 0

theorem takes_cases (op : Int) : takes op = 0 ∨ takes op = 1 ∨ takes op = 2 := by
  unfold takes; split
  · exact .inr (.inr rfl)
  · split
    · exact .inr (.inl rfl)
    · exact .inl rfl

def nullV : Val := ⟨0, 0, ⟨#[]⟩⟩
def tv (b : Bool) : Val := ⟨1, if b then 1 else 0, ⟨#[]⟩⟩
def numV (n : Int) : Val := ⟨2, n, ⟨#[]⟩⟩
def isT (v : Val) : Bool := sameV v (tv true)

/-- The first kind that is not that of Null. -/
def firstK : List Int → Int
  | [] => 0
  | k :: l => if k = 0 then firstK l else k
/-- Is it an operation of numbers? -/
def numOp (op : Int) : Bool := decide (3 ≤ op ∧ op ≤ 7) || decide (op = 18)
def logOp (op : Int) : Bool := decide (op = 15) || (decide (op = 16) || decide (op = 17))
/-- The kind that each value must have that is not Null. -/
def asksK (op : Int) (l : List Int) : Int := if numOp op then 2 else if op = 8 then 3 else if logOp op then 1 else firstK l
def answK (op : Int) : Int := if numOp op then 2 else if op = 8 then 3 else 1

def justB (op : Int) (n : Nat) : Bool := decide (0 < n) && decide (takes op = (n : Int))
def badK (k : Int) : Bool := decide (3 < k)
def oddK (x k : Int) : Bool := !(decide (k = 0)) && !(decide (k = x))
def givesE (op : Int) (l : List Int) : Int := if justB op l.length && !(l.any badK) then (if l.any (oddK (asksK op l)) then 220 else 0) else 2
def givesK (op : Int) (l : List Int) : Int := if givesE op l = 0 then answK op else 0

/-- Why an operation may not be done to these values. -/
def refE (op : Int) (l : List Val) : Int := if justB op l.length && l.all Val.may then givesE op (l.map Val.k) else 2

def inI (n : Int) : Bool := decide (-9223372036854775808 ≤ n) && decide (n ≤ 9223372036854775807)
def fitR (n : Int) : Val × Int := if inI n then (numV n, 0) else (nullV, 221)
def divR (a b : Int) : Val × Int := if b = 0 then (nullV, 222) else fitR (a.tdiv b)
def modR (a b : Int) : Val × Int := if b = 0 then (nullV, 222) else (numV (a.tmod b), 0)
def joinR (a b : ByteArray) : Val × Int := if a.size + b.size ≤ 64 then (⟨3, 0, a ++ b⟩, 0) else (nullV, 3)
/-- Is a comparison true of the order of two values? -/
def holdsB (op c : Int) : Bool :=
  if op = 9 then c == 0 else if op = 10 then c != 0 else if op = 11 then decide (c < 0) else if op = 12 then decide (c ≤ 0) else if op = 13 then decide (0 < c) else if op = 14 then decide (0 ≤ c) else false
/-- The Bool that decides, if it is among them; else Null, if one is Null; else the other Bool. -/
def decR (d : Bool) (a b : Val) : Val := if sameV a (tv d) || sameV b (tv d) then tv d else if (a.k == 0) || (b.k == 0) then nullV else tv (!d)

theorem firstK_two (a b : Int) : firstK [a, b] = if a = 0 then b else a := by
  unfold firstK firstK firstK
  split
  · split
    · next h => rw [h]
    · rfl
  · rfl
theorem firstK_one (a : Int) : firstK [a] = a := by
  unfold firstK firstK
  split
  · next h => rw [h]
  · rfl

theorem inI_iff (n : Int) : inI n = true ↔ (-9223372036854775808 ≤ n ∧ n ≤ 9223372036854775807) := by unfold inI; simp
theorem fitR_in {n : Int} (h1 : -9223372036854775808 ≤ n) (h2 : n ≤ 9223372036854775807) : fitR n = (numV n, 0) := by unfold fitR; rw [if_pos ((inI_iff n).mpr ⟨h1, h2⟩)]
theorem fitR_out {n : Int} (h : n < -9223372036854775808 ∨ 9223372036854775807 < n) : fitR n = (nullV, 221) := by
  unfold fitR; rw [if_neg]; rw [inI_iff]; omega
end Go.Proofs.YtjddhakaebkkeaaDoor
