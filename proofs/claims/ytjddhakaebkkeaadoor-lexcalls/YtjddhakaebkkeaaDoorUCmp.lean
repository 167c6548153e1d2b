/-
  The order of values and of tuples: what the call, the calls of the library beneath it and the inner one answer, of any values; they leave all that was there as it was.
-/
import Derived.Test.YtjddhakaebkkeaaDoorUSame
namespace Go.Proofs.YtjddhakaebkkeaaDoor
open Go.RowKit

attribute [local go_sem ↓] Go.wp_at_zero Go.wp_at_succ


/-- The order of two numbers, as a number. -/
def cmpI (x y : Int) : Int := if x < y then -1 else if y < x then 1 else 0

/-- The first of three numbers that is not 0. -/
def or3 (a b c : Int) : Int := if a = 0 then (if b = 0 then c else b) else a

/-- The order of two texts, as a number. -/
def cmpS (s t : ByteArray) : Int := if Op.bytesLess s.toList t.toList then -1 else if s.toList == t.toList then 0 else 1

/-- The order of two values. -/
def cmpV (v u : Val) : Int := or3 (cmpI v.k u.k) (cmpI v.n u.n) (cmpS v.t u.t)

/-- The order of two tuples. -/
def cmpL : List Val → List Val → Int
  | [], [] => 0
  | [], _ :: _ => -1
  | _ :: _, [] => 1
  | v :: a, u :: b => if cmpV v u = 0 then cmpL a b else cmpV v u

theorem cmpL_drop (l m : List Val) (j : Nat) (h : j < l.length) (h2 : j < m.length) : cmpL (l.drop j) (m.drop j) = if cmpV l[j] m[j] = 0 then cmpL (l.drop (j + 1)) (m.drop (j + 1)) else cmpV l[j] m[j] := by
  rw [List.drop_eq_getElem_cons h, List.drop_eq_getElem_cons h2, cmpL]

end Go.Proofs.YtjddhakaebkkeaaDoor
