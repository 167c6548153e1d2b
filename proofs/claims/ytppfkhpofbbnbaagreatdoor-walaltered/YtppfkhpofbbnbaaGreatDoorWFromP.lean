/-
  What segments tell, from one on: in plain words.
-/
import Derived.Test.YtppfkhpofbbnbaaGreatDoorWSegP
namespace Go.Proofs.YtppfkhpofbbnbaaGreatDoor
namespace Wl
/-- The batches of the segments from 'next' on, as long as they are held; D: what each holds; none: one is altered. -/
def rf (D : Nat → Bs) : List Nat → Nat → List Bat → Option (List Bat × Nat)
  | [], next, all => some (all, next)
  | n :: r, next, all =>
    if n < next then rf D r next all
    else if next < n then some (all, next)
    else match segB (D n) with
      | none => none
      | some l => rf D r (next + 1) (all ++ l)
theorem rf_skip {D : Nat → Bs} {n : Nat} {r : List Nat} {next : Nat} {all : List Bat} (h : n < next) : rf D (n :: r) next all = rf D r next all := by rw [rf, if_pos h]
theorem rf_stop {D : Nat → Bs} {n : Nat} {r : List Nat} {next : Nat} {all : List Bat} (h : next < n) : rf D (n :: r) next all = some (all, next) := by rw [rf, if_neg (by omega), if_pos h]
theorem rf_bad {D : Nat → Bs} {n : Nat} {r : List Nat} {all : List Bat} (h : segB (D n) = none) : rf D (n :: r) n all = none := by rw [rf, if_neg (by omega), if_neg (by omega), h]
theorem rf_go {D : Nat → Bs} {n : Nat} {r : List Nat} {all l : List Bat} (h : segB (D n) = some l) : rf D (n :: r) n all = rf D r (n + 1) (all ++ l) := by rw [rf, if_neg (by omega), if_neg (by omega), h]
end Wl
end Go.Proofs.YtppfkhpofbbnbaaGreatDoor
