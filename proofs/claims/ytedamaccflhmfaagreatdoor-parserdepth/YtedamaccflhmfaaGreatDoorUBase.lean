/-
  Plain words that the walks of this seat share: values, lists of values and where they lie.
-/
import Derived.Test.YtedamaccflhmfaaGreatDoorProg
import Derived.WalkKit
import Derived.WalkSpells
import Derived.WalkLawsBesides
import Derived.Deep.AppendLies
import Derived.Deep.RegionHeld3
import Derived.Deep.DrawnRows
import Derived.Deep.QuietTactic
import Derived.BigQuiet
import Derived.Laws.IdiomStrings
import Derived.Laws.BytesArg
import Derived.Lib.Strings
import Derived.Laws.StructEq
namespace Go.Proofs.YtedamaccflhmfaaGreatDoor
open Go.RowKit

theorem hide {p : Prop} (h : p) : Hid p := h

/-- The value may be. -/
def mayV (k n : Int) (t : ByteArray) : Bool :=
  (k == 0 && n == 0 && t.toList.isEmpty) || (k == 1 && (n == 0 || n == 1) && t.toList.isEmpty) || (k == 2 && t.toList.isEmpty) || (k == 3 && n == 0 && decide (t.size ≤ 64))

/-- What Check answers. -/
def chk (k n : Int) (t : ByteArray) : Int := if mayV k n t then 0 else 2

/-- A value of the language. -/
structure Val where
  k : Int
  n : Int
  t : ByteArray

def Val.may (v : Val) : Bool := mayV v.k v.n v.t
/-- Its parts fit their kinds. -/
structure Val.wf (v : Val) : Prop where
  k0 : 0 ≤ v.k
  k1 : v.k ≤ 255
  n0 : -9223372036854775808 ≤ v.n
  n1 : v.n ≤ 9223372036854775807
  t1 : v.t.size ≤ maxLen

/-- Where the values of a slice lie. -/
def ValsAt (w : World) (b off : Nat) (vs : List Val) : Prop := ∀ j (h : j < vs.length),
  w.cell? ⟨b, off + j * 3, none⟩ = some (.int .u8 (vs[j]).k) ∧ w.cell? ⟨b, off + j * 3 + 1, none⟩ = some (.int .i64 (vs[j]).n) ∧ w.cell? ⟨b, off + j * 3 + 2, none⟩ = some (.string (vs[j]).t)

/-- A slice whose values are vs. -/
structure ValsIn (w : World) (v : Value) (vs : List Val) : Prop where
  form : ∃ a cap, v = .slice a vs.length cap ∧ (vs ≠ [] → ∃ b off, a = some ⟨b, off, none⟩ ∧ ValsAt w b off vs)
  wf : ∀ v ∈ vs, v.wf
  len : vs.length ≤ 1099511627776000

theorem bytesLess_irrefl (l : List UInt8) : Op.bytesLess l l = false := by
  induction l with
  | nil => rfl
  | cons c r ih => simp [Op.bytesLess, ih]

theorem u8_lt (a b : UInt8) : (a < b) = (a.toNat < b.toNat) := rfl
theorem u8_eq (a b : UInt8) : (a == b) = decide (a.toNat = b.toNat) := by
  rw [Bool.eq_iff_iff]; simp [UInt8.toNat_inj]

theorem bl_cons (a b : UInt8) (x y : List UInt8) : Op.bytesLess (a :: x) (b :: y) = (decide (a.toNat < b.toNat) || (decide (a.toNat = b.toNat) && Op.bytesLess x y)) := by
  simp [Op.bytesLess, u8_eq, UInt8.lt_iff_toNat_lt]
end Go.Proofs.YtedamaccflhmfaaGreatDoor
