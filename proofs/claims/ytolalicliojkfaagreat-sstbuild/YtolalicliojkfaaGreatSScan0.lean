/-
  Plain: all versions of all keys in a span, asked of a table.
-/
import Derived.Test.YtolalicliojkfaaGreatSL
namespace Go.Proofs.YtolalicliojkfaaGreat
open Go.RowKit
namespace Ss
open Mm (Ent)
/-- The first block whose last key is not below one. -/
def placeF (ps : List Prt) (f : Bs) : Nat := ps.findIdx fun p => !Op.bytesLess p.key f
/-- Going through blocks: what is told (nothing, if one of them is not sound), and how many were read. -/
def scanR (t : Tab) (f tu : Bs) : List Prt → Nat → List Ent → Option (List Ent) × Nat
  | [], m, out => (some out, m)
  | p :: r, m, out =>
    if readOk t p = false then (none, m + 1)
    else if tu ≠ [] ∧ Op.bytesLess p.key tu = false then (some (out ++ Mm.spanL f tu (readL t p)), m + 1)
    else scanR t f tu r (m + 1) (out ++ Mm.spanL f tu (readL t p))
def scan (t : Tab) (f tu : Bs) : Option (List Ent) × Nat := scanR t f tu (t.parts.drop (placeF t.parts f)) 0 []
end Ss
end Go.Proofs.YtolalicliojkfaaGreat
