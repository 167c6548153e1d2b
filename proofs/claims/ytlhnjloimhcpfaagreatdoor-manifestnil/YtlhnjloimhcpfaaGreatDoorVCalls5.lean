/-
  No fuse; what is durable; an altered byte.
-/
import Derived.Test.YtlhnjloimhcpfaaGreatDoorVD
namespace Go.Proofs.YtlhnjloimhcpfaaGreatDoor
open Go.RowKit Go.Maps Go.Sort

theorem two_kept {w w' : World} {p q : Addr} {u v : Value} (b : Below w.heap.size w w') (h : w.cell? p = some u ∧ w.cell? q = some v) : w'.cell? p = some u ∧ w'.cell? q = some v := ⟨keepC b h.1, keepC b h.2⟩

end Go.Proofs.YtlhnjloimhcpfaaGreatDoor
