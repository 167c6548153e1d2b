/-
  The chapter's entries and their table, computed.
-/
import Derived.Test.YtolalicliojkfaaGreatSsO
import Derived.Test.YtolalicliojkfaaGreatSBuild
namespace Go.Proofs.YtolalicliojkfaaGreat
open Go.RowKit
namespace Ss
def ex : List Mm.Ent := [⟨[97], [120], 1, false⟩, ⟨[98], [120], 2, false⟩, ⟨[99], [120], 3, false⟩]
def exB : Bs := buildB ex 2 10
theorem ex_check : checkE ex 2 10 = 0 := by decide +kernel
theorem ex_open : openOk exB = true := by decide +kernel
theorem ex_len : exB.length ≤ 1000 := by decide +kernel
theorem ex_parts : (openT exB).entries = 3 ∧ (openT exB).parts.length = 2 ∧ lastKeyP (openT exB).parts = [99] := by decide +kernel
theorem ex_n9 : getN (openT exB) [98] 9 = 1 ∧ getE (openT exB) [98] 9 = 0 := by decide +kernel
theorem ex_n1 : getN (openT exB) [98] 1 = 1 ∧ getE (openT exB) [98] 1 = 0 := by decide +kernel
end Ss
end Go.Proofs.YtolalicliojkfaaGreat
