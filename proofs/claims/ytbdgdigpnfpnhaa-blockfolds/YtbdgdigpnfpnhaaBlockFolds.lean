/-
  Proved: for every list of lists of entries, every list of numbers, with last or without, the call BlockFolds(l, keep, last) returns true and leaves its arguments as they were: lists are merged and folded as the document says.
  Conditions: none beyond the form's own reach.
-/
import Derived.Test.YtbdgdigpnfpnhaaBFolds4
namespace Go.Proofs.Ytbdgdigpnfpnhaa
/-- THE STATEMENT. -/
theorem blockFolds_holds : Rows.BlockFoldsSaid := Q.blockFolds.over
#print axioms blockFolds_holds
end Go.Proofs.Ytbdgdigpnfpnhaa
