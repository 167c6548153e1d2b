/-
  Proved: for every list of heights, every list of entries, every list of questions and every number the call MemScript(heights, l, asks, stop) returns true and leaves its arguments as they were: a memtable keeps and tells what the document says, tower by tower.
  Conditions: none beyond the form's own reach.
-/
import Derived.Test.YtbdgdigpnfpnhaaMScr4
namespace Go.Proofs.Ytbdgdigpnfpnhaa
/-- THE STATEMENT. -/
theorem memScript_holds : Rows.MemScriptSaid := Q.P.memScript_over
#print axioms memScript_holds
end Go.Proofs.Ytbdgdigpnfpnhaa
