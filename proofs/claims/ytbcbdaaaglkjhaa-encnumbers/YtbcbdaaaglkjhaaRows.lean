/-
  No cell of these rows narrows 'for every input' (looked for: loops, veiled, ifaces, maps, wideKeys, modest, calm, conditions, laid).
  DERIVED. THE GIVEN ROWS OF THIS SEAT. 6 by the template 'for every input the law returns true; each argument reads behind the call as it read before'; 0 by the template 'total and deterministic' (their statements: YtbcbdaaaglkjhaaTotals.lean).
  GIVEN WITH THE SEED: the statements are not yours to turn. If you find one false, say at which input.
  Laid BY PROGRAM, IN A SANDBOX (cutbox-rows.mjs): the forced cells as the released guide's own fill.sh prints them over the translation 263d609acd9f6703… (all of the seat's roots in one cut). By AI agents, Wed Nov 11 2026. No macro, syntax, notation, axiom, sorry.
-/
import Derived.Test.YtbcbdaaaglkjhaaChecked
import GoSem.Claim
import GoSem.ClaimJoined
import GoSem.ClaimMapViews
import Derived.JoinedTies
import Derived.KernelRfl
namespace Go.Proofs.Ytbcbdaaaglkjhaa
/- THE CELL 'sum', in the pinned program and in every row, IS THE sha256 OF THE DUMP (.gsa) THAT YtbcbdaaaglkjhaaProg.lean LOADS. Nothing in Lean hashes anything: it is a label: what it is worth is what the hold of that sum in a sandbox is worth. -/
noncomputable def Try.pinned : Pinned := { name := "ytbcbdaaaglkjhaa", sum := "263d609acd9f6703ebdfb3bdec948cd1d0639e9e5b2d5b85b7e2e550ae4cfe56", checked := Try.checked }
namespace Rows
def none {H : Type} : Left H := { results := [], args := [] }

/-- 'stagepostlaw01.EncNames': WHATEVER THE INPUT: true; the input reads as it did. -/
def encNamesSpec : ChangeSpec := { name := "encNames", fn := fun _ => fun
  | [] => { results := [.lit (.bool true)], args := [] }
  | _ => none }
def encNamesRow : OpenClaim := { program := "ytbcbdaaaglkjhaa", sum := "263d609acd9f6703ebdfb3bdec948cd1d0639e9e5b2d5b85b7e2e550ae4cfe56", func := "stagepost/stagepostlaw01.EncNames", spec := "encNames", unfollowed := true, recurses := true, apart := false }
def EncNamesSaid : Prop := encNamesRow.holds Try.pinned (OpenSpec.ofChange encNamesSpec)

/-- ITS FALSE NEIGHBOUR: 'it returns false'. Refute it at one input. -/
def encNamesWrong : ChangeSpec := { name := "encNames", fn := fun _ => fun
  | [] => { results := [.lit (.bool false)], args := [] }
  | _ => none }
def EncNamesWrongFalsely : Prop := encNamesRow.holds Try.pinned (OpenSpec.ofChange encNamesWrong)

/-- 'stagepostlaw01.EncNumbers': WHATEVER THE INPUT: true; the input reads as it did. -/
def encNumbersSpec : ChangeSpec := { name := "encNumbers", fn := fun _ => fun
  | [d1, d2, d3] => { results := [.lit (.bool true)], args := [d1, d2, d3] }
  | _ => none }
def encNumbersRow : OpenClaim := { program := "ytbcbdaaaglkjhaa", sum := "263d609acd9f6703ebdfb3bdec948cd1d0639e9e5b2d5b85b7e2e550ae4cfe56", func := "stagepost/stagepostlaw01.EncNumbers", spec := "encNumbers", recurses := true, apart := false }
def EncNumbersSaid : Prop := encNumbersRow.holds Try.pinned (OpenSpec.ofChange encNumbersSpec)

/-- ITS FALSE NEIGHBOUR: 'it returns false'. Refute it at one input. -/
def encNumbersWrong : ChangeSpec := { name := "encNumbers", fn := fun _ => fun
  | [d1, d2, d3] => { results := [.lit (.bool false)], args := [d1, d2, d3] }
  | _ => none }
def EncNumbersWrongFalsely : Prop := encNumbersRow.holds Try.pinned (OpenSpec.ofChange encNumbersWrong)

/-- 'stagepostlaw01.EncTuples': WHATEVER THE INPUT: true; the input reads as it did. -/
def encTuplesSpec : ChangeSpec := { name := "encTuples", fn := fun _ => fun
  | [d1, d2, d3] => { results := [.lit (.bool true)], args := [d1, d2, d3] }
  | _ => none }
def encTuplesRow : OpenClaim := { program := "ytbcbdaaaglkjhaa", sum := "263d609acd9f6703ebdfb3bdec948cd1d0639e9e5b2d5b85b7e2e550ae4cfe56", func := "stagepost/stagepostlaw01.EncTuples", spec := "encTuples", unfollowed := true, recurses := true, apart := false }
def EncTuplesSaid : Prop := encTuplesRow.holds Try.pinned (OpenSpec.ofChange encTuplesSpec)

/-- ITS FALSE NEIGHBOUR: 'it returns false'. Refute it at one input. -/
def encTuplesWrong : ChangeSpec := { name := "encTuples", fn := fun _ => fun
  | [d1, d2, d3] => { results := [.lit (.bool false)], args := [d1, d2, d3] }
  | _ => none }
def EncTuplesWrongFalsely : Prop := encTuplesRow.holds Try.pinned (OpenSpec.ofChange encTuplesWrong)

/-- 'stagepostlaw01.EncSpans': WHATEVER THE INPUT: true; the input reads as it did. -/
def encSpansSpec : ChangeSpec := { name := "encSpans", fn := fun _ => fun
  | [d1, d2, d3, d4, d5] => { results := [.lit (.bool true)], args := [d1, d2, d3, d4, d5] }
  | _ => none }
def encSpansRow : OpenClaim := { program := "ytbcbdaaaglkjhaa", sum := "263d609acd9f6703ebdfb3bdec948cd1d0639e9e5b2d5b85b7e2e550ae4cfe56", func := "stagepost/stagepostlaw01.EncSpans", spec := "encSpans", apart := false }
def EncSpansSaid : Prop := encSpansRow.holds Try.pinned (OpenSpec.ofChange encSpansSpec)

/-- ITS FALSE NEIGHBOUR: 'it returns false'. Refute it at one input. -/
def encSpansWrong : ChangeSpec := { name := "encSpans", fn := fun _ => fun
  | [d1, d2, d3, d4, d5] => { results := [.lit (.bool false)], args := [d1, d2, d3, d4, d5] }
  | _ => none }
def EncSpansWrongFalsely : Prop := encSpansRow.holds Try.pinned (OpenSpec.ofChange encSpansWrong)

/-- 'stagepostlaw01.EncOrder': WHATEVER THE INPUT: true; the input reads as it did. -/
def encOrderSpec : ChangeSpec := { name := "encOrder", fn := fun _ => fun
  | [d1, d2] => { results := [.lit (.bool true)], args := [d1, d2] }
  | _ => none }
def encOrderRow : OpenClaim := { program := "ytbcbdaaaglkjhaa", sum := "263d609acd9f6703ebdfb3bdec948cd1d0639e9e5b2d5b85b7e2e550ae4cfe56", func := "stagepost/stagepostlaw01.EncOrder", spec := "encOrder", unfollowed := true, recurses := true, apart := false }
def EncOrderSaid : Prop := encOrderRow.holds Try.pinned (OpenSpec.ofChange encOrderSpec)

/-- ITS FALSE NEIGHBOUR: 'it returns false'. Refute it at one input. -/
def encOrderWrong : ChangeSpec := { name := "encOrder", fn := fun _ => fun
  | [d1, d2] => { results := [.lit (.bool false)], args := [d1, d2] }
  | _ => none }
def EncOrderWrongFalsely : Prop := encOrderRow.holds Try.pinned (OpenSpec.ofChange encOrderWrong)

/-- 'stagepostlaw01.EncBegins': WHATEVER THE INPUT: true; the input reads as it did. -/
def encBeginsSpec : ChangeSpec := { name := "encBegins", fn := fun _ => fun
  | [d1, d2, d3] => { results := [.lit (.bool true)], args := [d1, d2, d3] }
  | _ => none }
def encBeginsRow : OpenClaim := { program := "ytbcbdaaaglkjhaa", sum := "263d609acd9f6703ebdfb3bdec948cd1d0639e9e5b2d5b85b7e2e550ae4cfe56", func := "stagepost/stagepostlaw01.EncBegins", spec := "encBegins", apart := false }
def EncBeginsSaid : Prop := encBeginsRow.holds Try.pinned (OpenSpec.ofChange encBeginsSpec)

/-- ITS FALSE NEIGHBOUR: 'it returns false'. Refute it at one input. -/
def encBeginsWrong : ChangeSpec := { name := "encBegins", fn := fun _ => fun
  | [d1, d2, d3] => { results := [.lit (.bool false)], args := [d1, d2, d3] }
  | _ => none }
def EncBeginsWrongFalsely : Prop := encBeginsRow.holds Try.pinned (OpenSpec.ofChange encBeginsWrong)

/- THE SECOND FORM. 'bulk': how many values and letters a reading holds, each counted each time it is reached (what is shared counts as often as it is met; a slice's spare places count too). A statement '..UptoSaid' is the law's where the arguments, and the package variables that the reading takes, are together of bulk at most 1048576: NARROWER than '..Said'. Prove '..Said' where nothing that the law and all that it calls make is longer than what came in: it says more and counts as full. Else prove '..UptoSaid'. A law counts once. -/
mutual
def uptoBulk {H : Type} : DataW H → Nat
  | .lit (.string bytes) => bytes.length + 1
  | .lit _ => 1
  | .nil => 1
  | .ptr d => uptoBulk d + 1
  | .slice elems spare => uptoBulkAll elems + uptoBulkAll spare + 1
  | .agg parts => uptoBulkAll parts + 1
  | .iface _ d => uptoBulk d + 1
  | .map entries => uptoBulkEntries entries + 1
  | .held _ => 1
def uptoBulkAll {H : Type} : List (DataW H) → Nat
  | [] => 0
  | d :: r => uptoBulk d + uptoBulkAll r
def uptoBulkEntries {H : Type} : List (Lit × DataW H) → Nat
  | [] => 0
  | x :: r => uptoBulkEntry x + uptoBulkEntries r
def uptoBulkEntry {H : Type} : Lit × DataW H → Nat
  | (.string bytes, d) => bytes.length + uptoBulk d + 1
  | (_, d) => uptoBulk d + 1
 end
def uptoSmall : (H : Type) → List (DataW H) → Bool := fun _ ds => decide (uptoBulkAll ds ≤ 1048576)
def OpenSpec.upto (s : _root_.Go.ChangeSpec) : _root_.Go.OpenSpec := { _root_.Go.OpenSpec.ofChange s with cond := some uptoSmall }

/-- 'stagepostlaw01.EncNames', WHERE WHAT IT READS IS OF BULK AT MOST 1048576: true; the input reads as it did. -/
def encNamesUptoRow : OpenClaim := { program := "ytbcbdaaaglkjhaa", sum := "263d609acd9f6703ebdfb3bdec948cd1d0639e9e5b2d5b85b7e2e550ae4cfe56", func := "stagepost/stagepostlaw01.EncNames", spec := "encNames", unfollowed := true, recurses := true, apart := false, narrowed := true }
def EncNamesUptoSaid : Prop := encNamesUptoRow.holds Try.pinned (OpenSpec.upto encNamesSpec)

/-- 'stagepostlaw01.EncNumbers', WHERE WHAT IT READS IS OF BULK AT MOST 1048576: true; the input reads as it did. -/
def encNumbersUptoRow : OpenClaim := { program := "ytbcbdaaaglkjhaa", sum := "263d609acd9f6703ebdfb3bdec948cd1d0639e9e5b2d5b85b7e2e550ae4cfe56", func := "stagepost/stagepostlaw01.EncNumbers", spec := "encNumbers", recurses := true, apart := false, narrowed := true }
def EncNumbersUptoSaid : Prop := encNumbersUptoRow.holds Try.pinned (OpenSpec.upto encNumbersSpec)

/-- 'stagepostlaw01.EncTuples', WHERE WHAT IT READS IS OF BULK AT MOST 1048576: true; the input reads as it did. -/
def encTuplesUptoRow : OpenClaim := { program := "ytbcbdaaaglkjhaa", sum := "263d609acd9f6703ebdfb3bdec948cd1d0639e9e5b2d5b85b7e2e550ae4cfe56", func := "stagepost/stagepostlaw01.EncTuples", spec := "encTuples", unfollowed := true, recurses := true, apart := false, narrowed := true }
def EncTuplesUptoSaid : Prop := encTuplesUptoRow.holds Try.pinned (OpenSpec.upto encTuplesSpec)

/-- 'stagepostlaw01.EncSpans', WHERE WHAT IT READS IS OF BULK AT MOST 1048576: true; the input reads as it did. -/
def encSpansUptoRow : OpenClaim := { program := "ytbcbdaaaglkjhaa", sum := "263d609acd9f6703ebdfb3bdec948cd1d0639e9e5b2d5b85b7e2e550ae4cfe56", func := "stagepost/stagepostlaw01.EncSpans", spec := "encSpans", apart := false, narrowed := true }
def EncSpansUptoSaid : Prop := encSpansUptoRow.holds Try.pinned (OpenSpec.upto encSpansSpec)

/-- 'stagepostlaw01.EncOrder', WHERE WHAT IT READS IS OF BULK AT MOST 1048576: true; the input reads as it did. -/
def encOrderUptoRow : OpenClaim := { program := "ytbcbdaaaglkjhaa", sum := "263d609acd9f6703ebdfb3bdec948cd1d0639e9e5b2d5b85b7e2e550ae4cfe56", func := "stagepost/stagepostlaw01.EncOrder", spec := "encOrder", unfollowed := true, recurses := true, apart := false, narrowed := true }
def EncOrderUptoSaid : Prop := encOrderUptoRow.holds Try.pinned (OpenSpec.upto encOrderSpec)

/-- 'stagepostlaw01.EncBegins', WHERE WHAT IT READS IS OF BULK AT MOST 1048576: true; the input reads as it did. -/
def encBeginsUptoRow : OpenClaim := { program := "ytbcbdaaaglkjhaa", sum := "263d609acd9f6703ebdfb3bdec948cd1d0639e9e5b2d5b85b7e2e550ae4cfe56", func := "stagepost/stagepostlaw01.EncBegins", spec := "encBegins", apart := false, narrowed := true }
def EncBeginsUptoSaid : Prop := encBeginsUptoRow.holds Try.pinned (OpenSpec.upto encBeginsSpec)

end Rows
end Go.Proofs.Ytbcbdaaaglkjhaa
