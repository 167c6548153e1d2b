/-
  No cell of these rows narrows 'for every input' (looked for: loops, veiled, ifaces, maps, wideKeys, modest, calm, conditions, laid).
  DERIVED. THE GIVEN ROWS OF THIS SEAT. 3 by the template 'for every input the law returns true; each argument reads behind the call as it read before'; 0 by the template 'total and deterministic' (their statements: YtbcbdaaaglkjhabTotals.lean).
  GIVEN WITH THE SEED: the statements are not yours to turn. If you find one false, say at which input.
  Laid BY PROGRAM, IN A SANDBOX (cutbox-rows.mjs): the forced cells as the released guide's own fill.sh prints them over the translation de6fbd75a366d256… (all of the seat's roots in one cut). By AI agents, Wed Nov 11 2026. No macro, syntax, notation, axiom, sorry.
-/
import Derived.Test.YtbcbdaaaglkjhabChecked
import GoSem.Claim
import GoSem.ClaimJoined
import GoSem.ClaimMapViews
import Derived.JoinedTies
import Derived.KernelRfl
namespace Go.Proofs.Ytbcbdaaaglkjhab
/- THE CELL 'sum', in the pinned program and in every row, IS THE sha256 OF THE DUMP (.gsa) THAT YtbcbdaaaglkjhabProg.lean LOADS. Nothing in Lean hashes anything: it is a label: what it is worth is what the hold of that sum in a sandbox is worth. -/
noncomputable def Try.pinned : Pinned := { name := "ytbcbdaaaglkjhab", sum := "de6fbd75a366d256ac7f5bccd384ab4f2083b2cf24d704a5e2e0f89620a9003f", checked := Try.checked }
namespace Rows
def none {H : Type} : Left H := { results := [], args := [] }

/-- 'stagepostlaw01.EncAfter': WHATEVER THE INPUT: true; the input reads as it did. -/
def encAfterSpec : ChangeSpec := { name := "encAfter", fn := fun _ => fun
  | [d1, d2] => { results := [.lit (.bool true)], args := [d1, d2] }
  | _ => none }
def encAfterRow : OpenClaim := { program := "ytbcbdaaaglkjhab", sum := "de6fbd75a366d256ac7f5bccd384ab4f2083b2cf24d704a5e2e0f89620a9003f", func := "stagepost/stagepostlaw01.EncAfter", spec := "encAfter", apart := false }
def EncAfterSaid : Prop := encAfterRow.holds Try.pinned (OpenSpec.ofChange encAfterSpec)

/-- ITS FALSE NEIGHBOUR: 'it returns false'. Refute it at one input. -/
def encAfterWrong : ChangeSpec := { name := "encAfter", fn := fun _ => fun
  | [d1, d2] => { results := [.lit (.bool false)], args := [d1, d2] }
  | _ => none }
def EncAfterWrongFalsely : Prop := encAfterRow.holds Try.pinned (OpenSpec.ofChange encAfterWrong)

/-- 'stagepostlaw01.EncStamps': WHATEVER THE INPUT: true; the input reads as it did. -/
def encStampsSpec : ChangeSpec := { name := "encStamps", fn := fun _ => fun
  | [d1, d2, d3] => { results := [.lit (.bool true)], args := [d1, d2, d3] }
  | _ => none }
def encStampsRow : OpenClaim := { program := "ytbcbdaaaglkjhab", sum := "de6fbd75a366d256ac7f5bccd384ab4f2083b2cf24d704a5e2e0f89620a9003f", func := "stagepost/stagepostlaw01.EncStamps", spec := "encStamps", apart := false }
def EncStampsSaid : Prop := encStampsRow.holds Try.pinned (OpenSpec.ofChange encStampsSpec)

/-- ITS FALSE NEIGHBOUR: 'it returns false'. Refute it at one input. -/
def encStampsWrong : ChangeSpec := { name := "encStamps", fn := fun _ => fun
  | [d1, d2, d3] => { results := [.lit (.bool false)], args := [d1, d2, d3] }
  | _ => none }
def EncStampsWrongFalsely : Prop := encStampsRow.holds Try.pinned (OpenSpec.ofChange encStampsWrong)

/-- 'stagepostlaw01.EncRow': WHATEVER THE INPUT: true; the input reads as it did. -/
def encRowSpec : ChangeSpec := { name := "encRow", fn := fun _ => fun
  | [d1, d2] => { results := [.lit (.bool true)], args := [d1, d2] }
  | _ => none }
def encRowRow : OpenClaim := { program := "ytbcbdaaaglkjhab", sum := "de6fbd75a366d256ac7f5bccd384ab4f2083b2cf24d704a5e2e0f89620a9003f", func := "stagepost/stagepostlaw01.EncRow", spec := "encRow", apart := false }
def EncRowSaid : Prop := encRowRow.holds Try.pinned (OpenSpec.ofChange encRowSpec)

/-- ITS FALSE NEIGHBOUR: 'it returns false'. Refute it at one input. -/
def encRowWrong : ChangeSpec := { name := "encRow", fn := fun _ => fun
  | [d1, d2] => { results := [.lit (.bool false)], args := [d1, d2] }
  | _ => none }
def EncRowWrongFalsely : Prop := encRowRow.holds Try.pinned (OpenSpec.ofChange encRowWrong)

/- THE SECOND FORM. 'bulk': how many values and letters a reading holds, each counted each time it is reached (what is shared counts as often as it is met; a slice's spare places count too). A statement '..UptoSaid' is the law's where the arguments, and the package variables that the reading takes, are together of bulk at most 1048576: NARROWER than '..Said'. Prove '..Said' where nothing that the law and all that it calls make is longer than what came in: it says more and counts as full. Else prove '..UptoSaid'. A law counts once. -/
mutual
def uptoBulk {H : Type} : DataW H → Nat
  | .lit (.string bytes) => bytes.length + 1
  | .lit _ => 1
  | .nil => 1
  | .ptr d => uptoBulk d + 1
  | .slice elems spare => uptoBulkAll elems + uptoBulkAll spare + 1
  | .agg parts => uptoBulkAll parts + 1
  | .iface _ d => uptoBulk d + 1
  | .map entries => uptoBulkEntries entries + 1
  | .held _ => 1
def uptoBulkAll {H : Type} : List (DataW H) → Nat
  | [] => 0
  | d :: r => uptoBulk d + uptoBulkAll r
def uptoBulkEntries {H : Type} : List (Lit × DataW H) → Nat
  | [] => 0
  | x :: r => uptoBulkEntry x + uptoBulkEntries r
def uptoBulkEntry {H : Type} : Lit × DataW H → Nat
  | (.string bytes, d) => bytes.length + uptoBulk d + 1
  | (_, d) => uptoBulk d + 1
 end
def uptoSmall : (H : Type) → List (DataW H) → Bool := fun _ ds => decide (uptoBulkAll ds ≤ 1048576)
def OpenSpec.upto (s : _root_.Go.ChangeSpec) : _root_.Go.OpenSpec := { _root_.Go.OpenSpec.ofChange s with cond := some uptoSmall }

/-- 'stagepostlaw01.EncAfter', WHERE WHAT IT READS IS OF BULK AT MOST 1048576: true; the input reads as it did. -/
def encAfterUptoRow : OpenClaim := { program := "ytbcbdaaaglkjhab", sum := "de6fbd75a366d256ac7f5bccd384ab4f2083b2cf24d704a5e2e0f89620a9003f", func := "stagepost/stagepostlaw01.EncAfter", spec := "encAfter", apart := false, narrowed := true }
def EncAfterUptoSaid : Prop := encAfterUptoRow.holds Try.pinned (OpenSpec.upto encAfterSpec)

/-- 'stagepostlaw01.EncStamps', WHERE WHAT IT READS IS OF BULK AT MOST 1048576: true; the input reads as it did. -/
def encStampsUptoRow : OpenClaim := { program := "ytbcbdaaaglkjhab", sum := "de6fbd75a366d256ac7f5bccd384ab4f2083b2cf24d704a5e2e0f89620a9003f", func := "stagepost/stagepostlaw01.EncStamps", spec := "encStamps", apart := false, narrowed := true }
def EncStampsUptoSaid : Prop := encStampsUptoRow.holds Try.pinned (OpenSpec.upto encStampsSpec)

/-- 'stagepostlaw01.EncRow', WHERE WHAT IT READS IS OF BULK AT MOST 1048576: true; the input reads as it did. -/
def encRowUptoRow : OpenClaim := { program := "ytbcbdaaaglkjhab", sum := "de6fbd75a366d256ac7f5bccd384ab4f2083b2cf24d704a5e2e0f89620a9003f", func := "stagepost/stagepostlaw01.EncRow", spec := "encRow", apart := false, narrowed := true }
def EncRowUptoSaid : Prop := encRowUptoRow.holds Try.pinned (OpenSpec.upto encRowSpec)

end Rows
end Go.Proofs.Ytbcbdaaaglkjhab
