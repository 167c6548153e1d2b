/-
  DERIVED. GIVEN WITH THE SEED: THE CARDS: each row of YtedamaccflhmfaaGreatDoorRows.lean that lists a variable, with what it lists TIED to the program's text (the seventh form; the later family's looks); each row that meets fmt, with fmt's text TOLD by the authors' own Lean function (tested against real Go, not proved from fmt's source: count such statements apart). THE CARD IS WHAT COUNTS. Prove the row's statement (the work); the ties are given (YtedamaccflhmfaaGreatDoorTie.lean); close each card by the builder's one call (the guide's Derived/Test/ToyasCard.lean, 'card_holds'). Laid BY PROGRAM, IN A SANDBOX (cutbox-door.mjs). By AI agents, Wed Nov 11 2026. No macro, syntax, notation, axiom, sorry.
-/
import Derived.Test.YtedamaccflhmfaaGreatDoorRows
import GoSem.ClaimSeven
namespace Go.Proofs.YtedamaccflhmfaaGreatDoor
namespace Rows

/-- THE TIED CARD OF 'stagepostlaw14.ParserNames'. -/
def parserNamesCard : Claim7 := { stood := { row := parserNamesRow, standIns := [], harness := (true, "5beeebca3c2a13071b8d12847e873d1d380f2a6695fe85bc8698a5f7acb95023"), looks := true }, kinds := [], alts := [], laidByText := true, laidKinds := [.data, .data, .data, .data, .data, .data, .data, .pinned], laidTests := true, laidLooks := .later }
def ParserNamesCardSaid : Prop := Claim7.holds Tryz.pinned (.plain (OpenSpec.ofChange parserNamesSpec)) parserNamesCard

/-- THE TIED CARD OF 'stagepostlaw14.ParserBlanks'. -/
def parserBlanksCard : Claim7 := { stood := { row := parserBlanksRow, standIns := [], harness := (true, "5beeebca3c2a13071b8d12847e873d1d380f2a6695fe85bc8698a5f7acb95023"), looks := true }, kinds := [], alts := [], laidByText := true, laidKinds := [.data, .data, .data, .data, .data, .data, .data, .pinned, .pinned], laidTests := true, laidLooks := .later }
def ParserBlanksCardSaid : Prop := Claim7.holds Tryz.pinned (.plain (OpenSpec.ofChange parserBlanksSpec)) parserBlanksCard

/-- THE TIED CARD OF 'stagepostlaw14.ParserDepth'. -/
def parserDepthCard : Claim7 := { stood := { row := parserDepthRow, standIns := [], harness := (true, "5beeebca3c2a13071b8d12847e873d1d380f2a6695fe85bc8698a5f7acb95023"), looks := true }, kinds := [], alts := [], laidByText := true, laidKinds := [.data, .data, .data, .data, .data, .data, .data, .pinned], laidTests := true, laidLooks := .later }
def ParserDepthCardSaid : Prop := Claim7.holds Tryz.pinned (.plain (OpenSpec.ofChange parserDepthSpec)) parserDepthCard

/-- THE SECOND FORM's CARD OF 'stagepostlaw14.ParserNames'. -/
def parserNamesUptoCard : Claim7 := { stood := { row := parserNamesUptoRow, standIns := [], harness := (true, "5beeebca3c2a13071b8d12847e873d1d380f2a6695fe85bc8698a5f7acb95023"), looks := true }, kinds := [], alts := [], laidByText := true, laidKinds := [.data, .data, .data, .data, .data, .data, .data, .pinned], laidTests := true, laidLooks := .later }
def ParserNamesUptoCardSaid : Prop := Claim7.holds Tryz.pinned (.plain (OpenSpec.upto parserNamesSpec)) parserNamesUptoCard

/-- THE SECOND FORM's CARD OF 'stagepostlaw14.ParserBlanks'. -/
def parserBlanksUptoCard : Claim7 := { stood := { row := parserBlanksUptoRow, standIns := [], harness := (true, "5beeebca3c2a13071b8d12847e873d1d380f2a6695fe85bc8698a5f7acb95023"), looks := true }, kinds := [], alts := [], laidByText := true, laidKinds := [.data, .data, .data, .data, .data, .data, .data, .pinned, .pinned], laidTests := true, laidLooks := .later }
def ParserBlanksUptoCardSaid : Prop := Claim7.holds Tryz.pinned (.plain (OpenSpec.upto parserBlanksSpec)) parserBlanksUptoCard

/-- THE SECOND FORM's CARD OF 'stagepostlaw14.ParserDepth'. -/
def parserDepthUptoCard : Claim7 := { stood := { row := parserDepthUptoRow, standIns := [], harness := (true, "5beeebca3c2a13071b8d12847e873d1d380f2a6695fe85bc8698a5f7acb95023"), looks := true }, kinds := [], alts := [], laidByText := true, laidKinds := [.data, .data, .data, .data, .data, .data, .data, .pinned], laidTests := true, laidLooks := .later }
def ParserDepthUptoCardSaid : Prop := Claim7.holds Tryz.pinned (.plain (OpenSpec.upto parserDepthSpec)) parserDepthUptoCard
end Rows
end Go.Proofs.YtedamaccflhmfaaGreatDoor
