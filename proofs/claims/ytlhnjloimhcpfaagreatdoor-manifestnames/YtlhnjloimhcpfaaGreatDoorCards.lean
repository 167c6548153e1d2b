/-
  DERIVED. GIVEN WITH THE SEED: THE CARDS: each row of YtlhnjloimhcpfaaGreatDoorRows.lean that lists a variable, with what it lists TIED to the program's text (the seventh form; the later family's looks); each row that meets fmt, with fmt's text TOLD by the authors' own Lean function (tested against real Go, not proved from fmt's source: count such statements apart). THE CARD IS WHAT COUNTS. Prove the row's statement (the work); the ties are given (YtlhnjloimhcpfaaGreatDoorTie.lean); close each card by the builder's one call (the guide's Derived/Test/ToyasCard.lean, 'card_holds'). Laid BY PROGRAM, IN A SANDBOX (cutbox-door.mjs). By AI agents, Wed Nov 11 2026. No macro, syntax, notation, axiom, sorry.
-/
import Derived.Test.YtlhnjloimhcpfaaGreatDoorRows
import GoSem.ClaimSeven
namespace Go.Proofs.YtlhnjloimhcpfaaGreatDoor
namespace Rows

/-- THE TIED CARD OF 'stagepostlaw10.ManifestNames'. -/
def manifestNamesCard : Claim7 := { stood := { row := manifestNamesRow, standIns := [], harness := (true, "3ddccab758726ef77137d9bd79f516d99b6e00714e88b7157d76f56537c335f5"), looks := true }, kinds := [], alts := [], laidByText := true, laidKinds := [.data, .data, .data, .sentinel, .sentinel], laidTests := true, laidLooks := .later }
def ManifestNamesCardSaid : Prop := Claim7.holds Tryz.pinned (.plain (OpenSpec.ofChange manifestNamesSpec)) manifestNamesCard

/-- THE TIED CARD OF 'stagepostlaw10.ManifestPure'. -/
def manifestPureCard : Claim7 := { stood := { row := manifestPureRow, standIns := [], harness := (true, "3ddccab758726ef77137d9bd79f516d99b6e00714e88b7157d76f56537c335f5"), looks := true }, kinds := [], alts := [], laidByText := true, laidKinds := [.data, .data, .data, .sentinel, .sentinel], laidTests := true, laidLooks := .later }
def ManifestPureCardSaid : Prop := Claim7.holds Tryz.pinned (.plain (OpenSpec.ofChange manifestPureSpec)) manifestPureCard

/-- THE TIED CARD OF 'stagepostlaw10.ManifestScript'. -/
def manifestScriptCard : Claim7 := { stood := { row := manifestScriptRow, standIns := [], harness := (true, "3ddccab758726ef77137d9bd79f516d99b6e00714e88b7157d76f56537c335f5"), looks := true }, kinds := [], alts := [], laidByText := true, laidKinds := [.data, .data, .data, .sentinel, .sentinel], laidTests := true, laidLooks := .later }
def ManifestScriptCardSaid : Prop := Claim7.holds Tryz.pinned (.plain (OpenSpec.ofChange manifestScriptSpec)) manifestScriptCard

/-- THE TIED CARD OF 'stagepostlaw10.ManifestNil'. -/
def manifestNilCard : Claim7 := { stood := { row := manifestNilRow, standIns := [], harness := (true, "3ddccab758726ef77137d9bd79f516d99b6e00714e88b7157d76f56537c335f5"), looks := true }, kinds := [], alts := [], laidByText := true, laidKinds := [.data, .data, .data, .sentinel, .sentinel], laidTests := true, laidLooks := .later }
def ManifestNilCardSaid : Prop := Claim7.holds Tryz.pinned (.plain (OpenSpec.ofChange manifestNilSpec)) manifestNilCard

/-- THE TIED CARD OF 'stagepostlaw10.ManifestBack'. -/
def manifestBackCard : Claim7 := { stood := { row := manifestBackRow, standIns := [], harness := (true, "3ddccab758726ef77137d9bd79f516d99b6e00714e88b7157d76f56537c335f5"), looks := true }, kinds := [], alts := [], laidByText := true, laidKinds := [.data, .data, .data, .sentinel, .sentinel], laidTests := true, laidLooks := .later }
def ManifestBackCardSaid : Prop := Claim7.holds Tryz.pinned (.plain (OpenSpec.ofChange manifestBackSpec)) manifestBackCard

/-- THE TIED CARD OF 'stagepostlaw10.ManifestKeeps'. -/
def manifestKeepsCard : Claim7 := { stood := { row := manifestKeepsRow, standIns := [], harness := (true, "3ddccab758726ef77137d9bd79f516d99b6e00714e88b7157d76f56537c335f5"), looks := true }, kinds := [], alts := [], laidByText := true, laidKinds := [.data, .data, .data, .sentinel, .sentinel], laidTests := true, laidLooks := .later }
def ManifestKeepsCardSaid : Prop := Claim7.holds Tryz.pinned (.plain (OpenSpec.ofChange manifestKeepsSpec)) manifestKeepsCard

/-- THE SECOND FORM's CARD OF 'stagepostlaw10.ManifestNames'. -/
def manifestNamesUptoCard : Claim7 := { stood := { row := manifestNamesUptoRow, standIns := [], harness := (true, "3ddccab758726ef77137d9bd79f516d99b6e00714e88b7157d76f56537c335f5"), looks := true }, kinds := [], alts := [], laidByText := true, laidKinds := [.data, .data, .data, .sentinel, .sentinel], laidTests := true, laidLooks := .later }
def ManifestNamesUptoCardSaid : Prop := Claim7.holds Tryz.pinned (.plain (OpenSpec.upto manifestNamesSpec)) manifestNamesUptoCard

/-- THE SECOND FORM's CARD OF 'stagepostlaw10.ManifestPure'. -/
def manifestPureUptoCard : Claim7 := { stood := { row := manifestPureUptoRow, standIns := [], harness := (true, "3ddccab758726ef77137d9bd79f516d99b6e00714e88b7157d76f56537c335f5"), looks := true }, kinds := [], alts := [], laidByText := true, laidKinds := [.data, .data, .data, .sentinel, .sentinel], laidTests := true, laidLooks := .later }
def ManifestPureUptoCardSaid : Prop := Claim7.holds Tryz.pinned (.plain (OpenSpec.upto manifestPureSpec)) manifestPureUptoCard

/-- THE SECOND FORM's CARD OF 'stagepostlaw10.ManifestScript'. -/
def manifestScriptUptoCard : Claim7 := { stood := { row := manifestScriptUptoRow, standIns := [], harness := (true, "3ddccab758726ef77137d9bd79f516d99b6e00714e88b7157d76f56537c335f5"), looks := true }, kinds := [], alts := [], laidByText := true, laidKinds := [.data, .data, .data, .sentinel, .sentinel], laidTests := true, laidLooks := .later }
def ManifestScriptUptoCardSaid : Prop := Claim7.holds Tryz.pinned (.plain (OpenSpec.upto manifestScriptSpec)) manifestScriptUptoCard

/-- THE SECOND FORM's CARD OF 'stagepostlaw10.ManifestNil'. -/
def manifestNilUptoCard : Claim7 := { stood := { row := manifestNilUptoRow, standIns := [], harness := (true, "3ddccab758726ef77137d9bd79f516d99b6e00714e88b7157d76f56537c335f5"), looks := true }, kinds := [], alts := [], laidByText := true, laidKinds := [.data, .data, .data, .sentinel, .sentinel], laidTests := true, laidLooks := .later }
def ManifestNilUptoCardSaid : Prop := Claim7.holds Tryz.pinned (.plain (OpenSpec.upto manifestNilSpec)) manifestNilUptoCard

/-- THE SECOND FORM's CARD OF 'stagepostlaw10.ManifestBack'. -/
def manifestBackUptoCard : Claim7 := { stood := { row := manifestBackUptoRow, standIns := [], harness := (true, "3ddccab758726ef77137d9bd79f516d99b6e00714e88b7157d76f56537c335f5"), looks := true }, kinds := [], alts := [], laidByText := true, laidKinds := [.data, .data, .data, .sentinel, .sentinel], laidTests := true, laidLooks := .later }
def ManifestBackUptoCardSaid : Prop := Claim7.holds Tryz.pinned (.plain (OpenSpec.upto manifestBackSpec)) manifestBackUptoCard

/-- THE SECOND FORM's CARD OF 'stagepostlaw10.ManifestKeeps'. -/
def manifestKeepsUptoCard : Claim7 := { stood := { row := manifestKeepsUptoRow, standIns := [], harness := (true, "3ddccab758726ef77137d9bd79f516d99b6e00714e88b7157d76f56537c335f5"), looks := true }, kinds := [], alts := [], laidByText := true, laidKinds := [.data, .data, .data, .sentinel, .sentinel], laidTests := true, laidLooks := .later }
def ManifestKeepsUptoCardSaid : Prop := Claim7.holds Tryz.pinned (.plain (OpenSpec.upto manifestKeepsSpec)) manifestKeepsUptoCard
end Rows
end Go.Proofs.YtlhnjloimhcpfaaGreatDoor
