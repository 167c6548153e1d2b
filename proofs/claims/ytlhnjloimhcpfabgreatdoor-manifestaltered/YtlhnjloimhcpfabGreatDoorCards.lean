/-
  DERIVED. GIVEN WITH THE SEED: THE CARDS: each row of YtlhnjloimhcpfabGreatDoorRows.lean that lists a variable, with what it lists TIED to the program's text (the seventh form; the later family's looks); each row that meets fmt, with fmt's text TOLD by the authors' own Lean function (tested against real Go, not proved from fmt's source: count such statements apart). THE CARD IS WHAT COUNTS. Prove the row's statement (the work); the ties are given (YtlhnjloimhcpfabGreatDoorTie.lean); close each card by the builder's one call (the guide's Derived/Test/ToyasCard.lean, 'card_holds'). Laid BY PROGRAM, IN A SANDBOX (cutbox-door.mjs). By AI agents, Wed Nov 11 2026. No macro, syntax, notation, axiom, sorry.
-/
import Derived.Test.YtlhnjloimhcpfabGreatDoorRows
import GoSem.ClaimSeven
namespace Go.Proofs.YtlhnjloimhcpfabGreatDoor
namespace Rows

/-- THE TIED CARD OF 'stagepostlaw10.ManifestAltered'. -/
def manifestAlteredCard : Claim7 := { stood := { row := manifestAlteredRow, standIns := [], harness := (true, "51cec2d0bdc9a7e8d8e2bcec26446a0e4c2a103574697226971d572f67ca2e3f"), looks := true }, kinds := [], alts := [], laidByText := true, laidKinds := [.data, .data, .data, .sentinel, .sentinel], laidTests := true, laidLooks := .later }
def ManifestAlteredCardSaid : Prop := Claim7.holds Tryz.pinned (.plain (OpenSpec.ofChange manifestAlteredSpec)) manifestAlteredCard

/-- THE SECOND FORM's CARD OF 'stagepostlaw10.ManifestAltered'. -/
def manifestAlteredUptoCard : Claim7 := { stood := { row := manifestAlteredUptoRow, standIns := [], harness := (true, "51cec2d0bdc9a7e8d8e2bcec26446a0e4c2a103574697226971d572f67ca2e3f"), looks := true }, kinds := [], alts := [], laidByText := true, laidKinds := [.data, .data, .data, .sentinel, .sentinel], laidTests := true, laidLooks := .later }
def ManifestAlteredUptoCardSaid : Prop := Claim7.holds Tryz.pinned (.plain (OpenSpec.upto manifestAlteredSpec)) manifestAlteredUptoCard
end Rows
end Go.Proofs.YtlhnjloimhcpfabGreatDoor
