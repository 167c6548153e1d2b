/-
  DERIVED. GIVEN WITH THE SEED: THE CARDS: each row of YtppfkhpofbbnbaaGreatDoorRows.lean that lists a variable, with what it lists TIED to the program's text (the seventh form; the later family's looks); each row that meets fmt, with fmt's text TOLD by the authors' own Lean function (tested against real Go, not proved from fmt's source: count such statements apart). THE CARD IS WHAT COUNTS. Prove the row's statement (the work); the ties are given (YtppfkhpofbbnbaaGreatDoorTie.lean); close each card by the builder's one call (the guide's Derived/Test/ToyasCard.lean, 'card_holds'). Laid BY PROGRAM, IN A SANDBOX (cutbox-door.mjs). By AI agents, Wed Nov 11 2026. No macro, syntax, notation, axiom, sorry.
-/
import Derived.Test.YtppfkhpofbbnbaaGreatDoorRows
import GoSem.ClaimSeven
namespace Go.Proofs.YtppfkhpofbbnbaaGreatDoor
namespace Rows

/-- THE TIED CARD OF 'stagepostlaw05.WalNames'. -/
def walNamesCard : Claim7 := { stood := { row := walNamesRow, standIns := [], harness := (true, "f98b14321e7f8164d513b1d971b22f0700fce689a66abf3acd5a42417ad64952"), looks := true }, kinds := [], alts := [], laidByText := true, laidKinds := [.data, .data, .data, .sentinel, .sentinel], laidTests := true, laidLooks := .later }
def WalNamesCardSaid : Prop := Claim7.holds Tryz.pinned (.plain (OpenSpec.ofChange walNamesSpec)) walNamesCard

/-- THE TIED CARD OF 'stagepostlaw05.WalPure'. -/
def walPureCard : Claim7 := { stood := { row := walPureRow, standIns := [], harness := (true, "f98b14321e7f8164d513b1d971b22f0700fce689a66abf3acd5a42417ad64952"), looks := true }, kinds := [], alts := [], laidByText := true, laidKinds := [.data, .data, .data, .sentinel, .sentinel], laidTests := true, laidLooks := .later }
def WalPureCardSaid : Prop := Claim7.holds Tryz.pinned (.plain (OpenSpec.ofChange walPureSpec)) walPureCard

/-- THE TIED CARD OF 'stagepostlaw05.WalNil'. -/
def walNilCard : Claim7 := { stood := { row := walNilRow, standIns := [], harness := (true, "f98b14321e7f8164d513b1d971b22f0700fce689a66abf3acd5a42417ad64952"), looks := true }, kinds := [], alts := [], laidByText := true, laidKinds := [.data, .data, .data, .sentinel, .sentinel], laidTests := true, laidLooks := .later }
def WalNilCardSaid : Prop := Claim7.holds Tryz.pinned (.plain (OpenSpec.ofChange walNilSpec)) walNilCard

/-- THE TIED CARD OF 'stagepostlaw05.WalKeeps'. -/
def walKeepsCard : Claim7 := { stood := { row := walKeepsRow, standIns := [], harness := (true, "f98b14321e7f8164d513b1d971b22f0700fce689a66abf3acd5a42417ad64952"), looks := true }, kinds := [], alts := [], laidByText := true, laidKinds := [.data, .data, .data, .sentinel, .sentinel], laidTests := true, laidLooks := .later }
def WalKeepsCardSaid : Prop := Claim7.holds Tryz.pinned (.plain (OpenSpec.ofChange walKeepsSpec)) walKeepsCard

/-- THE TIED CARD OF 'stagepostlaw05.WalAltered'. -/
def walAlteredCard : Claim7 := { stood := { row := walAlteredRow, standIns := [], harness := (true, "f98b14321e7f8164d513b1d971b22f0700fce689a66abf3acd5a42417ad64952"), looks := true }, kinds := [], alts := [], laidByText := true, laidKinds := [.data, .data, .data, .sentinel, .sentinel], laidTests := true, laidLooks := .later }
def WalAlteredCardSaid : Prop := Claim7.holds Tryz.pinned (.plain (OpenSpec.ofChange walAlteredSpec)) walAlteredCard

/-- THE SECOND FORM's CARD OF 'stagepostlaw05.WalNames'. -/
def walNamesUptoCard : Claim7 := { stood := { row := walNamesUptoRow, standIns := [], harness := (true, "f98b14321e7f8164d513b1d971b22f0700fce689a66abf3acd5a42417ad64952"), looks := true }, kinds := [], alts := [], laidByText := true, laidKinds := [.data, .data, .data, .sentinel, .sentinel], laidTests := true, laidLooks := .later }
def WalNamesUptoCardSaid : Prop := Claim7.holds Tryz.pinned (.plain (OpenSpec.upto walNamesSpec)) walNamesUptoCard

/-- THE SECOND FORM's CARD OF 'stagepostlaw05.WalPure'. -/
def walPureUptoCard : Claim7 := { stood := { row := walPureUptoRow, standIns := [], harness := (true, "f98b14321e7f8164d513b1d971b22f0700fce689a66abf3acd5a42417ad64952"), looks := true }, kinds := [], alts := [], laidByText := true, laidKinds := [.data, .data, .data, .sentinel, .sentinel], laidTests := true, laidLooks := .later }
def WalPureUptoCardSaid : Prop := Claim7.holds Tryz.pinned (.plain (OpenSpec.upto walPureSpec)) walPureUptoCard

/-- THE SECOND FORM's CARD OF 'stagepostlaw05.WalNil'. -/
def walNilUptoCard : Claim7 := { stood := { row := walNilUptoRow, standIns := [], harness := (true, "f98b14321e7f8164d513b1d971b22f0700fce689a66abf3acd5a42417ad64952"), looks := true }, kinds := [], alts := [], laidByText := true, laidKinds := [.data, .data, .data, .sentinel, .sentinel], laidTests := true, laidLooks := .later }
def WalNilUptoCardSaid : Prop := Claim7.holds Tryz.pinned (.plain (OpenSpec.upto walNilSpec)) walNilUptoCard

/-- THE SECOND FORM's CARD OF 'stagepostlaw05.WalKeeps'. -/
def walKeepsUptoCard : Claim7 := { stood := { row := walKeepsUptoRow, standIns := [], harness := (true, "f98b14321e7f8164d513b1d971b22f0700fce689a66abf3acd5a42417ad64952"), looks := true }, kinds := [], alts := [], laidByText := true, laidKinds := [.data, .data, .data, .sentinel, .sentinel], laidTests := true, laidLooks := .later }
def WalKeepsUptoCardSaid : Prop := Claim7.holds Tryz.pinned (.plain (OpenSpec.upto walKeepsSpec)) walKeepsUptoCard

/-- THE SECOND FORM's CARD OF 'stagepostlaw05.WalAltered'. -/
def walAlteredUptoCard : Claim7 := { stood := { row := walAlteredUptoRow, standIns := [], harness := (true, "f98b14321e7f8164d513b1d971b22f0700fce689a66abf3acd5a42417ad64952"), looks := true }, kinds := [], alts := [], laidByText := true, laidKinds := [.data, .data, .data, .sentinel, .sentinel], laidTests := true, laidLooks := .later }
def WalAlteredUptoCardSaid : Prop := Claim7.holds Tryz.pinned (.plain (OpenSpec.upto walAlteredSpec)) walAlteredUptoCard
end Rows
end Go.Proofs.YtppfkhpofbbnbaaGreatDoor
