/-
  DERIVED. GIVEN WITH THE SEED: THE CARDS: each row of YtnddkmccagiclaaDoorRows.lean that lists a variable, with what it lists TIED to the program's text (the seventh form; the later family's looks); each row that meets fmt, with fmt's text TOLD by the authors' own Lean function (tested against real Go, not proved from fmt's source: count such statements apart). THE CARD IS WHAT COUNTS. Prove the row's statement (the work); the ties are given (YtnddkmccagiclaaDoorTie.lean); close each card by the builder's one call (the guide's Derived/Test/ToyasCard.lean, 'card_holds'). Laid BY PROGRAM, IN A SANDBOX (cutbox-door.mjs). By AI agents, Wed Nov 11 2026. No macro, syntax, notation, axiom, sorry.
-/
import Derived.Test.YtnddkmccagiclaaDoorRows
import GoSem.ClaimSeven
namespace Go.Proofs.YtnddkmccagiclaaDoor
namespace Rows

/-- THE TIED CARD OF 'chaperonekeep.TermBack'. -/
def termBackCard : Claim7 := { stood := { row := termBackRow, standIns := [], harness := (true, "8a32a921f90e68cc824331cbc493f4fc2ea7d7641918d6b7a18ea68918cb97d3"), looks := true }, kinds := [], alts := [], laidByText := true, laidKinds := [.data, .data, .data, .data, .sentinel, .sentinel, .data, .data, .data, .data, .pinned], laidTests := true, laidLooks := .later }
def TermBackCardSaid : Prop := Claim7.holds Tryd.pinned (.plain (OpenSpec.ofChange termBackSpec)) termBackCard

/-- THE TIED CARD OF 'chaperonelaw.CheckTells'. -/
def checkTellsCard : Claim7 := { stood := { row := checkTellsRow, standIns := [], harness := (true, "8a32a921f90e68cc824331cbc493f4fc2ea7d7641918d6b7a18ea68918cb97d3"), looks := true }, kinds := [], alts := [], laidByText := true, laidKinds := [.data], laidTests := true, laidLooks := .later }
def CheckTellsCardSaid : Prop := Claim7.holds Tryd.pinned (.plain (OpenSpec.ofChange checkTellsSpec)) checkTellsCard

/-- THE TIED CARD OF 'chaperonekeep.CheckSites'. -/
def checkSitesCard : Claim7 := { stood := { row := checkSitesRow, standIns := [], harness := (true, "8a32a921f90e68cc824331cbc493f4fc2ea7d7641918d6b7a18ea68918cb97d3"), looks := true }, kinds := [], alts := [], laidByText := true, laidKinds := [.data], laidTests := true, laidLooks := .later }
def CheckSitesCardSaid : Prop := Claim7.holds Tryd.pinned (.plain (OpenSpec.ofChange checkSitesSpec)) checkSitesCard

/-- THE TIED CARD OF 'chaperonekeep.CheckSure'. -/
def checkSureCard : Claim7 := { stood := { row := checkSureRow, standIns := [], harness := (true, "8a32a921f90e68cc824331cbc493f4fc2ea7d7641918d6b7a18ea68918cb97d3"), looks := true }, kinds := [], alts := [], laidByText := true, laidKinds := [.data], laidTests := true, laidLooks := .later }
def CheckSureCardSaid : Prop := Claim7.holds Tryd.pinned (.plain (OpenSpec.ofChange checkSureSpec)) checkSureCard

/-- THE TIED CARD OF 'chaperonekeep.CheckLoose'. -/
def checkLooseCard : Claim7 := { stood := { row := checkLooseRow, standIns := [], harness := (true, "8a32a921f90e68cc824331cbc493f4fc2ea7d7641918d6b7a18ea68918cb97d3"), looks := true }, kinds := [], alts := [], laidByText := true, laidKinds := [.data], laidTests := true, laidLooks := .later }
def CheckLooseCardSaid : Prop := Claim7.holds Tryd.pinned (.plain (OpenSpec.ofChange checkLooseSpec)) checkLooseCard

/-- THE SECOND FORM's CARD OF 'chaperonekeep.TermBack'. -/
def termBackUptoCard : Claim7 := { stood := { row := termBackUptoRow, standIns := [], harness := (true, "8a32a921f90e68cc824331cbc493f4fc2ea7d7641918d6b7a18ea68918cb97d3"), looks := true }, kinds := [], alts := [], laidByText := true, laidKinds := [.data, .data, .data, .data, .sentinel, .sentinel, .data, .data, .data, .data, .pinned], laidTests := true, laidLooks := .later }
def TermBackUptoCardSaid : Prop := Claim7.holds Tryd.pinned (.plain (OpenSpec.upto termBackSpec)) termBackUptoCard

/-- THE SECOND FORM's CARD OF 'chaperonelaw.CheckTells'. -/
def checkTellsUptoCard : Claim7 := { stood := { row := checkTellsUptoRow, standIns := [], harness := (true, "8a32a921f90e68cc824331cbc493f4fc2ea7d7641918d6b7a18ea68918cb97d3"), looks := true }, kinds := [], alts := [], laidByText := true, laidKinds := [.data], laidTests := true, laidLooks := .later }
def CheckTellsUptoCardSaid : Prop := Claim7.holds Tryd.pinned (.plain (OpenSpec.upto checkTellsSpec)) checkTellsUptoCard

/-- THE SECOND FORM's CARD OF 'chaperonekeep.CheckSites'. -/
def checkSitesUptoCard : Claim7 := { stood := { row := checkSitesUptoRow, standIns := [], harness := (true, "8a32a921f90e68cc824331cbc493f4fc2ea7d7641918d6b7a18ea68918cb97d3"), looks := true }, kinds := [], alts := [], laidByText := true, laidKinds := [.data], laidTests := true, laidLooks := .later }
def CheckSitesUptoCardSaid : Prop := Claim7.holds Tryd.pinned (.plain (OpenSpec.upto checkSitesSpec)) checkSitesUptoCard

/-- THE SECOND FORM's CARD OF 'chaperonekeep.CheckSure'. -/
def checkSureUptoCard : Claim7 := { stood := { row := checkSureUptoRow, standIns := [], harness := (true, "8a32a921f90e68cc824331cbc493f4fc2ea7d7641918d6b7a18ea68918cb97d3"), looks := true }, kinds := [], alts := [], laidByText := true, laidKinds := [.data], laidTests := true, laidLooks := .later }
def CheckSureUptoCardSaid : Prop := Claim7.holds Tryd.pinned (.plain (OpenSpec.upto checkSureSpec)) checkSureUptoCard

/-- THE SECOND FORM's CARD OF 'chaperonekeep.CheckLoose'. -/
def checkLooseUptoCard : Claim7 := { stood := { row := checkLooseUptoRow, standIns := [], harness := (true, "8a32a921f90e68cc824331cbc493f4fc2ea7d7641918d6b7a18ea68918cb97d3"), looks := true }, kinds := [], alts := [], laidByText := true, laidKinds := [.data], laidTests := true, laidLooks := .later }
def CheckLooseUptoCardSaid : Prop := Claim7.holds Tryd.pinned (.plain (OpenSpec.upto checkLooseSpec)) checkLooseUptoCard
end Rows
end Go.Proofs.YtnddkmccagiclaaDoor
