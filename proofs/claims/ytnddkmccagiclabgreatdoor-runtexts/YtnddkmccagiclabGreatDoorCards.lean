/-
  DERIVED. GIVEN WITH THE SEED: THE CARDS: each row of YtnddkmccagiclabGreatDoorRows.lean that lists a variable, with what it lists TIED to the program's text (the seventh form; the later family's looks); each row that meets fmt, with fmt's text TOLD by the authors' own Lean function (tested against real Go, not proved from fmt's source: count such statements apart). THE CARD IS WHAT COUNTS. Prove the row's statement (the work); the ties are given (YtnddkmccagiclabGreatDoorTie.lean); close each card by the builder's one call (the guide's Derived/Test/ToyasCard.lean, 'card_holds'). Laid BY PROGRAM, IN A SANDBOX (cutbox-door.mjs). By AI agents, Wed Nov 11 2026. No macro, syntax, notation, axiom, sorry.
-/
import Derived.Test.YtnddkmccagiclabGreatDoorRows
import GoSem.ClaimSeven
namespace Go.Proofs.YtnddkmccagiclabGreatDoor
namespace Rows

/-- THE TIED CARD OF 'chaperonetop.TopBlame'. -/
def topBlameCard : Claim7 := { stood := { row := topBlameRow, standIns := [], harness := (true, "19c8d8f680a76e928fa8c1b2888c547547ef90a93caacbc2ed8182b5dc709f6e"), looks := true }, kinds := [], alts := [], laidByText := true, laidKinds := [.data, .data, .data, .data, .sentinel, .sentinel, .data, .data, .data, .data, .pinned], laidTests := true, laidLooks := .later }
def TopBlameCardSaid : Prop := Claim7.holds Tryz.pinned (.plain (OpenSpec.ofChange topBlameSpec)) topBlameCard

/-- THE TIED CARD OF 'chaperonetop.TopSure'. -/
def topSureCard : Claim7 := { stood := { row := topSureRow, standIns := [], harness := (true, "19c8d8f680a76e928fa8c1b2888c547547ef90a93caacbc2ed8182b5dc709f6e"), looks := true }, kinds := [], alts := [], laidByText := true, laidKinds := [.data, .data, .data, .data, .sentinel, .sentinel, .data, .data, .data, .data, .pinned], laidTests := true, laidLooks := .later }
def TopSureCardSaid : Prop := Claim7.holds Tryz.pinned (.plain (OpenSpec.ofChange topSureSpec)) topSureCard

/-- THE TIED CARD OF 'chaperonetop.TopErased'. -/
def topErasedCard : Claim7 := { stood := { row := topErasedRow, standIns := [], harness := (true, "19c8d8f680a76e928fa8c1b2888c547547ef90a93caacbc2ed8182b5dc709f6e"), looks := true }, kinds := [], alts := [], laidByText := true, laidKinds := [.data, .data, .data, .data, .sentinel, .sentinel, .data, .data, .data, .data, .pinned], laidTests := true, laidLooks := .later }
def TopErasedCardSaid : Prop := Claim7.holds Tryz.pinned (.plain (OpenSpec.ofChange topErasedSpec)) topErasedCard

/-- THE TIED CARD OF 'chaperonetop.TopLoose'. -/
def topLooseCard : Claim7 := { stood := { row := topLooseRow, standIns := [], harness := (true, "19c8d8f680a76e928fa8c1b2888c547547ef90a93caacbc2ed8182b5dc709f6e"), looks := true }, kinds := [], alts := [], laidByText := true, laidKinds := [.data, .data, .data, .data, .sentinel, .sentinel, .data, .data, .data, .data, .pinned], laidTests := true, laidLooks := .later }
def TopLooseCardSaid : Prop := Claim7.holds Tryz.pinned (.plain (OpenSpec.ofChange topLooseSpec)) topLooseCard

/-- THE TIED CARD OF 'chaperonetop.TopMore'. -/
def topMoreCard : Claim7 := { stood := { row := topMoreRow, standIns := [], harness := (true, "19c8d8f680a76e928fa8c1b2888c547547ef90a93caacbc2ed8182b5dc709f6e"), looks := true }, kinds := [], alts := [], laidByText := true, laidKinds := [.data, .data, .data, .data, .sentinel, .sentinel, .data, .data, .data, .data, .pinned], laidTests := true, laidLooks := .later }
def TopMoreCardSaid : Prop := Claim7.holds Tryz.pinned (.plain (OpenSpec.ofChange topMoreSpec)) topMoreCard

/-- THE TIED CARD OF 'chaperonetop.TopTexts'. -/
def topTextsCard : Claim7 := { stood := { row := topTextsRow, standIns := [], harness := (true, "19c8d8f680a76e928fa8c1b2888c547547ef90a93caacbc2ed8182b5dc709f6e"), looks := true }, kinds := [], alts := [], laidByText := true, laidKinds := [.data, .data, .data, .data, .sentinel, .sentinel, .data, .data, .data, .data, .pinned], laidTests := true, laidLooks := .later }
def TopTextsCardSaid : Prop := Claim7.holds Tryz.pinned (.plain (OpenSpec.ofChange topTextsSpec)) topTextsCard

/-- THE TIED CARD OF 'chaperonelaw.RunTells'. -/
def runTellsCard : Claim7 := { stood := { row := runTellsRow, standIns := [], harness := (true, "19c8d8f680a76e928fa8c1b2888c547547ef90a93caacbc2ed8182b5dc709f6e"), looks := true }, kinds := [], alts := [], laidByText := true, laidKinds := [.data, .data, .data, .data, .sentinel, .sentinel, .data, .data, .data, .data, .pinned], laidTests := true, laidLooks := .later }
def RunTellsCardSaid : Prop := Claim7.holds Tryz.pinned (.plain (OpenSpec.ofChange runTellsSpec)) runTellsCard

/-- THE TIED CARD OF 'chaperonelaw.RunTexts'. -/
def runTextsCard : Claim7 := { stood := { row := runTextsRow, standIns := [], harness := (true, "19c8d8f680a76e928fa8c1b2888c547547ef90a93caacbc2ed8182b5dc709f6e"), looks := true }, kinds := [], alts := [], laidByText := true, laidKinds := [.data, .data, .data, .data, .sentinel, .sentinel, .listed, .data, .data, .data, .data, .data, .pinned], laidTests := true, laidLooks := .later }
def RunTextsCardSaid : Prop := Claim7.holds Tryz.pinned (.plain (OpenSpec.ofChange runTextsSpec)) runTextsCard

/-- THE SECOND FORM's CARD OF 'chaperonetop.TopBlame'. -/
def topBlameUptoCard : Claim7 := { stood := { row := topBlameUptoRow, standIns := [], harness := (true, "19c8d8f680a76e928fa8c1b2888c547547ef90a93caacbc2ed8182b5dc709f6e"), looks := true }, kinds := [], alts := [], laidByText := true, laidKinds := [.data, .data, .data, .data, .sentinel, .sentinel, .data, .data, .data, .data, .pinned], laidTests := true, laidLooks := .later }
def TopBlameUptoCardSaid : Prop := Claim7.holds Tryz.pinned (.plain (OpenSpec.upto topBlameSpec)) topBlameUptoCard

/-- THE SECOND FORM's CARD OF 'chaperonetop.TopSure'. -/
def topSureUptoCard : Claim7 := { stood := { row := topSureUptoRow, standIns := [], harness := (true, "19c8d8f680a76e928fa8c1b2888c547547ef90a93caacbc2ed8182b5dc709f6e"), looks := true }, kinds := [], alts := [], laidByText := true, laidKinds := [.data, .data, .data, .data, .sentinel, .sentinel, .data, .data, .data, .data, .pinned], laidTests := true, laidLooks := .later }
def TopSureUptoCardSaid : Prop := Claim7.holds Tryz.pinned (.plain (OpenSpec.upto topSureSpec)) topSureUptoCard

/-- THE SECOND FORM's CARD OF 'chaperonetop.TopErased'. -/
def topErasedUptoCard : Claim7 := { stood := { row := topErasedUptoRow, standIns := [], harness := (true, "19c8d8f680a76e928fa8c1b2888c547547ef90a93caacbc2ed8182b5dc709f6e"), looks := true }, kinds := [], alts := [], laidByText := true, laidKinds := [.data, .data, .data, .data, .sentinel, .sentinel, .data, .data, .data, .data, .pinned], laidTests := true, laidLooks := .later }
def TopErasedUptoCardSaid : Prop := Claim7.holds Tryz.pinned (.plain (OpenSpec.upto topErasedSpec)) topErasedUptoCard

/-- THE SECOND FORM's CARD OF 'chaperonetop.TopLoose'. -/
def topLooseUptoCard : Claim7 := { stood := { row := topLooseUptoRow, standIns := [], harness := (true, "19c8d8f680a76e928fa8c1b2888c547547ef90a93caacbc2ed8182b5dc709f6e"), looks := true }, kinds := [], alts := [], laidByText := true, laidKinds := [.data, .data, .data, .data, .sentinel, .sentinel, .data, .data, .data, .data, .pinned], laidTests := true, laidLooks := .later }
def TopLooseUptoCardSaid : Prop := Claim7.holds Tryz.pinned (.plain (OpenSpec.upto topLooseSpec)) topLooseUptoCard

/-- THE SECOND FORM's CARD OF 'chaperonetop.TopMore'. -/
def topMoreUptoCard : Claim7 := { stood := { row := topMoreUptoRow, standIns := [], harness := (true, "19c8d8f680a76e928fa8c1b2888c547547ef90a93caacbc2ed8182b5dc709f6e"), looks := true }, kinds := [], alts := [], laidByText := true, laidKinds := [.data, .data, .data, .data, .sentinel, .sentinel, .data, .data, .data, .data, .pinned], laidTests := true, laidLooks := .later }
def TopMoreUptoCardSaid : Prop := Claim7.holds Tryz.pinned (.plain (OpenSpec.upto topMoreSpec)) topMoreUptoCard

/-- THE SECOND FORM's CARD OF 'chaperonetop.TopTexts'. -/
def topTextsUptoCard : Claim7 := { stood := { row := topTextsUptoRow, standIns := [], harness := (true, "19c8d8f680a76e928fa8c1b2888c547547ef90a93caacbc2ed8182b5dc709f6e"), looks := true }, kinds := [], alts := [], laidByText := true, laidKinds := [.data, .data, .data, .data, .sentinel, .sentinel, .data, .data, .data, .data, .pinned], laidTests := true, laidLooks := .later }
def TopTextsUptoCardSaid : Prop := Claim7.holds Tryz.pinned (.plain (OpenSpec.upto topTextsSpec)) topTextsUptoCard

/-- THE SECOND FORM's CARD OF 'chaperonelaw.RunTells'. -/
def runTellsUptoCard : Claim7 := { stood := { row := runTellsUptoRow, standIns := [], harness := (true, "19c8d8f680a76e928fa8c1b2888c547547ef90a93caacbc2ed8182b5dc709f6e"), looks := true }, kinds := [], alts := [], laidByText := true, laidKinds := [.data, .data, .data, .data, .sentinel, .sentinel, .data, .data, .data, .data, .pinned], laidTests := true, laidLooks := .later }
def RunTellsUptoCardSaid : Prop := Claim7.holds Tryz.pinned (.plain (OpenSpec.upto runTellsSpec)) runTellsUptoCard

/-- THE SECOND FORM's CARD OF 'chaperonelaw.RunTexts'. -/
def runTextsUptoCard : Claim7 := { stood := { row := runTextsUptoRow, standIns := [], harness := (true, "19c8d8f680a76e928fa8c1b2888c547547ef90a93caacbc2ed8182b5dc709f6e"), looks := true }, kinds := [], alts := [], laidByText := true, laidKinds := [.data, .data, .data, .data, .sentinel, .sentinel, .listed, .data, .data, .data, .data, .data, .pinned], laidTests := true, laidLooks := .later }
def RunTextsUptoCardSaid : Prop := Claim7.holds Tryz.pinned (.plain (OpenSpec.upto runTextsSpec)) runTextsUptoCard
end Rows
end Go.Proofs.YtnddkmccagiclabGreatDoor
