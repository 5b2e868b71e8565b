/-
  DERIVED. GIVEN WITH THE SEED: THE CARDS: each row of YtjkneekfijibiabGreatDoorRows.lean that lists a variable, with what it lists TIED to the program's text (the seventh form; the later family's looks); each row that meets fmt, with fmt's text TOLD by the authors' own Lean function (tested against real Go, not proved from fmt's source: count such statements apart). THE CARD IS WHAT COUNTS. Prove the row's statement (the work); the ties are given (YtjkneekfijibiabGreatDoorTie.lean); close each card by the builder's one call (the guide's Derived/Test/ToyasCard.lean, 'card_holds'). Laid BY PROGRAM, IN A SANDBOX (cutbox-door.mjs). By AI agents, Wed Nov 11 2026. No macro, syntax, notation, axiom, sorry.
-/
import Derived.Test.YtjkneekfijibiabGreatDoorRows
import GoSem.ClaimSeven
namespace Go.Proofs.YtjkneekfijibiabGreatDoor
namespace Rows

/-- THE TIED CARD OF 'almshouselaw.TreePlays'. -/
def treePlaysCard : Claim7 := { stood := { row := treePlaysRow, standIns := [], harness := (true, "f21e69551ca726b50f623e58211379270da942a232e185ebb18e63a9eeac3f18"), looks := true }, kinds := [], alts := [], laidByText := true, laidKinds := [.data, .handle, .pinned], laidTests := true, laidLooks := .later }
def TreePlaysCardSaid : Prop := Claim7.holds Tryz.pinned (.plain (OpenSpec.ofChange treePlaysSpec)) treePlaysCard

/-- THE TIED CARD OF 'almshousekeep.TreeLinks'. -/
def treeLinksCard : Claim7 := { stood := { row := treeLinksRow, standIns := [], harness := (true, "f21e69551ca726b50f623e58211379270da942a232e185ebb18e63a9eeac3f18"), looks := true }, kinds := [], alts := [], laidByText := true, laidKinds := [.data, .data, .data, .data, .handle, .pinned], laidTests := true, laidLooks := .later }
def TreeLinksCardSaid : Prop := Claim7.holds Tryz.pinned (.plain (OpenSpec.ofChange treeLinksSpec)) treeLinksCard

/-- THE TIED CARD OF 'almshousekeep.TreePieces'. -/
def treePiecesCard : Claim7 := { stood := { row := treePiecesRow, standIns := [], harness := (true, "f21e69551ca726b50f623e58211379270da942a232e185ebb18e63a9eeac3f18"), looks := true }, kinds := [], alts := [], laidByText := true, laidKinds := [.data, .handle, .pinned], laidTests := true, laidLooks := .later }
def TreePiecesCardSaid : Prop := Claim7.holds Tryz.pinned (.plain (OpenSpec.ofChange treePiecesSpec)) treePiecesCard

/-- THE TIED CARD OF 'almshouselaw.DescPlays'. -/
def descPlaysCard : Claim7 := { stood := { row := descPlaysRow, standIns := [], harness := (true, "f21e69551ca726b50f623e58211379270da942a232e185ebb18e63a9eeac3f18"), looks := true }, kinds := [], alts := [], laidByText := true, laidKinds := [.data, .handle, .pinned], laidTests := true, laidLooks := .later }
def DescPlaysCardSaid : Prop := Claim7.holds Tryz.pinned (.plain (OpenSpec.ofChange descPlaysSpec)) descPlaysCard

/-- THE TIED CARD OF 'almshousekeep.DescCloses'. -/
def descClosesCard : Claim7 := { stood := { row := descClosesRow, standIns := [], harness := (true, "f21e69551ca726b50f623e58211379270da942a232e185ebb18e63a9eeac3f18"), looks := true }, kinds := [], alts := [], laidByText := true, laidKinds := [.data, .handle, .pinned], laidTests := true, laidLooks := .later }
def DescClosesCardSaid : Prop := Claim7.holds Tryz.pinned (.plain (OpenSpec.ofChange descClosesSpec)) descClosesCard

/-- THE TIED CARD OF 'almshousekeep.DescShares'. -/
def descSharesCard : Claim7 := { stood := { row := descSharesRow, standIns := [], harness := (true, "f21e69551ca726b50f623e58211379270da942a232e185ebb18e63a9eeac3f18"), looks := true }, kinds := [], alts := [], laidByText := true, laidKinds := [.data, .handle, .pinned], laidTests := true, laidLooks := .later }
def DescSharesCardSaid : Prop := Claim7.holds Tryz.pinned (.plain (OpenSpec.ofChange descSharesSpec)) descSharesCard

/-- THE SECOND FORM's CARD OF 'almshouselaw.TreePlays'. -/
def treePlaysUptoCard : Claim7 := { stood := { row := treePlaysUptoRow, standIns := [], harness := (true, "f21e69551ca726b50f623e58211379270da942a232e185ebb18e63a9eeac3f18"), looks := true }, kinds := [], alts := [], laidByText := true, laidKinds := [.data, .handle, .pinned], laidTests := true, laidLooks := .later }
def TreePlaysUptoCardSaid : Prop := Claim7.holds Tryz.pinned (.plain (OpenSpec.upto treePlaysSpec)) treePlaysUptoCard

/-- THE SECOND FORM's CARD OF 'almshousekeep.TreeLinks'. -/
def treeLinksUptoCard : Claim7 := { stood := { row := treeLinksUptoRow, standIns := [], harness := (true, "f21e69551ca726b50f623e58211379270da942a232e185ebb18e63a9eeac3f18"), looks := true }, kinds := [], alts := [], laidByText := true, laidKinds := [.data, .data, .data, .data, .handle, .pinned], laidTests := true, laidLooks := .later }
def TreeLinksUptoCardSaid : Prop := Claim7.holds Tryz.pinned (.plain (OpenSpec.upto treeLinksSpec)) treeLinksUptoCard

/-- THE SECOND FORM's CARD OF 'almshousekeep.TreePieces'. -/
def treePiecesUptoCard : Claim7 := { stood := { row := treePiecesUptoRow, standIns := [], harness := (true, "f21e69551ca726b50f623e58211379270da942a232e185ebb18e63a9eeac3f18"), looks := true }, kinds := [], alts := [], laidByText := true, laidKinds := [.data, .handle, .pinned], laidTests := true, laidLooks := .later }
def TreePiecesUptoCardSaid : Prop := Claim7.holds Tryz.pinned (.plain (OpenSpec.upto treePiecesSpec)) treePiecesUptoCard

/-- THE SECOND FORM's CARD OF 'almshouselaw.DescPlays'. -/
def descPlaysUptoCard : Claim7 := { stood := { row := descPlaysUptoRow, standIns := [], harness := (true, "f21e69551ca726b50f623e58211379270da942a232e185ebb18e63a9eeac3f18"), looks := true }, kinds := [], alts := [], laidByText := true, laidKinds := [.data, .handle, .pinned], laidTests := true, laidLooks := .later }
def DescPlaysUptoCardSaid : Prop := Claim7.holds Tryz.pinned (.plain (OpenSpec.upto descPlaysSpec)) descPlaysUptoCard

/-- THE SECOND FORM's CARD OF 'almshousekeep.DescCloses'. -/
def descClosesUptoCard : Claim7 := { stood := { row := descClosesUptoRow, standIns := [], harness := (true, "f21e69551ca726b50f623e58211379270da942a232e185ebb18e63a9eeac3f18"), looks := true }, kinds := [], alts := [], laidByText := true, laidKinds := [.data, .handle, .pinned], laidTests := true, laidLooks := .later }
def DescClosesUptoCardSaid : Prop := Claim7.holds Tryz.pinned (.plain (OpenSpec.upto descClosesSpec)) descClosesUptoCard

/-- THE SECOND FORM's CARD OF 'almshousekeep.DescShares'. -/
def descSharesUptoCard : Claim7 := { stood := { row := descSharesUptoRow, standIns := [], harness := (true, "f21e69551ca726b50f623e58211379270da942a232e185ebb18e63a9eeac3f18"), looks := true }, kinds := [], alts := [], laidByText := true, laidKinds := [.data, .handle, .pinned], laidTests := true, laidLooks := .later }
def DescSharesUptoCardSaid : Prop := Claim7.holds Tryz.pinned (.plain (OpenSpec.upto descSharesSpec)) descSharesUptoCard
end Rows
end Go.Proofs.YtjkneekfijibiabGreatDoor
