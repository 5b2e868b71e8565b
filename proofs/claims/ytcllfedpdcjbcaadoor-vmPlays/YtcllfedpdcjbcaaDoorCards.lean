/-
  DERIVED. GIVEN WITH THE SEED: THE CARDS: each row of YtcllfedpdcjbcaaDoorRows.lean that lists a variable, with what it lists TIED to the program's text (the seventh form; the later family's looks); each row that meets fmt, with fmt's text TOLD by the authors' own Lean function (tested against real Go, not proved from fmt's source: count such statements apart). THE CARD IS WHAT COUNTS. Prove the row's statement (the work); the ties are given (YtcllfedpdcjbcaaDoorTie.lean); close each card by the builder's one call (the guide's Derived/Test/ToyasCard.lean, 'card_holds'). Laid BY PROGRAM, IN A SANDBOX (cutbox-door.mjs). By AI agents, Wed Nov 11 2026. No macro, syntax, notation, axiom, sorry.
-/
import Derived.Test.YtcllfedpdcjbcaaDoorRows
import GoSem.ClaimSeven
namespace Go.Proofs.YtcllfedpdcjbcaaDoor
namespace Rows

/-- THE TIED CARD OF 'almshouselaw.FramesPlays'. -/
def framesPlaysCard : Claim7 := { stood := { row := framesPlaysRow, standIns := [], harness := (true, "e71355ab50b19b1e0d1d67a917172edabf20744a87aa664da2c9258ea3b15c0a"), looks := true }, kinds := [], alts := [], laidByText := true, laidKinds := [.handle], laidTests := true, laidLooks := .later }
def FramesPlaysCardSaid : Prop := Claim7.holds Tryd.pinned (.plain (OpenSpec.ofChange framesPlaysSpec)) framesPlaysCard

/-- THE TIED CARD OF 'almshouselaw.BuddyPlays'. -/
def buddyPlaysCard : Claim7 := { stood := { row := buddyPlaysRow, standIns := [], harness := (true, "e71355ab50b19b1e0d1d67a917172edabf20744a87aa664da2c9258ea3b15c0a"), looks := true }, kinds := [], alts := [], laidByText := true, laidKinds := [.handle], laidTests := true, laidLooks := .later }
def BuddyPlaysCardSaid : Prop := Claim7.holds Tryd.pinned (.plain (OpenSpec.ofChange buddyPlaysSpec)) buddyPlaysCard

/-- THE TIED CARD OF 'almshousekeep.BuddyBack'. -/
def buddyBackCard : Claim7 := { stood := { row := buddyBackRow, standIns := [], harness := (true, "e71355ab50b19b1e0d1d67a917172edabf20744a87aa664da2c9258ea3b15c0a"), looks := true }, kinds := [], alts := [], laidByText := true, laidKinds := [.handle], laidTests := true, laidLooks := .later }
def BuddyBackCardSaid : Prop := Claim7.holds Tryd.pinned (.plain (OpenSpec.ofChange buddyBackSpec)) buddyBackCard

/-- THE TIED CARD OF 'almshousekeep.BuddyTrue'. -/
def buddyTrueCard : Claim7 := { stood := { row := buddyTrueRow, standIns := [], harness := (true, "e71355ab50b19b1e0d1d67a917172edabf20744a87aa664da2c9258ea3b15c0a"), looks := true }, kinds := [], alts := [], laidByText := true, laidKinds := [.handle], laidTests := true, laidLooks := .later }
def BuddyTrueCardSaid : Prop := Claim7.holds Tryd.pinned (.plain (OpenSpec.ofChange buddyTrueSpec)) buddyTrueCard

/-- THE TIED CARD OF 'almshouselaw.SlabPlays'. -/
def slabPlaysCard : Claim7 := { stood := { row := slabPlaysRow, standIns := [], harness := (true, "e71355ab50b19b1e0d1d67a917172edabf20744a87aa664da2c9258ea3b15c0a"), looks := true }, kinds := [], alts := [], laidByText := true, laidKinds := [.data, .handle], laidTests := true, laidLooks := .later }
def SlabPlaysCardSaid : Prop := Claim7.holds Tryd.pinned (.plain (OpenSpec.ofChange slabPlaysSpec)) slabPlaysCard

/-- THE TIED CARD OF 'almshousekeep.SlabCounts'. -/
def slabCountsCard : Claim7 := { stood := { row := slabCountsRow, standIns := [], harness := (true, "e71355ab50b19b1e0d1d67a917172edabf20744a87aa664da2c9258ea3b15c0a"), looks := true }, kinds := [], alts := [], laidByText := true, laidKinds := [.data, .handle], laidTests := true, laidLooks := .later }
def SlabCountsCardSaid : Prop := Claim7.holds Tryd.pinned (.plain (OpenSpec.ofChange slabCountsSpec)) slabCountsCard

/-- THE TIED CARD OF 'almshouselaw.AcctPlays'. -/
def acctPlaysCard : Claim7 := { stood := { row := acctPlaysRow, standIns := [], harness := (true, "e71355ab50b19b1e0d1d67a917172edabf20744a87aa664da2c9258ea3b15c0a"), looks := true }, kinds := [], alts := [], laidByText := true, laidKinds := [.handle, .data], laidTests := true, laidLooks := .later }
def AcctPlaysCardSaid : Prop := Claim7.holds Tryd.pinned (.plain (OpenSpec.ofChange acctPlaysSpec)) acctPlaysCard

/-- THE TIED CARD OF 'almshousekeep.AcctWhole'. -/
def acctWholeCard : Claim7 := { stood := { row := acctWholeRow, standIns := [], harness := (true, "e71355ab50b19b1e0d1d67a917172edabf20744a87aa664da2c9258ea3b15c0a"), looks := true }, kinds := [], alts := [], laidByText := true, laidKinds := [.handle], laidTests := true, laidLooks := .later }
def AcctWholeCardSaid : Prop := Claim7.holds Tryd.pinned (.plain (OpenSpec.ofChange acctWholeSpec)) acctWholeCard

/-- THE TIED CARD OF 'almshouselaw.VmPlays'. -/
def vmPlaysCard : Claim7 := { stood := { row := vmPlaysRow, standIns := [], harness := (true, "e71355ab50b19b1e0d1d67a917172edabf20744a87aa664da2c9258ea3b15c0a"), looks := true }, kinds := [], alts := [], laidByText := true, laidKinds := [.handle], laidTests := true, laidLooks := .later }
def VmPlaysCardSaid : Prop := Claim7.holds Tryd.pinned (.plain (OpenSpec.ofChange vmPlaysSpec)) vmPlaysCard

/-- THE SECOND FORM's CARD OF 'almshouselaw.FramesPlays'. -/
def framesPlaysUptoCard : Claim7 := { stood := { row := framesPlaysUptoRow, standIns := [], harness := (true, "e71355ab50b19b1e0d1d67a917172edabf20744a87aa664da2c9258ea3b15c0a"), looks := true }, kinds := [], alts := [], laidByText := true, laidKinds := [.handle], laidTests := true, laidLooks := .later }
def FramesPlaysUptoCardSaid : Prop := Claim7.holds Tryd.pinned (.plain (OpenSpec.upto framesPlaysSpec)) framesPlaysUptoCard

/-- THE SECOND FORM's CARD OF 'almshouselaw.BuddyPlays'. -/
def buddyPlaysUptoCard : Claim7 := { stood := { row := buddyPlaysUptoRow, standIns := [], harness := (true, "e71355ab50b19b1e0d1d67a917172edabf20744a87aa664da2c9258ea3b15c0a"), looks := true }, kinds := [], alts := [], laidByText := true, laidKinds := [.handle], laidTests := true, laidLooks := .later }
def BuddyPlaysUptoCardSaid : Prop := Claim7.holds Tryd.pinned (.plain (OpenSpec.upto buddyPlaysSpec)) buddyPlaysUptoCard

/-- THE SECOND FORM's CARD OF 'almshousekeep.BuddyBack'. -/
def buddyBackUptoCard : Claim7 := { stood := { row := buddyBackUptoRow, standIns := [], harness := (true, "e71355ab50b19b1e0d1d67a917172edabf20744a87aa664da2c9258ea3b15c0a"), looks := true }, kinds := [], alts := [], laidByText := true, laidKinds := [.handle], laidTests := true, laidLooks := .later }
def BuddyBackUptoCardSaid : Prop := Claim7.holds Tryd.pinned (.plain (OpenSpec.upto buddyBackSpec)) buddyBackUptoCard

/-- THE SECOND FORM's CARD OF 'almshousekeep.BuddyTrue'. -/
def buddyTrueUptoCard : Claim7 := { stood := { row := buddyTrueUptoRow, standIns := [], harness := (true, "e71355ab50b19b1e0d1d67a917172edabf20744a87aa664da2c9258ea3b15c0a"), looks := true }, kinds := [], alts := [], laidByText := true, laidKinds := [.handle], laidTests := true, laidLooks := .later }
def BuddyTrueUptoCardSaid : Prop := Claim7.holds Tryd.pinned (.plain (OpenSpec.upto buddyTrueSpec)) buddyTrueUptoCard

/-- THE SECOND FORM's CARD OF 'almshouselaw.SlabPlays'. -/
def slabPlaysUptoCard : Claim7 := { stood := { row := slabPlaysUptoRow, standIns := [], harness := (true, "e71355ab50b19b1e0d1d67a917172edabf20744a87aa664da2c9258ea3b15c0a"), looks := true }, kinds := [], alts := [], laidByText := true, laidKinds := [.data, .handle], laidTests := true, laidLooks := .later }
def SlabPlaysUptoCardSaid : Prop := Claim7.holds Tryd.pinned (.plain (OpenSpec.upto slabPlaysSpec)) slabPlaysUptoCard

/-- THE SECOND FORM's CARD OF 'almshousekeep.SlabCounts'. -/
def slabCountsUptoCard : Claim7 := { stood := { row := slabCountsUptoRow, standIns := [], harness := (true, "e71355ab50b19b1e0d1d67a917172edabf20744a87aa664da2c9258ea3b15c0a"), looks := true }, kinds := [], alts := [], laidByText := true, laidKinds := [.data, .handle], laidTests := true, laidLooks := .later }
def SlabCountsUptoCardSaid : Prop := Claim7.holds Tryd.pinned (.plain (OpenSpec.upto slabCountsSpec)) slabCountsUptoCard

/-- THE SECOND FORM's CARD OF 'almshouselaw.AcctPlays'. -/
def acctPlaysUptoCard : Claim7 := { stood := { row := acctPlaysUptoRow, standIns := [], harness := (true, "e71355ab50b19b1e0d1d67a917172edabf20744a87aa664da2c9258ea3b15c0a"), looks := true }, kinds := [], alts := [], laidByText := true, laidKinds := [.handle, .data], laidTests := true, laidLooks := .later }
def AcctPlaysUptoCardSaid : Prop := Claim7.holds Tryd.pinned (.plain (OpenSpec.upto acctPlaysSpec)) acctPlaysUptoCard

/-- THE SECOND FORM's CARD OF 'almshousekeep.AcctWhole'. -/
def acctWholeUptoCard : Claim7 := { stood := { row := acctWholeUptoRow, standIns := [], harness := (true, "e71355ab50b19b1e0d1d67a917172edabf20744a87aa664da2c9258ea3b15c0a"), looks := true }, kinds := [], alts := [], laidByText := true, laidKinds := [.handle], laidTests := true, laidLooks := .later }
def AcctWholeUptoCardSaid : Prop := Claim7.holds Tryd.pinned (.plain (OpenSpec.upto acctWholeSpec)) acctWholeUptoCard

/-- THE SECOND FORM's CARD OF 'almshouselaw.VmPlays'. -/
def vmPlaysUptoCard : Claim7 := { stood := { row := vmPlaysUptoRow, standIns := [], harness := (true, "e71355ab50b19b1e0d1d67a917172edabf20744a87aa664da2c9258ea3b15c0a"), looks := true }, kinds := [], alts := [], laidByText := true, laidKinds := [.handle], laidTests := true, laidLooks := .later }
def VmPlaysUptoCardSaid : Prop := Claim7.holds Tryd.pinned (.plain (OpenSpec.upto vmPlaysSpec)) vmPlaysUptoCard
end Rows
end Go.Proofs.YtcllfedpdcjbcaaDoor
