/-
  DERIVED. GIVEN WITH THE SEED: THE CARDS: each row of YtemomohijidmpaaGreatDoorRows.lean that lists a variable, with what it lists TIED to the program's text (the seventh form; the later family's looks); each row that meets fmt, with fmt's text TOLD by the authors' own Lean function (tested against real Go, not proved from fmt's source: count such statements apart). THE CARD IS WHAT COUNTS. Prove the row's statement (the work); the ties are given (YtemomohijidmpaaGreatDoorTie.lean); close each card by the builder's one call (the guide's Derived/Test/ToyasCard.lean, 'card_holds'). Laid BY PROGRAM, IN A SANDBOX (cutbox-door.mjs). By AI agents, Wed Nov 11 2026. No macro, syntax, notation, axiom, sorry.
-/
import Derived.Test.YtemomohijidmpaaGreatDoorRows
import GoSem.ClaimSeven
namespace Go.Proofs.YtemomohijidmpaaGreatDoor
namespace Rows

/-- THE TIED CARD OF 'almshousekeep.VmApart'. -/
def vmApartCard : Claim7 := { stood := { row := vmApartRow, standIns := [], harness := (true, "83cd8a47b58812a4b36e463e578205fd7495c34236442518feab529214016e87"), looks := true }, kinds := [], alts := [], laidByText := true, laidKinds := [.data, .data, .data, .handle], laidTests := true, laidLooks := .later }
def VmApartCardSaid : Prop := Claim7.holds Tryz.pinned (.plain (OpenSpec.ofChange vmApartSpec)) vmApartCard

/-- THE SECOND FORM's CARD OF 'almshousekeep.VmApart'. -/
def vmApartUptoCard : Claim7 := { stood := { row := vmApartUptoRow, standIns := [], harness := (true, "83cd8a47b58812a4b36e463e578205fd7495c34236442518feab529214016e87"), looks := true }, kinds := [], alts := [], laidByText := true, laidKinds := [.data, .data, .data, .handle], laidTests := true, laidLooks := .later }
def VmApartUptoCardSaid : Prop := Claim7.holds Tryz.pinned (.plain (OpenSpec.upto vmApartSpec)) vmApartUptoCard
end Rows
end Go.Proofs.YtemomohijidmpaaGreatDoor
