/-
  DERIVED. GIVEN WITH THE SEED: THE CARDS: each row of YtemomohijidmpabDoorRows.lean that lists a variable, with what it lists TIED to the program's text (the seventh form; the later family's looks); each row that meets fmt, with fmt's text TOLD by the authors' own Lean function (tested against real Go, not proved from fmt's source: count such statements apart). THE CARD IS WHAT COUNTS. Prove the row's statement (the work); the ties are given (YtemomohijidmpabDoorTie.lean); close each card by the builder's one call (the guide's Derived/Test/ToyasCard.lean, 'card_holds'). Laid BY PROGRAM, IN A SANDBOX (cutbox-door.mjs). By AI agents, Wed Nov 11 2026. No macro, syntax, notation, axiom, sorry.
-/
import Derived.Test.YtemomohijidmpabDoorRows
import GoSem.ClaimSeven
namespace Go.Proofs.YtemomohijidmpabDoor
namespace Rows

/-- THE TIED CARD OF 'almshousekeep.VmFrames'. -/
def vmFramesCard : Claim7 := { stood := { row := vmFramesRow, standIns := [], harness := (true, "e328b5abf09dd32a89e67de4b9eed9c7a4269954d70e4ded7061329e941b1ac9"), looks := true }, kinds := [], alts := [], laidByText := true, laidKinds := [.handle], laidTests := true, laidLooks := .later }
def VmFramesCardSaid : Prop := Claim7.holds Tryd.pinned (.plain (OpenSpec.ofChange vmFramesSpec)) vmFramesCard

/-- THE SECOND FORM's CARD OF 'almshousekeep.VmFrames'. -/
def vmFramesUptoCard : Claim7 := { stood := { row := vmFramesUptoRow, standIns := [], harness := (true, "e328b5abf09dd32a89e67de4b9eed9c7a4269954d70e4ded7061329e941b1ac9"), looks := true }, kinds := [], alts := [], laidByText := true, laidKinds := [.handle], laidTests := true, laidLooks := .later }
def VmFramesUptoCardSaid : Prop := Claim7.holds Tryd.pinned (.plain (OpenSpec.upto vmFramesSpec)) vmFramesUptoCard
end Rows
end Go.Proofs.YtemomohijidmpabDoor
