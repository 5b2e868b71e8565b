/-
  DERIVED. GIVEN WITH THE SEED: THE CARDS: each row of YtidinhbokkelnacDoorRows.lean that lists a variable, with what it lists TIED to the program's text (the seventh form; the later family's looks); each row that meets fmt, with fmt's text TOLD by the authors' own Lean function (tested against real Go, not proved from fmt's source: count such statements apart). THE CARD IS WHAT COUNTS. Prove the row's statement (the work); the ties are given (YtidinhbokkelnacDoorTie.lean); close each card by the builder's one call (the guide's Derived/Test/ToyasCard.lean, 'card_holds'). Laid BY PROGRAM, IN A SANDBOX (cutbox-door.mjs). By AI agents, Wed Nov 11 2026. No macro, syntax, notation, axiom, sorry.
-/
import Derived.Test.YtidinhbokkelnacDoorRows
import GoSem.ClaimSeven
namespace Go.Proofs.YtidinhbokkelnacDoor
namespace Rows

/-- THE TIED CARD OF 'almshousekeep.ProcParents'. -/
def procParentsCard : Claim7 := { stood := { row := procParentsRow, standIns := [], harness := (true, "ccca967192c6bdda7109c53d48fc208530f850ade47e85405b8db297584b32ca"), looks := true }, kinds := [], alts := [], laidByText := true, laidKinds := [.data, .data, .handle], laidTests := true, laidLooks := .later }
def ProcParentsCardSaid : Prop := Claim7.holds Tryd.pinned (.plain (OpenSpec.ofChange procParentsSpec)) procParentsCard

/-- THE TIED CARD OF 'almshousekeep.ProcSignals'. -/
def procSignalsCard : Claim7 := { stood := { row := procSignalsRow, standIns := [], harness := (true, "ccca967192c6bdda7109c53d48fc208530f850ade47e85405b8db297584b32ca"), looks := true }, kinds := [], alts := [], laidByText := true, laidKinds := [.data, .data], laidTests := true, laidLooks := .later }
def ProcSignalsCardSaid : Prop := Claim7.holds Tryd.pinned (.plain (OpenSpec.ofChange procSignalsSpec)) procSignalsCard

/-- THE SECOND FORM's CARD OF 'almshousekeep.ProcParents'. -/
def procParentsUptoCard : Claim7 := { stood := { row := procParentsUptoRow, standIns := [], harness := (true, "ccca967192c6bdda7109c53d48fc208530f850ade47e85405b8db297584b32ca"), looks := true }, kinds := [], alts := [], laidByText := true, laidKinds := [.data, .data, .handle], laidTests := true, laidLooks := .later }
def ProcParentsUptoCardSaid : Prop := Claim7.holds Tryd.pinned (.plain (OpenSpec.upto procParentsSpec)) procParentsUptoCard

/-- THE SECOND FORM's CARD OF 'almshousekeep.ProcSignals'. -/
def procSignalsUptoCard : Claim7 := { stood := { row := procSignalsUptoRow, standIns := [], harness := (true, "ccca967192c6bdda7109c53d48fc208530f850ade47e85405b8db297584b32ca"), looks := true }, kinds := [], alts := [], laidByText := true, laidKinds := [.data, .data], laidTests := true, laidLooks := .later }
def ProcSignalsUptoCardSaid : Prop := Claim7.holds Tryd.pinned (.plain (OpenSpec.upto procSignalsSpec)) procSignalsUptoCard
end Rows
end Go.Proofs.YtidinhbokkelnacDoor
