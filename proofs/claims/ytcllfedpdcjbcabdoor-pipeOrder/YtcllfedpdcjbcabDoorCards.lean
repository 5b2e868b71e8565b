/-
  DERIVED. GIVEN WITH THE SEED: THE CARDS: each row of YtcllfedpdcjbcabDoorRows.lean that lists a variable, with what it lists TIED to the program's text (the seventh form; the later family's looks); each row that meets fmt, with fmt's text TOLD by the authors' own Lean function (tested against real Go, not proved from fmt's source: count such statements apart). THE CARD IS WHAT COUNTS. Prove the row's statement (the work); the ties are given (YtcllfedpdcjbcabDoorTie.lean); close each card by the builder's one call (the guide's Derived/Test/ToyasCard.lean, 'card_holds'). Laid BY PROGRAM, IN A SANDBOX (cutbox-door.mjs). By AI agents, Wed Nov 11 2026. No macro, syntax, notation, axiom, sorry.
-/
import Derived.Test.YtcllfedpdcjbcabDoorRows
import GoSem.ClaimSeven
namespace Go.Proofs.YtcllfedpdcjbcabDoor
namespace Rows

/-- THE TIED CARD OF 'almshousekeep.VmFrames'. -/
def vmFramesCard : Claim7 := { stood := { row := vmFramesRow, standIns := [], harness := (true, "b4f0123ffa75501a6029721fe3a3655e0de69afe36fc50997a37ff6afc2d8d72"), looks := true }, kinds := [], alts := [], laidByText := true, laidKinds := [.handle], laidTests := true, laidLooks := .later }
def VmFramesCardSaid : Prop := Claim7.holds Tryd.pinned (.plain (OpenSpec.ofChange vmFramesSpec)) vmFramesCard

/-- THE TIED CARD OF 'almshouselaw.PipePlays'. -/
def pipePlaysCard : Claim7 := { stood := { row := pipePlaysRow, standIns := [], harness := (true, "b4f0123ffa75501a6029721fe3a3655e0de69afe36fc50997a37ff6afc2d8d72"), looks := true }, kinds := [], alts := [], laidByText := true, laidKinds := [.handle], laidTests := true, laidLooks := .later }
def PipePlaysCardSaid : Prop := Claim7.holds Tryd.pinned (.plain (OpenSpec.ofChange pipePlaysSpec)) pipePlaysCard

/-- THE TIED CARD OF 'almshousekeep.PipeOrder'. -/
def pipeOrderCard : Claim7 := { stood := { row := pipeOrderRow, standIns := [], harness := (true, "b4f0123ffa75501a6029721fe3a3655e0de69afe36fc50997a37ff6afc2d8d72"), looks := true }, kinds := [], alts := [], laidByText := true, laidKinds := [.handle], laidTests := true, laidLooks := .later }
def PipeOrderCardSaid : Prop := Claim7.holds Tryd.pinned (.plain (OpenSpec.ofChange pipeOrderSpec)) pipeOrderCard

/-- THE SECOND FORM's CARD OF 'almshousekeep.VmFrames'. -/
def vmFramesUptoCard : Claim7 := { stood := { row := vmFramesUptoRow, standIns := [], harness := (true, "b4f0123ffa75501a6029721fe3a3655e0de69afe36fc50997a37ff6afc2d8d72"), looks := true }, kinds := [], alts := [], laidByText := true, laidKinds := [.handle], laidTests := true, laidLooks := .later }
def VmFramesUptoCardSaid : Prop := Claim7.holds Tryd.pinned (.plain (OpenSpec.upto vmFramesSpec)) vmFramesUptoCard

/-- THE SECOND FORM's CARD OF 'almshouselaw.PipePlays'. -/
def pipePlaysUptoCard : Claim7 := { stood := { row := pipePlaysUptoRow, standIns := [], harness := (true, "b4f0123ffa75501a6029721fe3a3655e0de69afe36fc50997a37ff6afc2d8d72"), looks := true }, kinds := [], alts := [], laidByText := true, laidKinds := [.handle], laidTests := true, laidLooks := .later }
def PipePlaysUptoCardSaid : Prop := Claim7.holds Tryd.pinned (.plain (OpenSpec.upto pipePlaysSpec)) pipePlaysUptoCard

/-- THE SECOND FORM's CARD OF 'almshousekeep.PipeOrder'. -/
def pipeOrderUptoCard : Claim7 := { stood := { row := pipeOrderUptoRow, standIns := [], harness := (true, "b4f0123ffa75501a6029721fe3a3655e0de69afe36fc50997a37ff6afc2d8d72"), looks := true }, kinds := [], alts := [], laidByText := true, laidKinds := [.handle], laidTests := true, laidLooks := .later }
def PipeOrderUptoCardSaid : Prop := Claim7.holds Tryd.pinned (.plain (OpenSpec.upto pipeOrderSpec)) pipeOrderUptoCard
end Rows
end Go.Proofs.YtcllfedpdcjbcabDoor
