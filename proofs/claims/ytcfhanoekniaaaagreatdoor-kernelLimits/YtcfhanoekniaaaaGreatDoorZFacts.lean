/- The seat's own facts, each by itself: what every row asks of the program. -/
import Derived.Test.YtcfhanoekniaaaaGreatDoorRows
import Derived.JoinedOf
import Derived.ProofKit
namespace Go.Proofs.YtcfhanoekniaaaaGreatDoor
open Go.ChangeShapes Go.WideShapes Go.ChangeAt Go.RowKit
theorem fact_laid:laidOutB Tryz.prog=true:=by kernel_rfl
theorem fact_maps:mapsRowed Tryz.prog=true:=by kernel_rfl
theorem fact_stops:(Tryz.prog.stops == [])=true:=by kernel_rfl
theorem fact_knobs:(Tryz.prog.stopKnobs == [])=true:=by kernel_rfl
theorem fact_heard:Tryz.prog.stopsHeard=true:=by kernel_rfl
theorem fact_enter:Tryz.prog.mayEnter=true:=by kernel_rfl
theorem fact_lifts:Tryz.prog.liftsFinal=Rows.kernelTalksRow.lifted:=by kernel_rfl
theorem fact_keys:Tryz.prog.plainKeys=Rows.kernelTalksRow.plainKeys:=by kernel_rfl
theorem fact_make:(Tryz.prog.make == some Rows.kernelTalksRow.make)=true:=by kernel_rfl
end Go.Proofs.YtcfhanoekniaaaaGreatDoor
