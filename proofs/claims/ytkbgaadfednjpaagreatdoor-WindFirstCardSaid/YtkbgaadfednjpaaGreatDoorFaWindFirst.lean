import Derived.Test.YtkbgaadfednjpaaGreatDoorRows
import Derived.WalkKit
import Derived.ProofKit
import Derived.OpenShut
import Derived.ShutString
import Derived.Test.YtkbgaadfednjpaaGreatDoorFaP
namespace Go.Proofs.YtkbgaadfednjpaaGreatDoor.faWindFirst
open Go.ChangeShapes Go.WideShapes Go.ChangeAt Go.RowKit
open Go.ChangeMaps (open_string shut_string)
set_option linter.all false
set_option maxRecDepth 100000
abbrev sp : ChangeSpec := (OpenSpec.ofChange Rows.windFirstSpec).bare
theorem andT {a b : Bool} (h : a = true) (k : b = true) : (a && b) = true := by rw [h, k]; rfl
theorem k0 : (Rows.windFirstRow.wf (OpenSpec.ofChange sp)) = true := by kernel_rfl
theorem k1 : (laidOutB Tryz.prog) = true := faP.laid
theorem k2 : (mapsRowed Tryz.prog) = true := faP.rowed
theorem k3 : (Tryz.f17.params.all (Tryz.prog.readableRec ·)) = true := by kernel_rfl
theorem k4 : (namedTie Tryz.prog Rows.windFirstRow.named sp.vars) = true := by kernel_rfl
theorem k5 : ((Rows.windFirstRow.stops == [])) = true := by kernel_rfl
theorem k6 : ((Tryz.prog.stops == [])) = true := by kernel_rfl
theorem k7 : ((Rows.windFirstRow.knobs == [])) = true := by kernel_rfl
theorem k8 : ((Tryz.prog.stopKnobs == [])) = true := by kernel_rfl
theorem k9 : ((Rows.windFirstRow.inPlace == Tryz.prog.inPlace 17)) = true := by kernel_rfl
theorem k10 : ((Rows.windFirstRow.unfollowed == Tryz.prog.unfollowed 17)) = true := by kernel_rfl
theorem k11 : ((Rows.windFirstRow.recurses == Tryz.prog.recurses 17)) = true := by kernel_rfl
theorem k12 : ((Rows.windFirstRow.named == Tryz.prog.varsNamed 17)) = true := by kernel_rfl
theorem k13 : ((Rows.windFirstRow.maps == (Tryz.f17.params.toList ++ sp.plain.varTypes Tryz.prog).any (Tryz.prog.mapsRec ·))) = true := by kernel_rfl
theorem k14 : ((Rows.windFirstRow.ifaces == (Tryz.f17.params.toList ++ sp.plain.varTypes Tryz.prog).any (Tryz.prog.ifacesRec ·))) = true := by kernel_rfl
theorem k15 : ((Rows.windFirstRow.mapsOut == Tryz.prog.mapsAmong Tryz.f17.resultTypes.toList)) = true := by kernel_rfl
theorem k16 : ((Rows.windFirstRow.loops == (Tryz.f17.params.toList ++ sp.plain.varTypes Tryz.prog).any (Tryz.prog.loopsFrom ·))) = true := by kernel_rfl
theorem k17 : ((Rows.windFirstRow.wideKeys == (Tryz.f17.params.toList ++ sp.plain.varTypes Tryz.prog ++ Tryz.f17.resultTypes.toList).any (Tryz.prog.wideKeysFrom ·))) = true := by kernel_rfl
theorem k18 : (sp.vars.all (Tryz.prog.varReadable ·)) = true := by kernel_rfl
theorem k19 : (Tryz.f17.resultTypes.all (fun t => Tryz.prog.readableRec t && decide (t < Tryz.prog.types.size))) = true := by kernel_rfl
theorem k20 : ((Rows.windFirstRow.ifacesOut == Tryz.f17.resultTypes.toList.any (Tryz.prog.ifacesRec ·))) = true := by kernel_rfl
theorem k21 : ((Rows.windFirstRow.loopsOut == Tryz.f17.resultTypes.toList.any (Tryz.prog.loopsFrom ·))) = true := by kernel_rfl
theorem k22 : ((Rows.windFirstRow.plainKeys == Tryz.prog.plainKeys)) = true := by kernel_rfl
theorem k23 : (Rows.windFirstRow.shortTexts.isNone) = true := by kernel_rfl
theorem k24 : (Tryz.prog.stopsHeard) = true := faP.heard
theorem k25 : (Tryz.prog.mayEnter) = true := faP.enter
theorem k26 : ((Rows.windFirstRow.lifted == Tryz.prog.liftsFinal)) = true := (congrArg (fun l => l == Tryz.prog.liftsFinal) (show Rows.windFirstRow.lifted = Rows.windPlaysRow.lifted by kernel_rfl)).trans faP.lift
theorem k27 : ((Tryz.prog.make == some Rows.windFirstRow.make)) = true := (congrArg (fun l => Tryz.prog.make == some l) (show Rows.windFirstRow.make = Rows.windPlaysRow.make by kernel_rfl)).trans faP.make
theorem k28 : ((Rows.windFirstRow.kinds == (if Rows.windFirstRow.domain.isEmpty then [] else Tryz.f17.params.toList.map fun t => match Tryz.prog.underlying t with | some (.int k) => some k | _ => none))) = true := by kernel_rfl
theorem k29 : ((Rows.windFirstRow.pinned == Rows.windFirstRow.pinnedBy)) = true := by kernel_rfl
theorem k30 : ((Rows.windFirstRow.veiled == (Tryz.f17.params.toList ++ sp.plain.varTypes Tryz.prog ++ Tryz.f17.resultTypes.toList).any (Tryz.prog.veiledRec ·))) = true := by kernel_rfl
theorem k31 : (Rows.windFirstRow.veiledFits Tryz.prog Tryz.f17.params.toList (Tryz.f17.params.toList ++ sp.plain.varTypes Tryz.prog ++ Tryz.f17.resultTypes.toList)) = true := by kernel_rfl
theorem all : joinedFacts Tryz.prog 17 Tryz.f17 sp Rows.windFirstRow = true := andT (andT (andT (andT (andT (andT (andT (andT (andT (andT (andT (andT (andT (andT (andT (andT (andT (andT (andT (andT (andT (andT (andT (andT (andT (andT (andT (andT (andT (andT (andT (k0) k1) k2) k3) k4) k5) k6) k7) k8) k9) k10) k11) k12) k13) k14) k15) k16) k17) k18) k19) k20) k21) k22) k23) k24) k25) k26) k27) k28) k29) k30) k31
end Go.Proofs.YtkbgaadfednjpaaGreatDoor.faWindFirst
