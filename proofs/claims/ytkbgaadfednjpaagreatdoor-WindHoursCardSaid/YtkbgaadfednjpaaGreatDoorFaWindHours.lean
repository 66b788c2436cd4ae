import Derived.Test.YtkbgaadfednjpaaGreatDoorRows
import Derived.WalkKit
import Derived.ProofKit
import Derived.OpenShut
import Derived.ShutString
import Derived.Test.YtkbgaadfednjpaaGreatDoorFaP
namespace Go.Proofs.YtkbgaadfednjpaaGreatDoor.faWindHours
open Go.ChangeShapes Go.WideShapes Go.ChangeAt Go.RowKit
open Go.ChangeMaps (open_string shut_string)
set_option linter.all false
set_option maxRecDepth 100000
abbrev sp : ChangeSpec := (OpenSpec.ofChange Rows.windHoursSpec).bare
theorem andT {a b : Bool} (h : a = true) (k : b = true) : (a && b) = true := by rw [h, k]; rfl
theorem k0 : (Rows.windHoursRow.wf (OpenSpec.ofChange sp)) = true := by kernel_rfl
theorem k1 : (laidOutB Tryz.prog) = true := faP.laid
theorem k2 : (mapsRowed Tryz.prog) = true := faP.rowed
theorem k3 : (Tryz.f10.params.all (Tryz.prog.readableRec ·)) = true := by kernel_rfl
theorem k4 : (namedTie Tryz.prog Rows.windHoursRow.named sp.vars) = true := by kernel_rfl
theorem k5 : ((Rows.windHoursRow.stops == [])) = true := by kernel_rfl
theorem k6 : ((Tryz.prog.stops == [])) = true := by kernel_rfl
theorem k7 : ((Rows.windHoursRow.knobs == [])) = true := by kernel_rfl
theorem k8 : ((Tryz.prog.stopKnobs == [])) = true := by kernel_rfl
theorem k9 : ((Rows.windHoursRow.inPlace == Tryz.prog.inPlace 10)) = true := by kernel_rfl
theorem k10 : ((Rows.windHoursRow.unfollowed == Tryz.prog.unfollowed 10)) = true := by kernel_rfl
theorem k11 : ((Rows.windHoursRow.recurses == Tryz.prog.recurses 10)) = true := by kernel_rfl
theorem k12 : ((Rows.windHoursRow.named == Tryz.prog.varsNamed 10)) = true := by kernel_rfl
theorem k13 : ((Rows.windHoursRow.maps == (Tryz.f10.params.toList ++ sp.plain.varTypes Tryz.prog).any (Tryz.prog.mapsRec ·))) = true := by kernel_rfl
theorem k14 : ((Rows.windHoursRow.ifaces == (Tryz.f10.params.toList ++ sp.plain.varTypes Tryz.prog).any (Tryz.prog.ifacesRec ·))) = true := by kernel_rfl
theorem k15 : ((Rows.windHoursRow.mapsOut == Tryz.prog.mapsAmong Tryz.f10.resultTypes.toList)) = true := by kernel_rfl
theorem k16 : ((Rows.windHoursRow.loops == (Tryz.f10.params.toList ++ sp.plain.varTypes Tryz.prog).any (Tryz.prog.loopsFrom ·))) = true := by kernel_rfl
theorem k17 : ((Rows.windHoursRow.wideKeys == (Tryz.f10.params.toList ++ sp.plain.varTypes Tryz.prog ++ Tryz.f10.resultTypes.toList).any (Tryz.prog.wideKeysFrom ·))) = true := by kernel_rfl
theorem k18 : (sp.vars.all (Tryz.prog.varReadable ·)) = true := by kernel_rfl
theorem k19 : (Tryz.f10.resultTypes.all (fun t => Tryz.prog.readableRec t && decide (t < Tryz.prog.types.size))) = true := by kernel_rfl
theorem k20 : ((Rows.windHoursRow.ifacesOut == Tryz.f10.resultTypes.toList.any (Tryz.prog.ifacesRec ·))) = true := by kernel_rfl
theorem k21 : ((Rows.windHoursRow.loopsOut == Tryz.f10.resultTypes.toList.any (Tryz.prog.loopsFrom ·))) = true := by kernel_rfl
theorem k22 : ((Rows.windHoursRow.plainKeys == Tryz.prog.plainKeys)) = true := by kernel_rfl
theorem k23 : (Rows.windHoursRow.shortTexts.isNone) = true := by kernel_rfl
theorem k24 : (Tryz.prog.stopsHeard) = true := faP.heard
theorem k25 : (Tryz.prog.mayEnter) = true := faP.enter
theorem k26 : ((Rows.windHoursRow.lifted == Tryz.prog.liftsFinal)) = true := (congrArg (fun l => l == Tryz.prog.liftsFinal) (show Rows.windHoursRow.lifted = Rows.windPlaysRow.lifted by kernel_rfl)).trans faP.lift
theorem k27 : ((Tryz.prog.make == some Rows.windHoursRow.make)) = true := (congrArg (fun l => Tryz.prog.make == some l) (show Rows.windHoursRow.make = Rows.windPlaysRow.make by kernel_rfl)).trans faP.make
theorem k28 : ((Rows.windHoursRow.kinds == (if Rows.windHoursRow.domain.isEmpty then [] else Tryz.f10.params.toList.map fun t => match Tryz.prog.underlying t with | some (.int k) => some k | _ => none))) = true := by kernel_rfl
theorem k29 : ((Rows.windHoursRow.pinned == Rows.windHoursRow.pinnedBy)) = true := by kernel_rfl
theorem k30 : ((Rows.windHoursRow.veiled == (Tryz.f10.params.toList ++ sp.plain.varTypes Tryz.prog ++ Tryz.f10.resultTypes.toList).any (Tryz.prog.veiledRec ·))) = true := by kernel_rfl
theorem k31 : (Rows.windHoursRow.veiledFits Tryz.prog Tryz.f10.params.toList (Tryz.f10.params.toList ++ sp.plain.varTypes Tryz.prog ++ Tryz.f10.resultTypes.toList)) = true := by kernel_rfl
theorem all : joinedFacts Tryz.prog 10 Tryz.f10 sp Rows.windHoursRow = true := andT (andT (andT (andT (andT (andT (andT (andT (andT (andT (andT (andT (andT (andT (andT (andT (andT (andT (andT (andT (andT (andT (andT (andT (andT (andT (andT (andT (andT (andT (andT (k0) k1) k2) k3) k4) k5) k6) k7) k8) k9) k10) k11) k12) k13) k14) k15) k16) k17) k18) k19) k20) k21) k22) k23) k24) k25) k26) k27) k28) k29) k30) k31
end Go.Proofs.YtkbgaadfednjpaaGreatDoor.faWindHours
