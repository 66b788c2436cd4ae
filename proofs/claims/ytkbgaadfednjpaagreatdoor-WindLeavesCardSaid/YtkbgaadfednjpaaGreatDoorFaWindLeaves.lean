import Derived.Test.YtkbgaadfednjpaaGreatDoorRows
import Derived.WalkKit
import Derived.ProofKit
import Derived.OpenShut
import Derived.ShutString
import Derived.Test.YtkbgaadfednjpaaGreatDoorFaP
namespace Go.Proofs.YtkbgaadfednjpaaGreatDoor.faWindLeaves
open Go.ChangeShapes Go.WideShapes Go.ChangeAt Go.RowKit
open Go.ChangeMaps (open_string shut_string)
set_option linter.all false
set_option maxRecDepth 100000
abbrev sp : ChangeSpec := (OpenSpec.ofChange Rows.windLeavesSpec).bare
theorem andT {a b : Bool} (h : a = true) (k : b = true) : (a && b) = true := by rw [h, k]; rfl
theorem k0 : (Rows.windLeavesRow.wf (OpenSpec.ofChange sp)) = true := by kernel_rfl
theorem k1 : (laidOutB Tryz.prog) = true := faP.laid
theorem k2 : (mapsRowed Tryz.prog) = true := faP.rowed
theorem k3 : (Tryz.f7.params.all (Tryz.prog.readableRec ·)) = true := by kernel_rfl
theorem k4 : (namedTie Tryz.prog Rows.windLeavesRow.named sp.vars) = true := by kernel_rfl
theorem k5 : ((Rows.windLeavesRow.stops == [])) = true := by kernel_rfl
theorem k6 : ((Tryz.prog.stops == [])) = true := by kernel_rfl
theorem k7 : ((Rows.windLeavesRow.knobs == [])) = true := by kernel_rfl
theorem k8 : ((Tryz.prog.stopKnobs == [])) = true := by kernel_rfl
theorem k9 : ((Rows.windLeavesRow.inPlace == Tryz.prog.inPlace 7)) = true := by kernel_rfl
theorem k10 : ((Rows.windLeavesRow.unfollowed == Tryz.prog.unfollowed 7)) = true := by kernel_rfl
theorem k11 : ((Rows.windLeavesRow.recurses == Tryz.prog.recurses 7)) = true := by kernel_rfl
theorem k12 : ((Rows.windLeavesRow.named == Tryz.prog.varsNamed 7)) = true := by kernel_rfl
theorem k13 : ((Rows.windLeavesRow.maps == (Tryz.f7.params.toList ++ sp.plain.varTypes Tryz.prog).any (Tryz.prog.mapsRec ·))) = true := by kernel_rfl
theorem k14 : ((Rows.windLeavesRow.ifaces == (Tryz.f7.params.toList ++ sp.plain.varTypes Tryz.prog).any (Tryz.prog.ifacesRec ·))) = true := by kernel_rfl
theorem k15 : ((Rows.windLeavesRow.mapsOut == Tryz.prog.mapsAmong Tryz.f7.resultTypes.toList)) = true := by kernel_rfl
theorem k16 : ((Rows.windLeavesRow.loops == (Tryz.f7.params.toList ++ sp.plain.varTypes Tryz.prog).any (Tryz.prog.loopsFrom ·))) = true := by kernel_rfl
theorem k17 : ((Rows.windLeavesRow.wideKeys == (Tryz.f7.params.toList ++ sp.plain.varTypes Tryz.prog ++ Tryz.f7.resultTypes.toList).any (Tryz.prog.wideKeysFrom ·))) = true := by kernel_rfl
theorem k18 : (sp.vars.all (Tryz.prog.varReadable ·)) = true := by kernel_rfl
theorem k19 : (Tryz.f7.resultTypes.all (fun t => Tryz.prog.readableRec t && decide (t < Tryz.prog.types.size))) = true := by kernel_rfl
theorem k20 : ((Rows.windLeavesRow.ifacesOut == Tryz.f7.resultTypes.toList.any (Tryz.prog.ifacesRec ·))) = true := by kernel_rfl
theorem k21 : ((Rows.windLeavesRow.loopsOut == Tryz.f7.resultTypes.toList.any (Tryz.prog.loopsFrom ·))) = true := by kernel_rfl
theorem k22 : ((Rows.windLeavesRow.plainKeys == Tryz.prog.plainKeys)) = true := by kernel_rfl
theorem k23 : (Rows.windLeavesRow.shortTexts.isNone) = true := by kernel_rfl
theorem k24 : (Tryz.prog.stopsHeard) = true := faP.heard
theorem k25 : (Tryz.prog.mayEnter) = true := faP.enter
theorem k26 : ((Rows.windLeavesRow.lifted == Tryz.prog.liftsFinal)) = true := (congrArg (fun l => l == Tryz.prog.liftsFinal) (show Rows.windLeavesRow.lifted = Rows.windPlaysRow.lifted by kernel_rfl)).trans faP.lift
theorem k27 : ((Tryz.prog.make == some Rows.windLeavesRow.make)) = true := (congrArg (fun l => Tryz.prog.make == some l) (show Rows.windLeavesRow.make = Rows.windPlaysRow.make by kernel_rfl)).trans faP.make
theorem k28 : ((Rows.windLeavesRow.kinds == (if Rows.windLeavesRow.domain.isEmpty then [] else Tryz.f7.params.toList.map fun t => match Tryz.prog.underlying t with | some (.int k) => some k | _ => none))) = true := by kernel_rfl
theorem k29 : ((Rows.windLeavesRow.pinned == Rows.windLeavesRow.pinnedBy)) = true := by kernel_rfl
theorem k30 : ((Rows.windLeavesRow.veiled == (Tryz.f7.params.toList ++ sp.plain.varTypes Tryz.prog ++ Tryz.f7.resultTypes.toList).any (Tryz.prog.veiledRec ·))) = true := by kernel_rfl
theorem k31 : (Rows.windLeavesRow.veiledFits Tryz.prog Tryz.f7.params.toList (Tryz.f7.params.toList ++ sp.plain.varTypes Tryz.prog ++ Tryz.f7.resultTypes.toList)) = true := by kernel_rfl
theorem all : joinedFacts Tryz.prog 7 Tryz.f7 sp Rows.windLeavesRow = true := andT (andT (andT (andT (andT (andT (andT (andT (andT (andT (andT (andT (andT (andT (andT (andT (andT (andT (andT (andT (andT (andT (andT (andT (andT (andT (andT (andT (andT (andT (andT (k0) k1) k2) k3) k4) k5) k6) k7) k8) k9) k10) k11) k12) k13) k14) k15) k16) k17) k18) k19) k20) k21) k22) k23) k24) k25) k26) k27) k28) k29) k30) k31
end Go.Proofs.YtkbgaadfednjpaaGreatDoor.faWindLeaves
