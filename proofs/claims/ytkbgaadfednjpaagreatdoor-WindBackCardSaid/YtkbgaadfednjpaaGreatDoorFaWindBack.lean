import Derived.Test.YtkbgaadfednjpaaGreatDoorRows
import Derived.WalkKit
import Derived.ProofKit
import Derived.OpenShut
import Derived.ShutString
import Derived.Test.YtkbgaadfednjpaaGreatDoorFaP
namespace Go.Proofs.YtkbgaadfednjpaaGreatDoor.faWindBack
open Go.ChangeShapes Go.WideShapes Go.ChangeAt Go.RowKit
open Go.ChangeMaps (open_string shut_string)
set_option linter.all false
set_option maxRecDepth 100000
abbrev sp : ChangeSpec := (OpenSpec.ofChange Rows.windBackSpec).bare
theorem andT {a b : Bool} (h : a = true) (k : b = true) : (a && b) = true := by rw [h, k]; rfl
theorem k0 : (Rows.windBackRow.wf (OpenSpec.ofChange sp)) = true := by kernel_rfl
theorem k1 : (laidOutB Tryz.prog) = true := faP.laid
theorem k2 : (mapsRowed Tryz.prog) = true := faP.rowed
theorem k3 : (Tryz.f13.params.all (Tryz.prog.readableRec ·)) = true := by kernel_rfl
theorem k4 : (namedTie Tryz.prog Rows.windBackRow.named sp.vars) = true := by kernel_rfl
theorem k5 : ((Rows.windBackRow.stops == [])) = true := by kernel_rfl
theorem k6 : ((Tryz.prog.stops == [])) = true := by kernel_rfl
theorem k7 : ((Rows.windBackRow.knobs == [])) = true := by kernel_rfl
theorem k8 : ((Tryz.prog.stopKnobs == [])) = true := by kernel_rfl
theorem k9 : ((Rows.windBackRow.inPlace == Tryz.prog.inPlace 13)) = true := by kernel_rfl
theorem k10 : ((Rows.windBackRow.unfollowed == Tryz.prog.unfollowed 13)) = true := by kernel_rfl
theorem k11 : ((Rows.windBackRow.recurses == Tryz.prog.recurses 13)) = true := by kernel_rfl
theorem k12 : ((Rows.windBackRow.named == Tryz.prog.varsNamed 13)) = true := by kernel_rfl
theorem k13 : ((Rows.windBackRow.maps == (Tryz.f13.params.toList ++ sp.plain.varTypes Tryz.prog).any (Tryz.prog.mapsRec ·))) = true := by kernel_rfl
theorem k14 : ((Rows.windBackRow.ifaces == (Tryz.f13.params.toList ++ sp.plain.varTypes Tryz.prog).any (Tryz.prog.ifacesRec ·))) = true := by kernel_rfl
theorem k15 : ((Rows.windBackRow.mapsOut == Tryz.prog.mapsAmong Tryz.f13.resultTypes.toList)) = true := by kernel_rfl
theorem k16 : ((Rows.windBackRow.loops == (Tryz.f13.params.toList ++ sp.plain.varTypes Tryz.prog).any (Tryz.prog.loopsFrom ·))) = true := by kernel_rfl
theorem k17 : ((Rows.windBackRow.wideKeys == (Tryz.f13.params.toList ++ sp.plain.varTypes Tryz.prog ++ Tryz.f13.resultTypes.toList).any (Tryz.prog.wideKeysFrom ·))) = true := by kernel_rfl
theorem k18 : (sp.vars.all (Tryz.prog.varReadable ·)) = true := by kernel_rfl
theorem k19 : (Tryz.f13.resultTypes.all (fun t => Tryz.prog.readableRec t && decide (t < Tryz.prog.types.size))) = true := by kernel_rfl
theorem k20 : ((Rows.windBackRow.ifacesOut == Tryz.f13.resultTypes.toList.any (Tryz.prog.ifacesRec ·))) = true := by kernel_rfl
theorem k21 : ((Rows.windBackRow.loopsOut == Tryz.f13.resultTypes.toList.any (Tryz.prog.loopsFrom ·))) = true := by kernel_rfl
theorem k22 : ((Rows.windBackRow.plainKeys == Tryz.prog.plainKeys)) = true := by kernel_rfl
theorem k23 : (Rows.windBackRow.shortTexts.isNone) = true := by kernel_rfl
theorem k24 : (Tryz.prog.stopsHeard) = true := faP.heard
theorem k25 : (Tryz.prog.mayEnter) = true := faP.enter
theorem k26 : ((Rows.windBackRow.lifted == Tryz.prog.liftsFinal)) = true := (congrArg (fun l => l == Tryz.prog.liftsFinal) (show Rows.windBackRow.lifted = Rows.windPlaysRow.lifted by kernel_rfl)).trans faP.lift
theorem k27 : ((Tryz.prog.make == some Rows.windBackRow.make)) = true := (congrArg (fun l => Tryz.prog.make == some l) (show Rows.windBackRow.make = Rows.windPlaysRow.make by kernel_rfl)).trans faP.make
theorem k28 : ((Rows.windBackRow.kinds == (if Rows.windBackRow.domain.isEmpty then [] else Tryz.f13.params.toList.map fun t => match Tryz.prog.underlying t with | some (.int k) => some k | _ => none))) = true := by kernel_rfl
theorem k29 : ((Rows.windBackRow.pinned == Rows.windBackRow.pinnedBy)) = true := by kernel_rfl
theorem k30 : ((Rows.windBackRow.veiled == (Tryz.f13.params.toList ++ sp.plain.varTypes Tryz.prog ++ Tryz.f13.resultTypes.toList).any (Tryz.prog.veiledRec ·))) = true := by kernel_rfl
theorem k31 : (Rows.windBackRow.veiledFits Tryz.prog Tryz.f13.params.toList (Tryz.f13.params.toList ++ sp.plain.varTypes Tryz.prog ++ Tryz.f13.resultTypes.toList)) = true := by kernel_rfl
theorem all : joinedFacts Tryz.prog 13 Tryz.f13 sp Rows.windBackRow = true := andT (andT (andT (andT (andT (andT (andT (andT (andT (andT (andT (andT (andT (andT (andT (andT (andT (andT (andT (andT (andT (andT (andT (andT (andT (andT (andT (andT (andT (andT (andT (k0) k1) k2) k3) k4) k5) k6) k7) k8) k9) k10) k11) k12) k13) k14) k15) k16) k17) k18) k19) k20) k21) k22) k23) k24) k25) k26) k27) k28) k29) k30) k31
end Go.Proofs.YtkbgaadfednjpaaGreatDoor.faWindBack
