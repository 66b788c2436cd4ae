import Derived.Test.YtkbgaadfednjpaaGreatDoorRows
import Derived.WalkKit
import Derived.ProofKit
import Derived.OpenShut
import Derived.ShutString
import Derived.Test.YtkbgaadfednjpaaGreatDoorFaP
namespace Go.Proofs.YtkbgaadfednjpaaGreatDoor.faWindCalms
open Go.ChangeShapes Go.WideShapes Go.ChangeAt Go.RowKit
open Go.ChangeMaps (open_string shut_string)
set_option linter.all false
set_option maxRecDepth 100000
abbrev sp : ChangeSpec := (OpenSpec.ofChange Rows.windCalmsSpec).bare
theorem andT {a b : Bool} (h : a = true) (k : b = true) : (a && b) = true := by rw [h, k]; rfl
theorem k0 : (Rows.windCalmsRow.wf (OpenSpec.ofChange sp)) = true := by kernel_rfl
theorem k1 : (laidOutB Tryz.prog) = true := faP.laid
theorem k2 : (mapsRowed Tryz.prog) = true := faP.rowed
theorem k3 : (Tryz.f5.params.all (Tryz.prog.readableRec ·)) = true := by kernel_rfl
theorem k4 : (namedTie Tryz.prog Rows.windCalmsRow.named sp.vars) = true := by kernel_rfl
theorem k5 : ((Rows.windCalmsRow.stops == [])) = true := by kernel_rfl
theorem k6 : ((Tryz.prog.stops == [])) = true := by kernel_rfl
theorem k7 : ((Rows.windCalmsRow.knobs == [])) = true := by kernel_rfl
theorem k8 : ((Tryz.prog.stopKnobs == [])) = true := by kernel_rfl
theorem k9 : ((Rows.windCalmsRow.inPlace == Tryz.prog.inPlace 5)) = true := by kernel_rfl
theorem k10 : ((Rows.windCalmsRow.unfollowed == Tryz.prog.unfollowed 5)) = true := by kernel_rfl
theorem k11 : ((Rows.windCalmsRow.recurses == Tryz.prog.recurses 5)) = true := by kernel_rfl
theorem k12 : ((Rows.windCalmsRow.named == Tryz.prog.varsNamed 5)) = true := by kernel_rfl
theorem k13 : ((Rows.windCalmsRow.maps == (Tryz.f5.params.toList ++ sp.plain.varTypes Tryz.prog).any (Tryz.prog.mapsRec ·))) = true := by kernel_rfl
theorem k14 : ((Rows.windCalmsRow.ifaces == (Tryz.f5.params.toList ++ sp.plain.varTypes Tryz.prog).any (Tryz.prog.ifacesRec ·))) = true := by kernel_rfl
theorem k15 : ((Rows.windCalmsRow.mapsOut == Tryz.prog.mapsAmong Tryz.f5.resultTypes.toList)) = true := by kernel_rfl
theorem k16 : ((Rows.windCalmsRow.loops == (Tryz.f5.params.toList ++ sp.plain.varTypes Tryz.prog).any (Tryz.prog.loopsFrom ·))) = true := by kernel_rfl
theorem k17 : ((Rows.windCalmsRow.wideKeys == (Tryz.f5.params.toList ++ sp.plain.varTypes Tryz.prog ++ Tryz.f5.resultTypes.toList).any (Tryz.prog.wideKeysFrom ·))) = true := by kernel_rfl
theorem k18 : (sp.vars.all (Tryz.prog.varReadable ·)) = true := by kernel_rfl
theorem k19 : (Tryz.f5.resultTypes.all (fun t => Tryz.prog.readableRec t && decide (t < Tryz.prog.types.size))) = true := by kernel_rfl
theorem k20 : ((Rows.windCalmsRow.ifacesOut == Tryz.f5.resultTypes.toList.any (Tryz.prog.ifacesRec ·))) = true := by kernel_rfl
theorem k21 : ((Rows.windCalmsRow.loopsOut == Tryz.f5.resultTypes.toList.any (Tryz.prog.loopsFrom ·))) = true := by kernel_rfl
theorem k22 : ((Rows.windCalmsRow.plainKeys == Tryz.prog.plainKeys)) = true := by kernel_rfl
theorem k23 : (Rows.windCalmsRow.shortTexts.isNone) = true := by kernel_rfl
theorem k24 : (Tryz.prog.stopsHeard) = true := faP.heard
theorem k25 : (Tryz.prog.mayEnter) = true := faP.enter
theorem k26 : ((Rows.windCalmsRow.lifted == Tryz.prog.liftsFinal)) = true := (congrArg (fun l => l == Tryz.prog.liftsFinal) (show Rows.windCalmsRow.lifted = Rows.windPlaysRow.lifted by kernel_rfl)).trans faP.lift
theorem k27 : ((Tryz.prog.make == some Rows.windCalmsRow.make)) = true := (congrArg (fun l => Tryz.prog.make == some l) (show Rows.windCalmsRow.make = Rows.windPlaysRow.make by kernel_rfl)).trans faP.make
theorem k28 : ((Rows.windCalmsRow.kinds == (if Rows.windCalmsRow.domain.isEmpty then [] else Tryz.f5.params.toList.map fun t => match Tryz.prog.underlying t with | some (.int k) => some k | _ => none))) = true := by kernel_rfl
theorem k29 : ((Rows.windCalmsRow.pinned == Rows.windCalmsRow.pinnedBy)) = true := by kernel_rfl
theorem k30 : ((Rows.windCalmsRow.veiled == (Tryz.f5.params.toList ++ sp.plain.varTypes Tryz.prog ++ Tryz.f5.resultTypes.toList).any (Tryz.prog.veiledRec ·))) = true := by kernel_rfl
theorem k31 : (Rows.windCalmsRow.veiledFits Tryz.prog Tryz.f5.params.toList (Tryz.f5.params.toList ++ sp.plain.varTypes Tryz.prog ++ Tryz.f5.resultTypes.toList)) = true := by kernel_rfl
theorem all : joinedFacts Tryz.prog 5 Tryz.f5 sp Rows.windCalmsRow = true := andT (andT (andT (andT (andT (andT (andT (andT (andT (andT (andT (andT (andT (andT (andT (andT (andT (andT (andT (andT (andT (andT (andT (andT (andT (andT (andT (andT (andT (andT (andT (k0) k1) k2) k3) k4) k5) k6) k7) k8) k9) k10) k11) k12) k13) k14) k15) k16) k17) k18) k19) k20) k21) k22) k23) k24) k25) k26) k27) k28) k29) k30) k31
end Go.Proofs.YtkbgaadfednjpaaGreatDoor.faWindCalms
