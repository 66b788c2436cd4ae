import Derived.Test.YtjgbfnciedkafaaRows
import Derived.WalkKit
import Derived.ProofKit
import Derived.OpenShut
import Derived.ShutString
import Derived.Test.YtjgbfnciedkafaaFaP
namespace Go.Proofs.Ytjgbfnciedkafaa.faTopStand
open Go.ChangeShapes Go.WideShapes Go.ChangeAt Go.RowKit
open Go.ChangeMaps (open_string shut_string)
set_option linter.all false
theorem andT {a b : Bool} (h : a = true) (k : b = true) : (a && b) = true := by rw [h, k]; rfl
set_option maxRecDepth 100000 in
theorem k0 : (Rows.topStandRow.wf (OpenSpec.ofChange Rows.topStandSpec)) = true := by kernel_rfl
set_option maxRecDepth 100000 in
theorem k1 : (laidOutB Try.prog) = true := faP.laid
set_option maxRecDepth 100000 in
theorem k2 : (mapsRowed Try.prog) = true := faP.rowed
set_option maxRecDepth 100000 in
theorem k3 : (Try.f19.params.all (Try.prog.readableRec ·)) = true := by kernel_rfl
set_option maxRecDepth 100000 in
theorem k4 : (namedTie Try.prog Rows.topStandRow.named Rows.topStandSpec.vars) = true := by kernel_rfl
set_option maxRecDepth 100000 in
theorem k5 : ((Rows.topStandRow.stops == [])) = true := by kernel_rfl
set_option maxRecDepth 100000 in
theorem k6 : ((Try.prog.stops == [])) = true := by kernel_rfl
set_option maxRecDepth 100000 in
theorem k7 : ((Rows.topStandRow.knobs == [])) = true := by kernel_rfl
set_option maxRecDepth 100000 in
theorem k8 : ((Try.prog.stopKnobs == [])) = true := by kernel_rfl
set_option maxRecDepth 100000 in
theorem k9 : ((Rows.topStandRow.inPlace == Try.prog.inPlace 19)) = true := by kernel_rfl
set_option maxRecDepth 100000 in
theorem k10 : ((Rows.topStandRow.unfollowed == Try.prog.unfollowed 19)) = true := by kernel_rfl
set_option maxRecDepth 100000 in
theorem k11 : ((Rows.topStandRow.recurses == Try.prog.recurses 19)) = true := by kernel_rfl
set_option maxRecDepth 100000 in
theorem k12 : ((Rows.topStandRow.named == Try.prog.varsNamed 19)) = true := by kernel_rfl
set_option maxRecDepth 100000 in
theorem k13 : ((Rows.topStandRow.maps == (Try.f19.params.toList ++ Rows.topStandSpec.plain.varTypes Try.prog).any (Try.prog.mapsRec ·))) = true := by kernel_rfl
set_option maxRecDepth 100000 in
theorem k14 : ((Rows.topStandRow.ifaces == (Try.f19.params.toList ++ Rows.topStandSpec.plain.varTypes Try.prog).any (Try.prog.ifacesRec ·))) = true := by kernel_rfl
set_option maxRecDepth 100000 in
theorem k15 : ((Rows.topStandRow.mapsOut == Try.prog.mapsAmong Try.f19.resultTypes.toList)) = true := by kernel_rfl
set_option maxRecDepth 100000 in
theorem k16 : ((Rows.topStandRow.loops == (Try.f19.params.toList ++ Rows.topStandSpec.plain.varTypes Try.prog).any (Try.prog.loopsFrom ·))) = true := by kernel_rfl
set_option maxRecDepth 100000 in
theorem k17 : ((Rows.topStandRow.wideKeys == (Try.f19.params.toList ++ Rows.topStandSpec.plain.varTypes Try.prog ++ Try.f19.resultTypes.toList).any (Try.prog.wideKeysFrom ·))) = true := by kernel_rfl
set_option maxRecDepth 100000 in
theorem k18 : (Rows.topStandSpec.vars.all (Try.prog.varReadable ·)) = true := by kernel_rfl
set_option maxRecDepth 100000 in
theorem k19 : (Try.f19.resultTypes.all (fun t => Try.prog.readableRec t && decide (t < Try.prog.types.size))) = true := by kernel_rfl
set_option maxRecDepth 100000 in
theorem k20 : ((Rows.topStandRow.ifacesOut == Try.f19.resultTypes.toList.any (Try.prog.ifacesRec ·))) = true := by kernel_rfl
set_option maxRecDepth 100000 in
theorem k21 : ((Rows.topStandRow.loopsOut == Try.f19.resultTypes.toList.any (Try.prog.loopsFrom ·))) = true := by kernel_rfl
set_option maxRecDepth 100000 in
theorem k22 : ((Rows.topStandRow.plainKeys == Try.prog.plainKeys)) = true := by kernel_rfl
set_option maxRecDepth 100000 in
theorem k23 : (Rows.topStandRow.shortTexts.isNone) = true := by kernel_rfl
set_option maxRecDepth 100000 in
theorem k24 : (Try.prog.stopsHeard) = true := faP.heard
set_option maxRecDepth 100000 in
theorem k25 : (Try.prog.mayEnter) = true := faP.enter
set_option maxRecDepth 100000 in
theorem k26 : ((Rows.topStandRow.lifted == Try.prog.liftsFinal)) = true := (congrArg (fun l => l == Try.prog.liftsFinal) (show Rows.topStandRow.lifted = Rows.tokenPlaysRow.lifted by kernel_rfl)).trans faP.lift
set_option maxRecDepth 100000 in
theorem k27 : ((Try.prog.make == some Rows.topStandRow.make)) = true := (congrArg (fun l => Try.prog.make == some l) (show Rows.topStandRow.make = Rows.tokenPlaysRow.make by kernel_rfl)).trans faP.make
set_option maxRecDepth 100000 in
theorem k28 : ((Rows.topStandRow.kinds == (if Rows.topStandRow.domain.isEmpty then [] else Try.f19.params.toList.map fun t => match Try.prog.underlying t with | some (.int k) => some k | _ => none))) = true := by kernel_rfl
set_option maxRecDepth 100000 in
theorem k29 : ((Rows.topStandRow.pinned == Rows.topStandRow.pinnedBy)) = true := by kernel_rfl
set_option maxRecDepth 100000 in
theorem k30 : ((Rows.topStandRow.veiled == (Try.f19.params.toList ++ Rows.topStandSpec.plain.varTypes Try.prog ++ Try.f19.resultTypes.toList).any (Try.prog.veiledRec ·))) = true := by kernel_rfl
set_option maxRecDepth 100000 in
theorem k31 : (Rows.topStandRow.veiledFits Try.prog Try.f19.params.toList (Try.f19.params.toList ++ Rows.topStandSpec.plain.varTypes Try.prog ++ Try.f19.resultTypes.toList)) = true := by kernel_rfl
set_option maxRecDepth 100000 in
theorem all : joinedFacts Try.prog 19 Try.f19 Rows.topStandSpec Rows.topStandRow = true := andT (andT (andT (andT (andT (andT (andT (andT (andT (andT (andT (andT (andT (andT (andT (andT (andT (andT (andT (andT (andT (andT (andT (andT (andT (andT (andT (andT (andT (andT (andT (k0) k1) k2) k3) k4) k5) k6) k7) k8) k9) k10) k11) k12) k13) k14) k15) k16) k17) k18) k19) k20) k21) k22) k23) k24) k25) k26) k27) k28) k29) k30) k31
end Go.Proofs.Ytjgbfnciedkafaa.faTopStand
