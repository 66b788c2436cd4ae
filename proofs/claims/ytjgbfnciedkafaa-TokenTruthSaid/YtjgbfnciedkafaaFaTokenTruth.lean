import Derived.Test.YtjgbfnciedkafaaRows
import Derived.WalkKit
import Derived.ProofKit
import Derived.OpenShut
import Derived.ShutString
import Derived.Test.YtjgbfnciedkafaaFaP
namespace Go.Proofs.Ytjgbfnciedkafaa.faTokenTruth
open Go.ChangeShapes Go.WideShapes Go.ChangeAt Go.RowKit
open Go.ChangeMaps (open_string shut_string)
set_option linter.all false
theorem andT {a b : Bool} (h : a = true) (k : b = true) : (a && b) = true := by rw [h, k]; rfl
set_option maxRecDepth 100000 in
theorem k0 : (Rows.tokenTruthRow.wf (OpenSpec.ofChange Rows.tokenTruthSpec)) = true := by kernel_rfl
set_option maxRecDepth 100000 in
theorem k1 : (laidOutB Try.prog) = true := faP.laid
set_option maxRecDepth 100000 in
theorem k2 : (mapsRowed Try.prog) = true := faP.rowed
set_option maxRecDepth 100000 in
theorem k3 : (Try.f9.params.all (Try.prog.readableRec ·)) = true := by kernel_rfl
set_option maxRecDepth 100000 in
theorem k4 : (namedTie Try.prog Rows.tokenTruthRow.named Rows.tokenTruthSpec.vars) = true := by kernel_rfl
set_option maxRecDepth 100000 in
theorem k5 : ((Rows.tokenTruthRow.stops == [])) = true := by kernel_rfl
set_option maxRecDepth 100000 in
theorem k6 : ((Try.prog.stops == [])) = true := by kernel_rfl
set_option maxRecDepth 100000 in
theorem k7 : ((Rows.tokenTruthRow.knobs == [])) = true := by kernel_rfl
set_option maxRecDepth 100000 in
theorem k8 : ((Try.prog.stopKnobs == [])) = true := by kernel_rfl
set_option maxRecDepth 100000 in
theorem k9 : ((Rows.tokenTruthRow.inPlace == Try.prog.inPlace 9)) = true := by kernel_rfl
set_option maxRecDepth 100000 in
theorem k10 : ((Rows.tokenTruthRow.unfollowed == Try.prog.unfollowed 9)) = true := by kernel_rfl
set_option maxRecDepth 100000 in
theorem k11 : ((Rows.tokenTruthRow.recurses == Try.prog.recurses 9)) = true := by kernel_rfl
set_option maxRecDepth 100000 in
theorem k12 : ((Rows.tokenTruthRow.named == Try.prog.varsNamed 9)) = true := by kernel_rfl
set_option maxRecDepth 100000 in
theorem k13 : ((Rows.tokenTruthRow.maps == (Try.f9.params.toList ++ Rows.tokenTruthSpec.plain.varTypes Try.prog).any (Try.prog.mapsRec ·))) = true := by kernel_rfl
set_option maxRecDepth 100000 in
theorem k14 : ((Rows.tokenTruthRow.ifaces == (Try.f9.params.toList ++ Rows.tokenTruthSpec.plain.varTypes Try.prog).any (Try.prog.ifacesRec ·))) = true := by kernel_rfl
set_option maxRecDepth 100000 in
theorem k15 : ((Rows.tokenTruthRow.mapsOut == Try.prog.mapsAmong Try.f9.resultTypes.toList)) = true := by kernel_rfl
set_option maxRecDepth 100000 in
theorem k16 : ((Rows.tokenTruthRow.loops == (Try.f9.params.toList ++ Rows.tokenTruthSpec.plain.varTypes Try.prog).any (Try.prog.loopsFrom ·))) = true := by kernel_rfl
set_option maxRecDepth 100000 in
theorem k17 : ((Rows.tokenTruthRow.wideKeys == (Try.f9.params.toList ++ Rows.tokenTruthSpec.plain.varTypes Try.prog ++ Try.f9.resultTypes.toList).any (Try.prog.wideKeysFrom ·))) = true := by kernel_rfl
set_option maxRecDepth 100000 in
theorem k18 : (Rows.tokenTruthSpec.vars.all (Try.prog.varReadable ·)) = true := by kernel_rfl
set_option maxRecDepth 100000 in
theorem k19 : (Try.f9.resultTypes.all (fun t => Try.prog.readableRec t && decide (t < Try.prog.types.size))) = true := by kernel_rfl
set_option maxRecDepth 100000 in
theorem k20 : ((Rows.tokenTruthRow.ifacesOut == Try.f9.resultTypes.toList.any (Try.prog.ifacesRec ·))) = true := by kernel_rfl
set_option maxRecDepth 100000 in
theorem k21 : ((Rows.tokenTruthRow.loopsOut == Try.f9.resultTypes.toList.any (Try.prog.loopsFrom ·))) = true := by kernel_rfl
set_option maxRecDepth 100000 in
theorem k22 : ((Rows.tokenTruthRow.plainKeys == Try.prog.plainKeys)) = true := by kernel_rfl
set_option maxRecDepth 100000 in
theorem k23 : (Rows.tokenTruthRow.shortTexts.isNone) = true := by kernel_rfl
set_option maxRecDepth 100000 in
theorem k24 : (Try.prog.stopsHeard) = true := faP.heard
set_option maxRecDepth 100000 in
theorem k25 : (Try.prog.mayEnter) = true := faP.enter
set_option maxRecDepth 100000 in
theorem k26 : ((Rows.tokenTruthRow.lifted == Try.prog.liftsFinal)) = true := (congrArg (fun l => l == Try.prog.liftsFinal) (show Rows.tokenTruthRow.lifted = Rows.tokenPlaysRow.lifted by kernel_rfl)).trans faP.lift
set_option maxRecDepth 100000 in
theorem k27 : ((Try.prog.make == some Rows.tokenTruthRow.make)) = true := (congrArg (fun l => Try.prog.make == some l) (show Rows.tokenTruthRow.make = Rows.tokenPlaysRow.make by kernel_rfl)).trans faP.make
set_option maxRecDepth 100000 in
theorem k28 : ((Rows.tokenTruthRow.kinds == (if Rows.tokenTruthRow.domain.isEmpty then [] else Try.f9.params.toList.map fun t => match Try.prog.underlying t with | some (.int k) => some k | _ => none))) = true := by kernel_rfl
set_option maxRecDepth 100000 in
theorem k29 : ((Rows.tokenTruthRow.pinned == Rows.tokenTruthRow.pinnedBy)) = true := by kernel_rfl
set_option maxRecDepth 100000 in
theorem k30 : ((Rows.tokenTruthRow.veiled == (Try.f9.params.toList ++ Rows.tokenTruthSpec.plain.varTypes Try.prog ++ Try.f9.resultTypes.toList).any (Try.prog.veiledRec ·))) = true := by kernel_rfl
set_option maxRecDepth 100000 in
theorem k31 : (Rows.tokenTruthRow.veiledFits Try.prog Try.f9.params.toList (Try.f9.params.toList ++ Rows.tokenTruthSpec.plain.varTypes Try.prog ++ Try.f9.resultTypes.toList)) = true := by kernel_rfl
set_option maxRecDepth 100000 in
theorem all : joinedFacts Try.prog 9 Try.f9 Rows.tokenTruthSpec Rows.tokenTruthRow = true := andT (andT (andT (andT (andT (andT (andT (andT (andT (andT (andT (andT (andT (andT (andT (andT (andT (andT (andT (andT (andT (andT (andT (andT (andT (andT (andT (andT (andT (andT (andT (k0) k1) k2) k3) k4) k5) k6) k7) k8) k9) k10) k11) k12) k13) k14) k15) k16) k17) k18) k19) k20) k21) k22) k23) k24) k25) k26) k27) k28) k29) k30) k31
end Go.Proofs.Ytjgbfnciedkafaa.faTokenTruth
