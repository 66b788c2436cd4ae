import Derived.Test.YtjgbfnciedkafaaRows
import Derived.WalkKit
import Derived.ProofKit
import Derived.OpenShut
import Derived.ShutString
import Derived.Test.YtjgbfnciedkafaaFaP
namespace Go.Proofs.Ytjgbfnciedkafaa.faTokenLeft
open Go.ChangeShapes Go.WideShapes Go.ChangeAt Go.RowKit
open Go.ChangeMaps (open_string shut_string)
set_option linter.all false
theorem andT {a b : Bool} (h : a = true) (k : b = true) : (a && b) = true := by rw [h, k]; rfl
set_option maxRecDepth 100000 in
theorem k0 : (Rows.tokenLeftRow.wf (OpenSpec.ofChange Rows.tokenLeftSpec)) = true := by kernel_rfl
set_option maxRecDepth 100000 in
theorem k1 : (laidOutB Try.prog) = true := faP.laid
set_option maxRecDepth 100000 in
theorem k2 : (mapsRowed Try.prog) = true := faP.rowed
set_option maxRecDepth 100000 in
theorem k3 : (Try.f17.params.all (Try.prog.readableRec ·)) = true := by kernel_rfl
set_option maxRecDepth 100000 in
theorem k4 : (namedTie Try.prog Rows.tokenLeftRow.named Rows.tokenLeftSpec.vars) = true := by kernel_rfl
set_option maxRecDepth 100000 in
theorem k5 : ((Rows.tokenLeftRow.stops == [])) = true := by kernel_rfl
set_option maxRecDepth 100000 in
theorem k6 : ((Try.prog.stops == [])) = true := by kernel_rfl
set_option maxRecDepth 100000 in
theorem k7 : ((Rows.tokenLeftRow.knobs == [])) = true := by kernel_rfl
set_option maxRecDepth 100000 in
theorem k8 : ((Try.prog.stopKnobs == [])) = true := by kernel_rfl
set_option maxRecDepth 100000 in
theorem k9 : ((Rows.tokenLeftRow.inPlace == Try.prog.inPlace 17)) = true := by kernel_rfl
set_option maxRecDepth 100000 in
theorem k10 : ((Rows.tokenLeftRow.unfollowed == Try.prog.unfollowed 17)) = true := by kernel_rfl
set_option maxRecDepth 100000 in
theorem k11 : ((Rows.tokenLeftRow.recurses == Try.prog.recurses 17)) = true := by kernel_rfl
set_option maxRecDepth 100000 in
theorem k12 : ((Rows.tokenLeftRow.named == Try.prog.varsNamed 17)) = true := by kernel_rfl
set_option maxRecDepth 100000 in
theorem k13 : ((Rows.tokenLeftRow.maps == (Try.f17.params.toList ++ Rows.tokenLeftSpec.plain.varTypes Try.prog).any (Try.prog.mapsRec ·))) = true := by kernel_rfl
set_option maxRecDepth 100000 in
theorem k14 : ((Rows.tokenLeftRow.ifaces == (Try.f17.params.toList ++ Rows.tokenLeftSpec.plain.varTypes Try.prog).any (Try.prog.ifacesRec ·))) = true := by kernel_rfl
set_option maxRecDepth 100000 in
theorem k15 : ((Rows.tokenLeftRow.mapsOut == Try.prog.mapsAmong Try.f17.resultTypes.toList)) = true := by kernel_rfl
set_option maxRecDepth 100000 in
theorem k16 : ((Rows.tokenLeftRow.loops == (Try.f17.params.toList ++ Rows.tokenLeftSpec.plain.varTypes Try.prog).any (Try.prog.loopsFrom ·))) = true := by kernel_rfl
set_option maxRecDepth 100000 in
theorem k17 : ((Rows.tokenLeftRow.wideKeys == (Try.f17.params.toList ++ Rows.tokenLeftSpec.plain.varTypes Try.prog ++ Try.f17.resultTypes.toList).any (Try.prog.wideKeysFrom ·))) = true := by kernel_rfl
set_option maxRecDepth 100000 in
theorem k18 : (Rows.tokenLeftSpec.vars.all (Try.prog.varReadable ·)) = true := by kernel_rfl
set_option maxRecDepth 100000 in
theorem k19 : (Try.f17.resultTypes.all (fun t => Try.prog.readableRec t && decide (t < Try.prog.types.size))) = true := by kernel_rfl
set_option maxRecDepth 100000 in
theorem k20 : ((Rows.tokenLeftRow.ifacesOut == Try.f17.resultTypes.toList.any (Try.prog.ifacesRec ·))) = true := by kernel_rfl
set_option maxRecDepth 100000 in
theorem k21 : ((Rows.tokenLeftRow.loopsOut == Try.f17.resultTypes.toList.any (Try.prog.loopsFrom ·))) = true := by kernel_rfl
set_option maxRecDepth 100000 in
theorem k22 : ((Rows.tokenLeftRow.plainKeys == Try.prog.plainKeys)) = true := by kernel_rfl
set_option maxRecDepth 100000 in
theorem k23 : (Rows.tokenLeftRow.shortTexts.isNone) = true := by kernel_rfl
set_option maxRecDepth 100000 in
theorem k24 : (Try.prog.stopsHeard) = true := faP.heard
set_option maxRecDepth 100000 in
theorem k25 : (Try.prog.mayEnter) = true := faP.enter
set_option maxRecDepth 100000 in
theorem k26 : ((Rows.tokenLeftRow.lifted == Try.prog.liftsFinal)) = true := (congrArg (fun l => l == Try.prog.liftsFinal) (show Rows.tokenLeftRow.lifted = Rows.tokenPlaysRow.lifted by kernel_rfl)).trans faP.lift
set_option maxRecDepth 100000 in
theorem k27 : ((Try.prog.make == some Rows.tokenLeftRow.make)) = true := (congrArg (fun l => Try.prog.make == some l) (show Rows.tokenLeftRow.make = Rows.tokenPlaysRow.make by kernel_rfl)).trans faP.make
set_option maxRecDepth 100000 in
theorem k28 : ((Rows.tokenLeftRow.kinds == (if Rows.tokenLeftRow.domain.isEmpty then [] else Try.f17.params.toList.map fun t => match Try.prog.underlying t with | some (.int k) => some k | _ => none))) = true := by kernel_rfl
set_option maxRecDepth 100000 in
theorem k29 : ((Rows.tokenLeftRow.pinned == Rows.tokenLeftRow.pinnedBy)) = true := by kernel_rfl
set_option maxRecDepth 100000 in
theorem k30 : ((Rows.tokenLeftRow.veiled == (Try.f17.params.toList ++ Rows.tokenLeftSpec.plain.varTypes Try.prog ++ Try.f17.resultTypes.toList).any (Try.prog.veiledRec ·))) = true := by kernel_rfl
set_option maxRecDepth 100000 in
theorem k31 : (Rows.tokenLeftRow.veiledFits Try.prog Try.f17.params.toList (Try.f17.params.toList ++ Rows.tokenLeftSpec.plain.varTypes Try.prog ++ Try.f17.resultTypes.toList)) = true := by kernel_rfl
set_option maxRecDepth 100000 in
theorem all : joinedFacts Try.prog 17 Try.f17 Rows.tokenLeftSpec Rows.tokenLeftRow = true := andT (andT (andT (andT (andT (andT (andT (andT (andT (andT (andT (andT (andT (andT (andT (andT (andT (andT (andT (andT (andT (andT (andT (andT (andT (andT (andT (andT (andT (andT (andT (k0) k1) k2) k3) k4) k5) k6) k7) k8) k9) k10) k11) k12) k13) k14) k15) k16) k17) k18) k19) k20) k21) k22) k23) k24) k25) k26) k27) k28) k29) k30) k31
end Go.Proofs.Ytjgbfnciedkafaa.faTokenLeft
