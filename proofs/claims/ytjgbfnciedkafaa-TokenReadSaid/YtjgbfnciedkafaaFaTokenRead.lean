import Derived.Test.YtjgbfnciedkafaaRows
import Derived.WalkKit
import Derived.ProofKit
import Derived.OpenShut
import Derived.ShutString
import Derived.Test.YtjgbfnciedkafaaFaP
namespace Go.Proofs.Ytjgbfnciedkafaa.faTokenRead
open Go.ChangeShapes Go.WideShapes Go.ChangeAt Go.RowKit
open Go.ChangeMaps (open_string shut_string)
set_option linter.all false
theorem andT {a b : Bool} (h : a = true) (k : b = true) : (a && b) = true := by rw [h, k]; rfl
set_option maxRecDepth 100000 in
theorem k0 : (Rows.tokenReadRow.wf (OpenSpec.ofChange Rows.tokenReadSpec)) = true := by kernel_rfl
set_option maxRecDepth 100000 in
theorem k1 : (laidOutB Try.prog) = true := faP.laid
set_option maxRecDepth 100000 in
theorem k2 : (mapsRowed Try.prog) = true := faP.rowed
set_option maxRecDepth 100000 in
theorem k3 : (Try.f14.params.all (Try.prog.readableRec ·)) = true := by kernel_rfl
set_option maxRecDepth 100000 in
theorem k4 : (namedTie Try.prog Rows.tokenReadRow.named Rows.tokenReadSpec.vars) = true := by kernel_rfl
set_option maxRecDepth 100000 in
theorem k5 : ((Rows.tokenReadRow.stops == [])) = true := by kernel_rfl
set_option maxRecDepth 100000 in
theorem k6 : ((Try.prog.stops == [])) = true := by kernel_rfl
set_option maxRecDepth 100000 in
theorem k7 : ((Rows.tokenReadRow.knobs == [])) = true := by kernel_rfl
set_option maxRecDepth 100000 in
theorem k8 : ((Try.prog.stopKnobs == [])) = true := by kernel_rfl
set_option maxRecDepth 100000 in
theorem k9 : ((Rows.tokenReadRow.inPlace == Try.prog.inPlace 14)) = true := by kernel_rfl
set_option maxRecDepth 100000 in
theorem k10 : ((Rows.tokenReadRow.unfollowed == Try.prog.unfollowed 14)) = true := by kernel_rfl
set_option maxRecDepth 100000 in
theorem k11 : ((Rows.tokenReadRow.recurses == Try.prog.recurses 14)) = true := by kernel_rfl
set_option maxRecDepth 100000 in
theorem k12 : ((Rows.tokenReadRow.named == Try.prog.varsNamed 14)) = true := by kernel_rfl
set_option maxRecDepth 100000 in
theorem k13 : ((Rows.tokenReadRow.maps == (Try.f14.params.toList ++ Rows.tokenReadSpec.plain.varTypes Try.prog).any (Try.prog.mapsRec ·))) = true := by kernel_rfl
set_option maxRecDepth 100000 in
theorem k14 : ((Rows.tokenReadRow.ifaces == (Try.f14.params.toList ++ Rows.tokenReadSpec.plain.varTypes Try.prog).any (Try.prog.ifacesRec ·))) = true := by kernel_rfl
set_option maxRecDepth 100000 in
theorem k15 : ((Rows.tokenReadRow.mapsOut == Try.prog.mapsAmong Try.f14.resultTypes.toList)) = true := by kernel_rfl
set_option maxRecDepth 100000 in
theorem k16 : ((Rows.tokenReadRow.loops == (Try.f14.params.toList ++ Rows.tokenReadSpec.plain.varTypes Try.prog).any (Try.prog.loopsFrom ·))) = true := by kernel_rfl
set_option maxRecDepth 100000 in
theorem k17 : ((Rows.tokenReadRow.wideKeys == (Try.f14.params.toList ++ Rows.tokenReadSpec.plain.varTypes Try.prog ++ Try.f14.resultTypes.toList).any (Try.prog.wideKeysFrom ·))) = true := by kernel_rfl
set_option maxRecDepth 100000 in
theorem k18 : (Rows.tokenReadSpec.vars.all (Try.prog.varReadable ·)) = true := by kernel_rfl
set_option maxRecDepth 100000 in
theorem k19 : (Try.f14.resultTypes.all (fun t => Try.prog.readableRec t && decide (t < Try.prog.types.size))) = true := by kernel_rfl
set_option maxRecDepth 100000 in
theorem k20 : ((Rows.tokenReadRow.ifacesOut == Try.f14.resultTypes.toList.any (Try.prog.ifacesRec ·))) = true := by kernel_rfl
set_option maxRecDepth 100000 in
theorem k21 : ((Rows.tokenReadRow.loopsOut == Try.f14.resultTypes.toList.any (Try.prog.loopsFrom ·))) = true := by kernel_rfl
set_option maxRecDepth 100000 in
theorem k22 : ((Rows.tokenReadRow.plainKeys == Try.prog.plainKeys)) = true := by kernel_rfl
set_option maxRecDepth 100000 in
theorem k23 : (Rows.tokenReadRow.shortTexts.isNone) = true := by kernel_rfl
set_option maxRecDepth 100000 in
theorem k24 : (Try.prog.stopsHeard) = true := faP.heard
set_option maxRecDepth 100000 in
theorem k25 : (Try.prog.mayEnter) = true := faP.enter
set_option maxRecDepth 100000 in
theorem k26 : ((Rows.tokenReadRow.lifted == Try.prog.liftsFinal)) = true := (congrArg (fun l => l == Try.prog.liftsFinal) (show Rows.tokenReadRow.lifted = Rows.tokenPlaysRow.lifted by kernel_rfl)).trans faP.lift
set_option maxRecDepth 100000 in
theorem k27 : ((Try.prog.make == some Rows.tokenReadRow.make)) = true := (congrArg (fun l => Try.prog.make == some l) (show Rows.tokenReadRow.make = Rows.tokenPlaysRow.make by kernel_rfl)).trans faP.make
set_option maxRecDepth 100000 in
theorem k28 : ((Rows.tokenReadRow.kinds == (if Rows.tokenReadRow.domain.isEmpty then [] else Try.f14.params.toList.map fun t => match Try.prog.underlying t with | some (.int k) => some k | _ => none))) = true := by kernel_rfl
set_option maxRecDepth 100000 in
theorem k29 : ((Rows.tokenReadRow.pinned == Rows.tokenReadRow.pinnedBy)) = true := by kernel_rfl
set_option maxRecDepth 100000 in
theorem k30 : ((Rows.tokenReadRow.veiled == (Try.f14.params.toList ++ Rows.tokenReadSpec.plain.varTypes Try.prog ++ Try.f14.resultTypes.toList).any (Try.prog.veiledRec ·))) = true := by kernel_rfl
set_option maxRecDepth 100000 in
theorem k31 : (Rows.tokenReadRow.veiledFits Try.prog Try.f14.params.toList (Try.f14.params.toList ++ Rows.tokenReadSpec.plain.varTypes Try.prog ++ Try.f14.resultTypes.toList)) = true := by kernel_rfl
set_option maxRecDepth 100000 in
theorem all : joinedFacts Try.prog 14 Try.f14 Rows.tokenReadSpec Rows.tokenReadRow = true := andT (andT (andT (andT (andT (andT (andT (andT (andT (andT (andT (andT (andT (andT (andT (andT (andT (andT (andT (andT (andT (andT (andT (andT (andT (andT (andT (andT (andT (andT (andT (k0) k1) k2) k3) k4) k5) k6) k7) k8) k9) k10) k11) k12) k13) k14) k15) k16) k17) k18) k19) k20) k21) k22) k23) k24) k25) k26) k27) k28) k29) k30) k31
end Go.Proofs.Ytjgbfnciedkafaa.faTokenRead
