import Derived.Test.YtjgbfnciedkafaaRows
import Derived.WalkKit
import Derived.ProofKit
import Derived.OpenShut
import Derived.ShutString
import Derived.Test.YtjgbfnciedkafaaFaP
namespace Go.Proofs.Ytjgbfnciedkafaa.faTokenEndUpto
open Go.ChangeShapes Go.WideShapes Go.ChangeAt Go.RowKit
open Go.ChangeMaps (open_string shut_string)
set_option linter.all false
set_option maxRecDepth 100000
abbrev sp : ChangeSpec := (Rows.OpenSpec.upto Rows.tokenEndSpec).bare
theorem andT {a b : Bool} (h : a = true) (k : b = true) : (a && b) = true := by rw [h, k]; rfl
theorem k0 : (Rows.tokenEndUptoRow.wf (OpenSpec.ofChange sp)) = true := by kernel_rfl
theorem k1 : (laidOutB Try.prog) = true := faP.laid
theorem k2 : (mapsRowed Try.prog) = true := faP.rowed
theorem k3 : (Try.f18.params.all (Try.prog.readableRec ·)) = true := by kernel_rfl
theorem k4 : (namedTie Try.prog Rows.tokenEndUptoRow.named sp.vars) = true := by kernel_rfl
theorem k5 : ((Rows.tokenEndUptoRow.stops == [])) = true := by kernel_rfl
theorem k6 : ((Try.prog.stops == [])) = true := by kernel_rfl
theorem k7 : ((Rows.tokenEndUptoRow.knobs == [])) = true := by kernel_rfl
theorem k8 : ((Try.prog.stopKnobs == [])) = true := by kernel_rfl
theorem k9 : ((Rows.tokenEndUptoRow.inPlace == Try.prog.inPlace 18)) = true := by kernel_rfl
theorem k10 : ((Rows.tokenEndUptoRow.unfollowed == Try.prog.unfollowed 18)) = true := by kernel_rfl
theorem k11 : ((Rows.tokenEndUptoRow.recurses == Try.prog.recurses 18)) = true := by kernel_rfl
theorem k12 : ((Rows.tokenEndUptoRow.named == Try.prog.varsNamed 18)) = true := by kernel_rfl
theorem k13 : ((Rows.tokenEndUptoRow.maps == (Try.f18.params.toList ++ sp.plain.varTypes Try.prog).any (Try.prog.mapsRec ·))) = true := by kernel_rfl
theorem k14 : ((Rows.tokenEndUptoRow.ifaces == (Try.f18.params.toList ++ sp.plain.varTypes Try.prog).any (Try.prog.ifacesRec ·))) = true := by kernel_rfl
theorem k15 : ((Rows.tokenEndUptoRow.mapsOut == Try.prog.mapsAmong Try.f18.resultTypes.toList)) = true := by kernel_rfl
theorem k16 : ((Rows.tokenEndUptoRow.loops == (Try.f18.params.toList ++ sp.plain.varTypes Try.prog).any (Try.prog.loopsFrom ·))) = true := by kernel_rfl
theorem k17 : ((Rows.tokenEndUptoRow.wideKeys == (Try.f18.params.toList ++ sp.plain.varTypes Try.prog ++ Try.f18.resultTypes.toList).any (Try.prog.wideKeysFrom ·))) = true := by kernel_rfl
theorem k18 : (sp.vars.all (Try.prog.varReadable ·)) = true := by kernel_rfl
theorem k19 : (Try.f18.resultTypes.all (fun t => Try.prog.readableRec t && decide (t < Try.prog.types.size))) = true := by kernel_rfl
theorem k20 : ((Rows.tokenEndUptoRow.ifacesOut == Try.f18.resultTypes.toList.any (Try.prog.ifacesRec ·))) = true := by kernel_rfl
theorem k21 : ((Rows.tokenEndUptoRow.loopsOut == Try.f18.resultTypes.toList.any (Try.prog.loopsFrom ·))) = true := by kernel_rfl
theorem k22 : ((Rows.tokenEndUptoRow.plainKeys == Try.prog.plainKeys)) = true := by kernel_rfl
theorem k23 : (Rows.tokenEndUptoRow.shortTexts.isNone) = true := by kernel_rfl
theorem k24 : (Try.prog.stopsHeard) = true := faP.heard
theorem k25 : (Try.prog.mayEnter) = true := faP.enter
theorem k26 : ((Rows.tokenEndUptoRow.lifted == Try.prog.liftsFinal)) = true := (congrArg (fun l => l == Try.prog.liftsFinal) (show Rows.tokenEndUptoRow.lifted = Rows.tokenPlaysRow.lifted by kernel_rfl)).trans faP.lift
theorem k27 : ((Try.prog.make == some Rows.tokenEndUptoRow.make)) = true := (congrArg (fun l => Try.prog.make == some l) (show Rows.tokenEndUptoRow.make = Rows.tokenPlaysRow.make by kernel_rfl)).trans faP.make
theorem k28 : ((Rows.tokenEndUptoRow.kinds == (if Rows.tokenEndUptoRow.domain.isEmpty then [] else Try.f18.params.toList.map fun t => match Try.prog.underlying t with | some (.int k) => some k | _ => none))) = true := by kernel_rfl
theorem k29 : ((Rows.tokenEndUptoRow.pinned == Rows.tokenEndUptoRow.pinnedBy)) = true := by kernel_rfl
theorem k30 : ((Rows.tokenEndUptoRow.veiled == (Try.f18.params.toList ++ sp.plain.varTypes Try.prog ++ Try.f18.resultTypes.toList).any (Try.prog.veiledRec ·))) = true := by kernel_rfl
theorem k31 : (Rows.tokenEndUptoRow.veiledFits Try.prog Try.f18.params.toList (Try.f18.params.toList ++ sp.plain.varTypes Try.prog ++ Try.f18.resultTypes.toList)) = true := by kernel_rfl
theorem all : joinedFacts Try.prog 18 Try.f18 sp Rows.tokenEndUptoRow = true := andT (andT (andT (andT (andT (andT (andT (andT (andT (andT (andT (andT (andT (andT (andT (andT (andT (andT (andT (andT (andT (andT (andT (andT (andT (andT (andT (andT (andT (andT (andT (k0) k1) k2) k3) k4) k5) k6) k7) k8) k9) k10) k11) k12) k13) k14) k15) k16) k17) k18) k19) k20) k21) k22) k23) k24) k25) k26) k27) k28) k29) k30) k31
end Go.Proofs.Ytjgbfnciedkafaa.faTokenEndUpto
