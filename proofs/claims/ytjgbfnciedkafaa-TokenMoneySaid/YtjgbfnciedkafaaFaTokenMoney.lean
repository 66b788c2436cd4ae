import Derived.Test.YtjgbfnciedkafaaRows
import Derived.WalkKit
import Derived.ProofKit
import Derived.OpenShut
import Derived.ShutString
import Derived.Test.YtjgbfnciedkafaaFaP
namespace Go.Proofs.Ytjgbfnciedkafaa.faTokenMoney
open Go.ChangeShapes Go.WideShapes Go.ChangeAt Go.RowKit
open Go.ChangeMaps (open_string shut_string)
set_option linter.all false
theorem andT {a b : Bool} (h : a = true) (k : b = true) : (a && b) = true := by rw [h, k]; rfl
set_option maxRecDepth 100000 in
theorem k0 : (Rows.tokenMoneyRow.wf (OpenSpec.ofChange Rows.tokenMoneySpec)) = true := by kernel_rfl
set_option maxRecDepth 100000 in
theorem k1 : (laidOutB Try.prog) = true := faP.laid
set_option maxRecDepth 100000 in
theorem k2 : (mapsRowed Try.prog) = true := faP.rowed
set_option maxRecDepth 100000 in
theorem k3 : (Try.f5.params.all (Try.prog.readableRec ·)) = true := by kernel_rfl
set_option maxRecDepth 100000 in
theorem k4 : (namedTie Try.prog Rows.tokenMoneyRow.named Rows.tokenMoneySpec.vars) = true := by kernel_rfl
set_option maxRecDepth 100000 in
theorem k5 : ((Rows.tokenMoneyRow.stops == [])) = true := by kernel_rfl
set_option maxRecDepth 100000 in
theorem k6 : ((Try.prog.stops == [])) = true := by kernel_rfl
set_option maxRecDepth 100000 in
theorem k7 : ((Rows.tokenMoneyRow.knobs == [])) = true := by kernel_rfl
set_option maxRecDepth 100000 in
theorem k8 : ((Try.prog.stopKnobs == [])) = true := by kernel_rfl
set_option maxRecDepth 100000 in
theorem k9 : ((Rows.tokenMoneyRow.inPlace == Try.prog.inPlace 5)) = true := by kernel_rfl
set_option maxRecDepth 100000 in
theorem k10 : ((Rows.tokenMoneyRow.unfollowed == Try.prog.unfollowed 5)) = true := by kernel_rfl
set_option maxRecDepth 100000 in
theorem k11 : ((Rows.tokenMoneyRow.recurses == Try.prog.recurses 5)) = true := by kernel_rfl
set_option maxRecDepth 100000 in
theorem k12 : ((Rows.tokenMoneyRow.named == Try.prog.varsNamed 5)) = true := by kernel_rfl
set_option maxRecDepth 100000 in
theorem k13 : ((Rows.tokenMoneyRow.maps == (Try.f5.params.toList ++ Rows.tokenMoneySpec.plain.varTypes Try.prog).any (Try.prog.mapsRec ·))) = true := by kernel_rfl
set_option maxRecDepth 100000 in
theorem k14 : ((Rows.tokenMoneyRow.ifaces == (Try.f5.params.toList ++ Rows.tokenMoneySpec.plain.varTypes Try.prog).any (Try.prog.ifacesRec ·))) = true := by kernel_rfl
set_option maxRecDepth 100000 in
theorem k15 : ((Rows.tokenMoneyRow.mapsOut == Try.prog.mapsAmong Try.f5.resultTypes.toList)) = true := by kernel_rfl
set_option maxRecDepth 100000 in
theorem k16 : ((Rows.tokenMoneyRow.loops == (Try.f5.params.toList ++ Rows.tokenMoneySpec.plain.varTypes Try.prog).any (Try.prog.loopsFrom ·))) = true := by kernel_rfl
set_option maxRecDepth 100000 in
theorem k17 : ((Rows.tokenMoneyRow.wideKeys == (Try.f5.params.toList ++ Rows.tokenMoneySpec.plain.varTypes Try.prog ++ Try.f5.resultTypes.toList).any (Try.prog.wideKeysFrom ·))) = true := by kernel_rfl
set_option maxRecDepth 100000 in
theorem k18 : (Rows.tokenMoneySpec.vars.all (Try.prog.varReadable ·)) = true := by kernel_rfl
set_option maxRecDepth 100000 in
theorem k19 : (Try.f5.resultTypes.all (fun t => Try.prog.readableRec t && decide (t < Try.prog.types.size))) = true := by kernel_rfl
set_option maxRecDepth 100000 in
theorem k20 : ((Rows.tokenMoneyRow.ifacesOut == Try.f5.resultTypes.toList.any (Try.prog.ifacesRec ·))) = true := by kernel_rfl
set_option maxRecDepth 100000 in
theorem k21 : ((Rows.tokenMoneyRow.loopsOut == Try.f5.resultTypes.toList.any (Try.prog.loopsFrom ·))) = true := by kernel_rfl
set_option maxRecDepth 100000 in
theorem k22 : ((Rows.tokenMoneyRow.plainKeys == Try.prog.plainKeys)) = true := by kernel_rfl
set_option maxRecDepth 100000 in
theorem k23 : (Rows.tokenMoneyRow.shortTexts.isNone) = true := by kernel_rfl
set_option maxRecDepth 100000 in
theorem k24 : (Try.prog.stopsHeard) = true := faP.heard
set_option maxRecDepth 100000 in
theorem k25 : (Try.prog.mayEnter) = true := faP.enter
set_option maxRecDepth 100000 in
theorem k26 : ((Rows.tokenMoneyRow.lifted == Try.prog.liftsFinal)) = true := (congrArg (fun l => l == Try.prog.liftsFinal) (show Rows.tokenMoneyRow.lifted = Rows.tokenPlaysRow.lifted by kernel_rfl)).trans faP.lift
set_option maxRecDepth 100000 in
theorem k27 : ((Try.prog.make == some Rows.tokenMoneyRow.make)) = true := (congrArg (fun l => Try.prog.make == some l) (show Rows.tokenMoneyRow.make = Rows.tokenPlaysRow.make by kernel_rfl)).trans faP.make
set_option maxRecDepth 100000 in
theorem k28 : ((Rows.tokenMoneyRow.kinds == (if Rows.tokenMoneyRow.domain.isEmpty then [] else Try.f5.params.toList.map fun t => match Try.prog.underlying t with | some (.int k) => some k | _ => none))) = true := by kernel_rfl
set_option maxRecDepth 100000 in
theorem k29 : ((Rows.tokenMoneyRow.pinned == Rows.tokenMoneyRow.pinnedBy)) = true := by kernel_rfl
set_option maxRecDepth 100000 in
theorem k30 : ((Rows.tokenMoneyRow.veiled == (Try.f5.params.toList ++ Rows.tokenMoneySpec.plain.varTypes Try.prog ++ Try.f5.resultTypes.toList).any (Try.prog.veiledRec ·))) = true := by kernel_rfl
set_option maxRecDepth 100000 in
theorem k31 : (Rows.tokenMoneyRow.veiledFits Try.prog Try.f5.params.toList (Try.f5.params.toList ++ Rows.tokenMoneySpec.plain.varTypes Try.prog ++ Try.f5.resultTypes.toList)) = true := by kernel_rfl
set_option maxRecDepth 100000 in
theorem all : joinedFacts Try.prog 5 Try.f5 Rows.tokenMoneySpec Rows.tokenMoneyRow = true := andT (andT (andT (andT (andT (andT (andT (andT (andT (andT (andT (andT (andT (andT (andT (andT (andT (andT (andT (andT (andT (andT (andT (andT (andT (andT (andT (andT (andT (andT (andT (k0) k1) k2) k3) k4) k5) k6) k7) k8) k9) k10) k11) k12) k13) k14) k15) k16) k17) k18) k19) k20) k21) k22) k23) k24) k25) k26) k27) k28) k29) k30) k31
end Go.Proofs.Ytjgbfnciedkafaa.faTokenMoney
