import Derived.Test.YtjgbfnciedkafaaRows
import Derived.WalkKit
import Derived.ProofKit
import Derived.OpenShut
import Derived.ShutString
namespace Go.Proofs.Ytjgbfnciedkafaa.faP
open Go.ChangeShapes Go.WideShapes Go.ChangeAt Go.RowKit
open Go.ChangeMaps (open_string shut_string)
set_option linter.all false
set_option maxRecDepth 100000 in
theorem laid : laidOutB Try.prog = true := by kernel_rfl
set_option maxRecDepth 100000 in
theorem rowed : mapsRowed Try.prog = true := by kernel_rfl
set_option maxRecDepth 100000 in
theorem heard : Try.prog.stopsHeard = true := by kernel_rfl
set_option maxRecDepth 100000 in
theorem enter : Try.prog.mayEnter = true := by kernel_rfl
set_option maxRecDepth 100000 in
theorem lift : (Rows.tokenPlaysRow.lifted == Try.prog.liftsFinal) = true := by kernel_rfl
set_option maxRecDepth 100000 in
theorem make : (Try.prog.make == some Rows.tokenPlaysRow.make) = true := by kernel_rfl
end Go.Proofs.Ytjgbfnciedkafaa.faP
