import Derived.Test.YtjgbfnciedkafaaEvUTq0
set_option linter.all false
set_option maxHeartbeats 8000000
noncomputable section
namespace Go.Ev
open Go.Proofs
set_option maxRecDepth 1000000
theorem Uf : (dD 1).all dI = true := by kernel_rfl
theorem UA : (dD 2).all dI = true := by kernel_rfl
end Go.Ev
end
