import Derived.Test.YtkbgaadfednjpaaGreatDoorEvUS4M0
set_option linter.all false
set_option maxHeartbeats 8000000
noncomputable section
namespace Go.Ev
open Go.Proofs
set_option maxRecDepth 1000000
theorem Hi : nV Tryz.prog Fb 100000 JO DF = some DQ := by kernel_rfl
end Go.Ev
end
