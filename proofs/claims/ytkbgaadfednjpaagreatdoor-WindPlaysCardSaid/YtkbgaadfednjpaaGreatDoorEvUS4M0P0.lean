import Derived.Test.YtkbgaadfednjpaaGreatDoorEvUS4M0
set_option linter.all false
set_option maxHeartbeats 8000000
noncomputable section
namespace Go.Ev
open Go.Proofs
set_option maxRecDepth 1000000
theorem Er : pI Tryz.prog Db 100000 GN Bg = some Cg := by kernel_rfl
end Go.Ev
end
