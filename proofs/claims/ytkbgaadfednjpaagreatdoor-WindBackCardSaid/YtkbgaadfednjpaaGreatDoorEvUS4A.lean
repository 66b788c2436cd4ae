import Derived.Test.YtkbgaadfednjpaaGreatDoorEvUS4M0F
set_option linter.all false
set_option maxHeartbeats 8000000
noncomputable section
namespace Go.Ev
open Go.Proofs
def MW : Pos := (.o (.i (.i (.o .h))))
set_option maxRecDepth 1000000 in
theorem aw : lX Tryz.prog Nn 100000 MW = true := by kernel_rfl
end Go.Ev
end
