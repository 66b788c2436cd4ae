import Derived.Test.YtkbgaadfednjpaaGreatDoorEvUS4M0F
set_option linter.all false
set_option maxHeartbeats 8000000
noncomputable section
namespace Go.Ev
open Go.Proofs
def LF : Pos := (.o (.i (.i (.o .h))))
set_option maxRecDepth 1000000 in
theorem aw : lW Tryz.prog Mb 100000 LF = true := by kernel_rfl
end Go.Ev
end
