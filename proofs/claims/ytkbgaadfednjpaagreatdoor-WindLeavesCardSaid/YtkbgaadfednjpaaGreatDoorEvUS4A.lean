import Derived.Test.YtkbgaadfednjpaaGreatDoorEvUS4M0F
set_option linter.all false
set_option maxHeartbeats 8000000
noncomputable section
namespace Go.Ev
open Go.Proofs
def Om : Pos := (.o (.i (.i (.o .h))))
set_option maxRecDepth 1000000 in
theorem aw : mG Tryz.prog OG 100000 Om = true := by kernel_rfl
end Go.Ev
end
