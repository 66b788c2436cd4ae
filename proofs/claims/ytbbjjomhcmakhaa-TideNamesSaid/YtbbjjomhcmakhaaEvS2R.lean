import Derived.Test.YtbbjjomhcmakhaaEvS2C
namespace Go.Ev
open Go.Proofs
set_option maxRecDepth 1000000 in
theorem p8c : lastB Try.prog fp1 100000 315 (Code.suf 7 (Code.suf 3 c8)) (st0 .h false nx16) .h = true := by kernel_rfl
end Go.Ev
