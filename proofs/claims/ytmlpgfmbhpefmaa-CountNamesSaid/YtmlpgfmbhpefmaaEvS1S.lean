import Derived.Test.YtmlpgfmbhpefmaaEvS1D
namespace Go.Ev
open Go.Proofs
set_option maxRecDepth 1000000 in
theorem p8b : lastB Try.prog fp1 100000 Try.f8.ntmps (Code.suf 10 c8) (st0 .h false nx16) .h = true := by kernel_rfl
end Go.Ev
