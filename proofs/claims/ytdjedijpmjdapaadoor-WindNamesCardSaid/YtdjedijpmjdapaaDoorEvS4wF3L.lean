import Derived.Test.YtdjedijpmjdapaaDoorEvS4wF3D
set_option linter.all false
namespace Go.Ev
open Go.Proofs
set_option maxRecDepth 1000000 in
theorem p3_l : lastB Tryd.prog fp1 100000 Tryd.f3.ntmps (Code.suf 28 c3) x3_4 .h = true := by kernel_rfl
end Go.Ev
