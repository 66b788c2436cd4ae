import Derived.Test.YtdjedijpmjdapaaDoorEvS4wF19D
set_option linter.all false
namespace Go.Ev
open Go.Proofs
set_option maxRecDepth 1000000 in
theorem p19_l : lastB Tryd.prog fp 100000 Tryd.f19.ntmps (Code.suf 7 c19) x19_1 .h = true := by kernel_rfl
end Go.Ev
