import Derived.Test.YtdjedijpmjdapaaDoorEvS4wF3D
set_option linter.all false
namespace Go.Ev
open Go.Proofs
set_option maxRecDepth 1000000 in
theorem p3_1 : gcX ms3_1 mo3_1 (exec Tryd.prog fp1 100000 (comp Tryd.prog Tryd.f3.ntmps (Code.pre 1 (Code.suf 8 c3))) x3_0) = some x3_1 := by kernel_rfl
end Go.Ev
