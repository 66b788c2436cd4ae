import Derived.Test.YtdjedijpmjdapaaDoorEvS4wF3D
set_option linter.all false
namespace Go.Ev
open Go.Proofs
set_option maxRecDepth 1000000 in
theorem p3_3 : gcX ms3_3 mo3_3 (exec Tryd.prog fp1 100000 (comp Tryd.prog Tryd.f3.ntmps (Code.pre 2 (Code.suf 14 c3))) x3_2) = some x3_3 := by kernel_rfl
end Go.Ev
