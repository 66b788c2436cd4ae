import Derived.Test.YtdjedijpmjdapaaDoorEvS4wF3D
set_option linter.all false
namespace Go.Ev
open Go.Proofs
set_option maxRecDepth 1000000 in
theorem p3_2 : gcX ms3_2 mo3_2 (exec Tryd.prog fp1 100000 (comp Tryd.prog Tryd.f3.ntmps (Code.pre 5 (Code.suf 9 c3))) x3_1) = some x3_2 := by kernel_rfl
end Go.Ev
