import Derived.Test.YtdjedijpmjdapaaDoorEvS4wF3D
set_option linter.all false
namespace Go.Ev
open Go.Proofs
set_option maxRecDepth 1000000 in
theorem p3_4 : gcX ms3_4 mo3_4 (exec Tryd.prog fp1 100000 (comp Tryd.prog Tryd.f3.ntmps (Code.pre 12 (Code.suf 16 c3))) x3_3) = some x3_4 := by kernel_rfl
end Go.Ev
