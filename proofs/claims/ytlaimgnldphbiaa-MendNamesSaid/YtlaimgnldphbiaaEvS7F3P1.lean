import Derived.Test.YtlaimgnldphbiaaEvS7F3D
set_option linter.all false
namespace Go.Ev
open Go.Proofs
set_option maxRecDepth 1000000 in
theorem p3_1 : gcX ms3_1 mo3_1 (exec Try.prog fp1 100000 (comp Try.prog Try.f3.ntmps (Code.pre 1 (Code.suf 2 c3))) x3_0) = some x3_1 := by kernel_rfl
end Go.Ev
