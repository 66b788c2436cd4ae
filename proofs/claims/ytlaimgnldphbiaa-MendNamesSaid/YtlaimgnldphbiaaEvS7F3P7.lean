import Derived.Test.YtlaimgnldphbiaaEvS7F3D
set_option linter.all false
namespace Go.Ev
open Go.Proofs
set_option maxRecDepth 1000000 in
theorem p3_7 : gcX ms3_7 mo3_7 (exec Try.prog fp1 100000 (comp Try.prog Try.f3.ntmps (Code.pre 3 (Code.suf 9 c3))) x3_6) = some x3_7 := by kernel_rfl
end Go.Ev
