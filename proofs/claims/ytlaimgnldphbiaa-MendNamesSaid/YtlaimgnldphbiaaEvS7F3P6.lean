import Derived.Test.YtlaimgnldphbiaaEvS7F3D
set_option linter.all false
namespace Go.Ev
open Go.Proofs
set_option maxRecDepth 1000000 in
theorem p3_6 : gcX ms3_6 mo3_6 (exec Try.prog fp1 100000 (comp Try.prog Try.f3.ntmps (Code.pre 2 (Code.suf 7 c3))) x3_5) = some x3_6 := by kernel_rfl
end Go.Ev
