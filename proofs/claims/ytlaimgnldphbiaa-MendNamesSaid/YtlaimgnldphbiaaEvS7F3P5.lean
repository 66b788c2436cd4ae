import Derived.Test.YtlaimgnldphbiaaEvS7F3D
set_option linter.all false
namespace Go.Ev
open Go.Proofs
set_option maxRecDepth 1000000 in
theorem p3_5 : gcX ms3_5 mo3_5 (exec Try.prog fp1 100000 (comp Try.prog Try.f3.ntmps (Code.pre 1 (Code.suf 6 c3))) x3_4) = some x3_5 := by kernel_rfl
end Go.Ev
