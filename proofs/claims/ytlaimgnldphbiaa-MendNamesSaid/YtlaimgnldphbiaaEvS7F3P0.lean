import Derived.Test.YtlaimgnldphbiaaEvS7F3D
set_option linter.all false
namespace Go.Ev
open Go.Proofs
set_option maxRecDepth 1000000 in
theorem p3_0 : gcX ms3_0 mo3_0 (exec Try.prog fp1 100000 (comp Try.prog Try.f3.ntmps (Code.pre 2 c3)) ⟨.e, .e, .h, none⟩) = some x3_0 := by kernel_rfl
end Go.Ev
