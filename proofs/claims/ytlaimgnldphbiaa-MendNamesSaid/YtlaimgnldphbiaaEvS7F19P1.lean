import Derived.Test.YtlaimgnldphbiaaEvS7F19D
set_option linter.all false
namespace Go.Ev
open Go.Proofs
set_option maxRecDepth 1000000 in
theorem p19_1 : gcX ms19_1 mo19_1 (exec Try.prog fp 100000 (comp Try.prog Try.f19.ntmps (Code.pre 1 (Code.suf 2 c19))) x19_0) = some x19_1 := by kernel_rfl
end Go.Ev
