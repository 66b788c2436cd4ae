import Derived.Test.YtlaimgnldphbiaaEvS7F19D
set_option linter.all false
namespace Go.Ev
open Go.Proofs
set_option maxRecDepth 1000000 in
theorem p19_2 : gcX ms19_2 mo19_2 (exec Try.prog fp 100000 (comp Try.prog Try.f19.ntmps (Code.pre 1 (Code.suf 3 c19))) x19_1) = some x19_2 := by kernel_rfl
end Go.Ev
