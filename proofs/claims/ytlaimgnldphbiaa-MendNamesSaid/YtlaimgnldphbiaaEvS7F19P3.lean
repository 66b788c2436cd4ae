import Derived.Test.YtlaimgnldphbiaaEvS7F19D
set_option linter.all false
namespace Go.Ev
open Go.Proofs
set_option maxRecDepth 1000000 in
theorem p19_3 : gcX ms19_3 mo19_3 (exec Try.prog fp 100000 (comp Try.prog Try.f19.ntmps (Code.pre 1 (Code.suf 4 c19))) x19_2) = some x19_3 := by kernel_rfl
end Go.Ev
