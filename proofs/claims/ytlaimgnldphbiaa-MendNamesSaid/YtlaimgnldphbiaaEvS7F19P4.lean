import Derived.Test.YtlaimgnldphbiaaEvS7F19D
set_option linter.all false
namespace Go.Ev
open Go.Proofs
set_option maxRecDepth 1000000 in
theorem p19_4 : gcX ms19_4 mo19_4 (exec Try.prog fp 100000 (comp Try.prog Try.f19.ntmps (Code.pre 1 (Code.suf 5 c19))) x19_3) = some x19_4 := by kernel_rfl
end Go.Ev
