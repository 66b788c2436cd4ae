import Derived.Test.YtlaimgnldphbiaaEvS7F19D
set_option linter.all false
namespace Go.Ev
open Go.Proofs
set_option maxRecDepth 1000000 in
theorem p19_5 : gcX ms19_5 mo19_5 (exec Try.prog fp 100000 (comp Try.prog Try.f19.ntmps (Code.pre 1 (Code.suf 6 c19))) x19_4) = some x19_5 := by kernel_rfl
end Go.Ev
