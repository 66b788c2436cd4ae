import Derived.Test.YtlaimgnldphbiaaEvS7F19D
set_option linter.all false
namespace Go.Ev
open Go.Proofs
set_option maxRecDepth 1000000 in
theorem p19_0 : gcX ms19_0 mo19_0 (exec Try.prog fp 100000 (comp Try.prog Try.f19.ntmps (Code.pre 2 c19)) ⟨.e, .e, .h, none⟩) = some x19_0 := by kernel_rfl
end Go.Ev
