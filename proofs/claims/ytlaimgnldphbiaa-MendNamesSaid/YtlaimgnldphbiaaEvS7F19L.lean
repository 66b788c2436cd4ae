import Derived.Test.YtlaimgnldphbiaaEvS7F19D
set_option linter.all false
namespace Go.Ev
open Go.Proofs
set_option maxRecDepth 1000000 in
theorem p19_l : lastB Try.prog fp 100000 Try.f19.ntmps (Code.suf 8 c19) x19_6 .h = true := by kernel_rfl
end Go.Ev
