import Derived.Test.YtlaimgnldphbiaaEvS7F3D
set_option linter.all false
namespace Go.Ev
open Go.Proofs
set_option maxRecDepth 1000000 in
theorem p3_l : lastB Try.prog fp1 100000 Try.f3.ntmps (Code.suf 18 c3) x3_10 .h = true := by kernel_rfl
end Go.Ev
