import Derived.Test.YtjgbfnciedkafaaEvS3F21M
namespace Go.Ev
open Go.Proofs
set_option maxRecDepth 1000000 in
theorem p21_l : lastB Try.prog fp 100000 Try.f21.ntmps (Code.suf 5 c21) x21_1 .h = true := by kernel_rfl
end Go.Ev
