import Derived.Test.YtjgbfnciedkafaaEvS3F8M
namespace Go.Ev
open Go.Proofs
set_option maxRecDepth 1000000 in
theorem p8_l : lastB Try.prog fp1 100000 Try.f8.ntmps (Code.suf 17 c8) x8_4 .h = true := by kernel_rfl
end Go.Ev
