import Derived.Test.YtjgbfnciedkafaaEvS3F8M
namespace Go.Ev
open Go.Proofs
set_option maxRecDepth 1000000 in
theorem p8_1 : gcX ms8_1 mo8_1 (exec Try.prog fp1 100000 (comp Try.prog Try.f8.ntmps (Code.pre 3 (Code.suf 3 c8))) x8_0) = some x8_1 := by kernel_rfl
end Go.Ev
