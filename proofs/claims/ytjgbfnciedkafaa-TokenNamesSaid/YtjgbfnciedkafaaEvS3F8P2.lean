import Derived.Test.YtjgbfnciedkafaaEvS3F8M
namespace Go.Ev
open Go.Proofs
set_option maxRecDepth 1000000 in
theorem p8_2 : gcX ms8_2 mo8_2 (exec Try.prog fp1 100000 (comp Try.prog Try.f8.ntmps (Code.pre 3 (Code.suf 6 c8))) x8_1) = some x8_2 := by kernel_rfl
end Go.Ev
