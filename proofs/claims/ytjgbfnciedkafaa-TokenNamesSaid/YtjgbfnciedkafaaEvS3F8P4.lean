import Derived.Test.YtjgbfnciedkafaaEvS3F8M
namespace Go.Ev
open Go.Proofs
set_option maxRecDepth 1000000 in
theorem p8_4 : gcX ms8_4 mo8_4 (exec Try.prog fp1 100000 (comp Try.prog Try.f8.ntmps (Code.pre 6 (Code.suf 11 c8))) x8_3) = some x8_4 := by kernel_rfl
end Go.Ev
