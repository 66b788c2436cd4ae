import Derived.Test.YtjgbfnciedkafaaEvS3F8M
namespace Go.Ev
open Go.Proofs
set_option maxRecDepth 1000000 in
theorem p8_3 : gcX ms8_3 mo8_3 (exec Try.prog fp1 100000 (comp Try.prog Try.f8.ntmps (Code.pre 2 (Code.suf 9 c8))) x8_2) = some x8_3 := by kernel_rfl
end Go.Ev
