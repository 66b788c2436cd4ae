import Derived.Test.YtjgbfnciedkafaaEvS3F8M
namespace Go.Ev
open Go.Proofs
set_option maxRecDepth 1000000 in
theorem p8_0 : gcX ms8_0 mo8_0 (exec Try.prog fp1 100000 (comp Try.prog Try.f8.ntmps (Code.pre 3 c8)) ⟨.e, .e, .h, none⟩) = some x8_0 := by kernel_rfl
end Go.Ev
