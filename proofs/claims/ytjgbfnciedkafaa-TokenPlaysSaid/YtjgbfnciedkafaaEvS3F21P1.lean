import Derived.Test.YtjgbfnciedkafaaEvSa
set_option linter.all false
namespace Go.Ev
open Go.Proofs
set_option maxRecDepth 1000000 in
theorem p21_1 : gcX ms21_1 mo21_1 (exec Try.prog fp 100000 (comp Try.prog Try.f21.ntmps (Code.pre 2 (Code.suf 3 c21))) x21_0) = some x21_1 := by kernel_rfl
end Go.Ev
