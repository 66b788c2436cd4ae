import Derived.Test.YtjgbfnciedkafaaEvSa
set_option linter.all false
namespace Go.Ev
open Go.Proofs
set_option maxRecDepth 1000000 in
theorem p21_0 : gcX ms21_0 mo21_0 (exec Try.prog fp 100000 (comp Try.prog Try.f21.ntmps (Code.pre 3 c21)) ⟨.e, .e, .h, none⟩) = some x21_0 := by kernel_rfl
end Go.Ev
