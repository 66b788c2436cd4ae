import Derived.Test.YtmlpgfmbhpefmaaEvS1X
set_option linter.all false
namespace Go.Ev
open Go.Proofs
set_option maxRecDepth 1000000 in
theorem a19a : gcX ms19 mo19 (exec Try.prog fp 100000 (comp Try.prog Try.f19.ntmps (Code.pre 5 c19)) ⟨.e, .e, .h, none⟩) = some x19 := by kernel_rfl
end Go.Ev
