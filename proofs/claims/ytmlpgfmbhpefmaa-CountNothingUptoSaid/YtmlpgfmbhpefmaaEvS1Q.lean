import Derived.Test.YtmlpgfmbhpefmaaEvS1X
set_option linter.all false
namespace Go.Ev
open Go.Proofs
set_option maxRecDepth 1000000 in
theorem a19b : lastB Try.prog fp 100000 Try.f19.ntmps (Code.suf 5 c19) x19 .h = true := by kernel_rfl
end Go.Ev
