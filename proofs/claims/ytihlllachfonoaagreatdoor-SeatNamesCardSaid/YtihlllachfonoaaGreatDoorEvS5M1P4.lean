import Derived.Test.YtihlllachfonoaaGreatDoorEvS5M1
set_option linter.all false
namespace Go.Ev
open Go.Proofs
set_option maxRecDepth 1000000
theorem mm14_4 : memR Tryz.prog fp1 100000 pf14 ma14_4 = some mr14_4 := by kernel_rfl
end Go.Ev
