import Derived.Test.YtihlllachfonoaaGreatDoorEvS5M0
set_option linter.all false
namespace Go.Ev
open Go.Proofs
set_option maxRecDepth 1000000
theorem mm108_0 : memR Tryz.prog fp0 100000 pf108 ma108_0 = some mr108_0 := by kernel_rfl
theorem mm108_1 : memR Tryz.prog fp0 100000 pf108 ma108_1 = some mr108_1 := by kernel_rfl
theorem mm108_2 : memR Tryz.prog fp0 100000 pf108 ma108_2 = some mr108_2 := by kernel_rfl
end Go.Ev
