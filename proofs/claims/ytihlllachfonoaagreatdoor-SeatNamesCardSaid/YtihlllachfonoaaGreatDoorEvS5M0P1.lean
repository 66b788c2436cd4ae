import Derived.Test.YtihlllachfonoaaGreatDoorEvS5M0
set_option linter.all false
namespace Go.Ev
open Go.Proofs
set_option maxRecDepth 1000000
theorem mm45_8 : memR Tryz.prog fp0 100000 pf45 ma45_8 = some mr45_8 := by kernel_rfl
theorem mm45_9 : memR Tryz.prog fp0 100000 pf45 ma45_9 = some mr45_9 := by kernel_rfl
theorem mm45_10 : memR Tryz.prog fp0 100000 pf45 ma45_10 = some mr45_10 := by kernel_rfl
theorem mm35_0 : memR Tryz.prog fp0 100000 pf35 ma35_0 = some mr35_0 := by kernel_rfl
theorem mm35_1 : memR Tryz.prog fp0 100000 pf35 ma35_1 = some mr35_1 := by kernel_rfl
theorem mm35_2 : memR Tryz.prog fp0 100000 pf35 ma35_2 = some mr35_2 := by kernel_rfl
theorem mm35_3 : memR Tryz.prog fp0 100000 pf35 ma35_3 = some mr35_3 := by kernel_rfl
theorem mm35_4 : memR Tryz.prog fp0 100000 pf35 ma35_4 = some mr35_4 := by kernel_rfl
end Go.Ev
