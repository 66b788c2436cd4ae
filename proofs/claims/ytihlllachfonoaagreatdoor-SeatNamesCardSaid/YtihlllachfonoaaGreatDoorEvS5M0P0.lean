import Derived.Test.YtihlllachfonoaaGreatDoorEvS5M0
set_option linter.all false
namespace Go.Ev
open Go.Proofs
set_option maxRecDepth 1000000
theorem mm45_0 : memR Tryz.prog fp0 100000 pf45 ma45_0 = some mr45_0 := by kernel_rfl
theorem mm45_1 : memR Tryz.prog fp0 100000 pf45 ma45_1 = some mr45_1 := by kernel_rfl
theorem mm45_2 : memR Tryz.prog fp0 100000 pf45 ma45_2 = some mr45_2 := by kernel_rfl
theorem mm45_3 : memR Tryz.prog fp0 100000 pf45 ma45_3 = some mr45_3 := by kernel_rfl
theorem mm45_4 : memR Tryz.prog fp0 100000 pf45 ma45_4 = some mr45_4 := by kernel_rfl
theorem mm45_5 : memR Tryz.prog fp0 100000 pf45 ma45_5 = some mr45_5 := by kernel_rfl
theorem mm45_6 : memR Tryz.prog fp0 100000 pf45 ma45_6 = some mr45_6 := by kernel_rfl
theorem mm45_7 : memR Tryz.prog fp0 100000 pf45 ma45_7 = some mr45_7 := by kernel_rfl
end Go.Ev
