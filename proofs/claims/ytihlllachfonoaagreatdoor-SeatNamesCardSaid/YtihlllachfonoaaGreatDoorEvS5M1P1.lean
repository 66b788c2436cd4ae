import Derived.Test.YtihlllachfonoaaGreatDoorEvS5M1
set_option linter.all false
namespace Go.Ev
open Go.Proofs
set_option maxRecDepth 1000000
theorem mm15_0 : memR Tryz.prog fp1 100000 pf15 ma15_0 = some mr15_0 := by kernel_rfl
theorem mm15_1 : memR Tryz.prog fp1 100000 pf15 ma15_1 = some mr15_1 := by kernel_rfl
theorem mm15_2 : memR Tryz.prog fp1 100000 pf15 ma15_2 = some mr15_2 := by kernel_rfl
theorem mm15_3 : memR Tryz.prog fp1 100000 pf15 ma15_3 = some mr15_3 := by kernel_rfl
theorem mm16_0 : memR Tryz.prog fp1 100000 pf16 ma16_0 = some mr16_0 := by kernel_rfl
theorem mm16_1 : memR Tryz.prog fp1 100000 pf16 ma16_1 = some mr16_1 := by kernel_rfl
theorem mm8_0 : memR Tryz.prog fp1 100000 pf8 ma8_0 = some mr8_0 := by kernel_rfl
theorem mm8_1 : memR Tryz.prog fp1 100000 pf8 ma8_1 = some mr8_1 := by kernel_rfl
end Go.Ev
