import Derived.Test.YtcgjkifhckdjnaaGreatEvS9M1
set_option linter.all false
namespace Go.Ev
open Go.Proofs
set_option maxRecDepth 1000000
theorem mm15_8 : memR Tryz.prog fp1 100000 pf15 ma15_8 = some mr15_8 := by kernel_rfl
theorem mm15_9 : memR Tryz.prog fp1 100000 pf15 ma15_9 = some mr15_9 := by kernel_rfl
theorem mm15_10 : memR Tryz.prog fp1 100000 pf15 ma15_10 = some mr15_10 := by kernel_rfl
theorem mm15_11 : memR Tryz.prog fp1 100000 pf15 ma15_11 = some mr15_11 := by kernel_rfl
theorem mm4_0 : memR Tryz.prog fp1 100000 pf4 ma4_0 = some mr4_0 := by kernel_rfl
theorem mm4_1 : memR Tryz.prog fp1 100000 pf4 ma4_1 = some mr4_1 := by kernel_rfl
theorem mm7_0 : memR Tryz.prog fp1 100000 pf7 ma7_0 = some mr7_0 := by kernel_rfl
theorem mm7_1 : memR Tryz.prog fp1 100000 pf7 ma7_1 = some mr7_1 := by kernel_rfl
end Go.Ev
