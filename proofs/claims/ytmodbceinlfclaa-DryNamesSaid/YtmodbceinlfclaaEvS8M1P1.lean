import Derived.Test.YtmodbceinlfclaaEvS8M1
set_option linter.all false
namespace Go.Ev
open Go.Proofs
set_option maxRecDepth 1000000
theorem mm15_8 : memR Try.prog fp1 100000 pf15 ma15_8 = some mr15_8 := by kernel_rfl
theorem mm4_0 : memR Try.prog fp1 100000 pf4 ma4_0 = some mr4_0 := by kernel_rfl
theorem mm4_1 : memR Try.prog fp1 100000 pf4 ma4_1 = some mr4_1 := by kernel_rfl
theorem mm4_2 : memR Try.prog fp1 100000 pf4 ma4_2 = some mr4_2 := by kernel_rfl
theorem mm4_3 : memR Try.prog fp1 100000 pf4 ma4_3 = some mr4_3 := by kernel_rfl
theorem mm10_0 : memR Try.prog fp1 100000 pf10 ma10_0 = some mr10_0 := by kernel_rfl
theorem mm10_1 : memR Try.prog fp1 100000 pf10 ma10_1 = some mr10_1 := by kernel_rfl
theorem mm10_2 : memR Try.prog fp1 100000 pf10 ma10_2 = some mr10_2 := by kernel_rfl
end Go.Ev
