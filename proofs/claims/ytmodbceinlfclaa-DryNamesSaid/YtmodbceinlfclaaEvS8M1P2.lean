import Derived.Test.YtmodbceinlfclaaEvS8M1
set_option linter.all false
namespace Go.Ev
open Go.Proofs
set_option maxRecDepth 1000000
theorem mm10_3 : memR Try.prog fp1 100000 pf10 ma10_3 = some mr10_3 := by kernel_rfl
theorem mm10_4 : memR Try.prog fp1 100000 pf10 ma10_4 = some mr10_4 := by kernel_rfl
theorem mm7_0 : memR Try.prog fp1 100000 pf7 ma7_0 = some mr7_0 := by kernel_rfl
theorem mm7_1 : memR Try.prog fp1 100000 pf7 ma7_1 = some mr7_1 := by kernel_rfl
theorem mm7_2 : memR Try.prog fp1 100000 pf7 ma7_2 = some mr7_2 := by kernel_rfl
theorem mm6_0 : memR Try.prog fp1 100000 pf6 ma6_0 = some mr6_0 := by kernel_rfl
theorem mm6_1 : memR Try.prog fp1 100000 pf6 ma6_1 = some mr6_1 := by kernel_rfl
theorem mm6_2 : memR Try.prog fp1 100000 pf6 ma6_2 = some mr6_2 := by kernel_rfl
end Go.Ev
