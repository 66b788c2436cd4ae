import Derived.Test.YtlopmelahdidkaaEvS10M1
set_option linter.all false
namespace Go.Ev
open Go.Proofs
set_option maxRecDepth 1000000
theorem mm7_1 : memR Try.prog fp1 100000 pf7 ma7_1 = some mr7_1 := by kernel_rfl
theorem mm7_2 : memR Try.prog fp1 100000 pf7 ma7_2 = some mr7_2 := by kernel_rfl
theorem mm9_0 : memR Try.prog fp1 100000 pf9 ma9_0 = some mr9_0 := by kernel_rfl
theorem mm9_1 : memR Try.prog fp1 100000 pf9 ma9_1 = some mr9_1 := by kernel_rfl
theorem mm9_2 : memR Try.prog fp1 100000 pf9 ma9_2 = some mr9_2 := by kernel_rfl
theorem mm10_0 : memR Try.prog fp1 100000 pf10 ma10_0 = some mr10_0 := by kernel_rfl
theorem mm10_1 : memR Try.prog fp1 100000 pf10 ma10_1 = some mr10_1 := by kernel_rfl
theorem mm10_2 : memR Try.prog fp1 100000 pf10 ma10_2 = some mr10_2 := by kernel_rfl
end Go.Ev
