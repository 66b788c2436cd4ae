import Derived.Test.YtmodbceinlfclaaEvS8M1
set_option linter.all false
namespace Go.Ev
open Go.Proofs
set_option maxRecDepth 1000000
theorem mm15_0 : memR Try.prog fp1 100000 pf15 ma15_0 = some mr15_0 := by kernel_rfl
theorem mm15_1 : memR Try.prog fp1 100000 pf15 ma15_1 = some mr15_1 := by kernel_rfl
theorem mm15_2 : memR Try.prog fp1 100000 pf15 ma15_2 = some mr15_2 := by kernel_rfl
theorem mm15_3 : memR Try.prog fp1 100000 pf15 ma15_3 = some mr15_3 := by kernel_rfl
theorem mm15_4 : memR Try.prog fp1 100000 pf15 ma15_4 = some mr15_4 := by kernel_rfl
theorem mm15_5 : memR Try.prog fp1 100000 pf15 ma15_5 = some mr15_5 := by kernel_rfl
theorem mm15_6 : memR Try.prog fp1 100000 pf15 ma15_6 = some mr15_6 := by kernel_rfl
theorem mm15_7 : memR Try.prog fp1 100000 pf15 ma15_7 = some mr15_7 := by kernel_rfl
end Go.Ev
