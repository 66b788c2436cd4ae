import Derived.Test.YtlopmelahdidkaaEvS10M1
set_option linter.all false
namespace Go.Ev
open Go.Proofs
set_option maxRecDepth 1000000
theorem mm14_4 : memR Try.prog fp1 100000 pf14 ma14_4 = some mr14_4 := by kernel_rfl
theorem mm15_0 : memR Try.prog fp1 100000 pf15 ma15_0 = some mr15_0 := by kernel_rfl
theorem mm15_1 : memR Try.prog fp1 100000 pf15 ma15_1 = some mr15_1 := by kernel_rfl
theorem mm15_2 : memR Try.prog fp1 100000 pf15 ma15_2 = some mr15_2 := by kernel_rfl
theorem mm15_3 : memR Try.prog fp1 100000 pf15 ma15_3 = some mr15_3 := by kernel_rfl
end Go.Ev
