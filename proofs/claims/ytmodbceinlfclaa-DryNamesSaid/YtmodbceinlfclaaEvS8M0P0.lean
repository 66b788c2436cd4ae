import Derived.Test.YtmodbceinlfclaaEvS8M0
set_option linter.all false
namespace Go.Ev
open Go.Proofs
set_option maxRecDepth 1000000
theorem mm56_0 : memR Try.prog fp0 100000 pf56 ma56_0 = some mr56_0 := by kernel_rfl
theorem mm56_1 : memR Try.prog fp0 100000 pf56 ma56_1 = some mr56_1 := by kernel_rfl
theorem mm56_2 : memR Try.prog fp0 100000 pf56 ma56_2 = some mr56_2 := by kernel_rfl
theorem mm56_3 : memR Try.prog fp0 100000 pf56 ma56_3 = some mr56_3 := by kernel_rfl
theorem mm40_0 : memR Try.prog fp0 100000 pf40 ma40_0 = some mr40_0 := by kernel_rfl
theorem mm40_1 : memR Try.prog fp0 100000 pf40 ma40_1 = some mr40_1 := by kernel_rfl
theorem mm40_2 : memR Try.prog fp0 100000 pf40 ma40_2 = some mr40_2 := by kernel_rfl
theorem mm40_3 : memR Try.prog fp0 100000 pf40 ma40_3 = some mr40_3 := by kernel_rfl
end Go.Ev
