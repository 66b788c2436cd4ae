import Derived.Test.YtmodbceinlfclaaEvS8M0
set_option linter.all false
namespace Go.Ev
open Go.Proofs
set_option maxRecDepth 1000000
theorem mm58_6 : memR Try.prog fp0 100000 pf58 ma58_6 = some mr58_6 := by kernel_rfl
theorem mm58_7 : memR Try.prog fp0 100000 pf58 ma58_7 = some mr58_7 := by kernel_rfl
theorem mm58_8 : memR Try.prog fp0 100000 pf58 ma58_8 = some mr58_8 := by kernel_rfl
theorem mm58_9 : memR Try.prog fp0 100000 pf58 ma58_9 = some mr58_9 := by kernel_rfl
theorem mm58_10 : memR Try.prog fp0 100000 pf58 ma58_10 = some mr58_10 := by kernel_rfl
theorem mm58_11 : memR Try.prog fp0 100000 pf58 ma58_11 = some mr58_11 := by kernel_rfl
theorem mm58_12 : memR Try.prog fp0 100000 pf58 ma58_12 = some mr58_12 := by kernel_rfl
theorem mm58_13 : memR Try.prog fp0 100000 pf58 ma58_13 = some mr58_13 := by kernel_rfl
end Go.Ev
