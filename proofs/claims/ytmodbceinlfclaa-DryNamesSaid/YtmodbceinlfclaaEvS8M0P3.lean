import Derived.Test.YtmodbceinlfclaaEvS8M0
set_option linter.all false
namespace Go.Ev
open Go.Proofs
set_option maxRecDepth 1000000
theorem mm40_20 : memR Try.prog fp0 100000 pf40 ma40_20 = some mr40_20 := by kernel_rfl
theorem mm40_21 : memR Try.prog fp0 100000 pf40 ma40_21 = some mr40_21 := by kernel_rfl
theorem mm58_0 : memR Try.prog fp0 100000 pf58 ma58_0 = some mr58_0 := by kernel_rfl
theorem mm58_1 : memR Try.prog fp0 100000 pf58 ma58_1 = some mr58_1 := by kernel_rfl
theorem mm58_2 : memR Try.prog fp0 100000 pf58 ma58_2 = some mr58_2 := by kernel_rfl
theorem mm58_3 : memR Try.prog fp0 100000 pf58 ma58_3 = some mr58_3 := by kernel_rfl
theorem mm58_4 : memR Try.prog fp0 100000 pf58 ma58_4 = some mr58_4 := by kernel_rfl
theorem mm58_5 : memR Try.prog fp0 100000 pf58 ma58_5 = some mr58_5 := by kernel_rfl
end Go.Ev
