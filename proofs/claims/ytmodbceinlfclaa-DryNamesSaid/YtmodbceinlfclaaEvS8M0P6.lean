import Derived.Test.YtmodbceinlfclaaEvS8M0
set_option linter.all false
namespace Go.Ev
open Go.Proofs
set_option maxRecDepth 1000000
theorem mm58_22 : memR Try.prog fp0 100000 pf58 ma58_22 = some mr58_22 := by kernel_rfl
theorem mm58_23 : memR Try.prog fp0 100000 pf58 ma58_23 = some mr58_23 := by kernel_rfl
theorem mm58_24 : memR Try.prog fp0 100000 pf58 ma58_24 = some mr58_24 := by kernel_rfl
theorem mm58_25 : memR Try.prog fp0 100000 pf58 ma58_25 = some mr58_25 := by kernel_rfl
theorem mm58_26 : memR Try.prog fp0 100000 pf58 ma58_26 = some mr58_26 := by kernel_rfl
theorem mm58_27 : memR Try.prog fp0 100000 pf58 ma58_27 = some mr58_27 := by kernel_rfl
end Go.Ev
