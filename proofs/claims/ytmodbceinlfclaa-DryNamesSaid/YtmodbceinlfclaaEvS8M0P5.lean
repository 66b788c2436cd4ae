import Derived.Test.YtmodbceinlfclaaEvS8M0
set_option linter.all false
namespace Go.Ev
open Go.Proofs
set_option maxRecDepth 1000000
theorem mm58_14 : memR Try.prog fp0 100000 pf58 ma58_14 = some mr58_14 := by kernel_rfl
theorem mm58_15 : memR Try.prog fp0 100000 pf58 ma58_15 = some mr58_15 := by kernel_rfl
theorem mm58_16 : memR Try.prog fp0 100000 pf58 ma58_16 = some mr58_16 := by kernel_rfl
theorem mm58_17 : memR Try.prog fp0 100000 pf58 ma58_17 = some mr58_17 := by kernel_rfl
theorem mm58_18 : memR Try.prog fp0 100000 pf58 ma58_18 = some mr58_18 := by kernel_rfl
theorem mm58_19 : memR Try.prog fp0 100000 pf58 ma58_19 = some mr58_19 := by kernel_rfl
theorem mm58_20 : memR Try.prog fp0 100000 pf58 ma58_20 = some mr58_20 := by kernel_rfl
theorem mm58_21 : memR Try.prog fp0 100000 pf58 ma58_21 = some mr58_21 := by kernel_rfl
end Go.Ev
