import Derived.Test.YtmodbceinlfclaaEvS8M0
set_option linter.all false
namespace Go.Ev
open Go.Proofs
set_option maxRecDepth 1000000
theorem mm40_12 : memR Try.prog fp0 100000 pf40 ma40_12 = some mr40_12 := by kernel_rfl
theorem mm40_13 : memR Try.prog fp0 100000 pf40 ma40_13 = some mr40_13 := by kernel_rfl
theorem mm40_14 : memR Try.prog fp0 100000 pf40 ma40_14 = some mr40_14 := by kernel_rfl
theorem mm40_15 : memR Try.prog fp0 100000 pf40 ma40_15 = some mr40_15 := by kernel_rfl
theorem mm40_16 : memR Try.prog fp0 100000 pf40 ma40_16 = some mr40_16 := by kernel_rfl
theorem mm40_17 : memR Try.prog fp0 100000 pf40 ma40_17 = some mr40_17 := by kernel_rfl
theorem mm40_18 : memR Try.prog fp0 100000 pf40 ma40_18 = some mr40_18 := by kernel_rfl
theorem mm40_19 : memR Try.prog fp0 100000 pf40 ma40_19 = some mr40_19 := by kernel_rfl
end Go.Ev
