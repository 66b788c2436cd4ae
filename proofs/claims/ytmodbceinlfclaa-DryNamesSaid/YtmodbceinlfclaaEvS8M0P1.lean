import Derived.Test.YtmodbceinlfclaaEvS8M0
set_option linter.all false
namespace Go.Ev
open Go.Proofs
set_option maxRecDepth 1000000
theorem mm40_4 : memR Try.prog fp0 100000 pf40 ma40_4 = some mr40_4 := by kernel_rfl
theorem mm40_5 : memR Try.prog fp0 100000 pf40 ma40_5 = some mr40_5 := by kernel_rfl
theorem mm40_6 : memR Try.prog fp0 100000 pf40 ma40_6 = some mr40_6 := by kernel_rfl
theorem mm40_7 : memR Try.prog fp0 100000 pf40 ma40_7 = some mr40_7 := by kernel_rfl
theorem mm40_8 : memR Try.prog fp0 100000 pf40 ma40_8 = some mr40_8 := by kernel_rfl
theorem mm40_9 : memR Try.prog fp0 100000 pf40 ma40_9 = some mr40_9 := by kernel_rfl
theorem mm40_10 : memR Try.prog fp0 100000 pf40 ma40_10 = some mr40_10 := by kernel_rfl
theorem mm40_11 : memR Try.prog fp0 100000 pf40 ma40_11 = some mr40_11 := by kernel_rfl
end Go.Ev
