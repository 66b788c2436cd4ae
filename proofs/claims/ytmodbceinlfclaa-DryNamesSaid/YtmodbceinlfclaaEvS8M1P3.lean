import Derived.Test.YtmodbceinlfclaaEvS8M1
set_option linter.all false
namespace Go.Ev
open Go.Proofs
set_option maxRecDepth 1000000
theorem mm6_3 : memR Try.prog fp1 100000 pf6 ma6_3 = some mr6_3 := by kernel_rfl
theorem mm6_4 : memR Try.prog fp1 100000 pf6 ma6_4 = some mr6_4 := by kernel_rfl
theorem mm6_5 : memR Try.prog fp1 100000 pf6 ma6_5 = some mr6_5 := by kernel_rfl
theorem mm6_6 : memR Try.prog fp1 100000 pf6 ma6_6 = some mr6_6 := by kernel_rfl
theorem mm38_0 : memR Try.prog fp1 100000 pf38 ma38_0 = some mr38_0 := by kernel_rfl
theorem mm13_0 : memR Try.prog fp1 100000 pf13 ma13_0 = some mr13_0 := by kernel_rfl
theorem mm13_1 : memR Try.prog fp1 100000 pf13 ma13_1 = some mr13_1 := by kernel_rfl
theorem mm8_0 : memR Try.prog fp1 100000 pf8 ma8_0 = some mr8_0 := by kernel_rfl
end Go.Ev
