import Derived.Test.YtcgjkifhckdjnaaGreatEvS9M1
set_option linter.all false
namespace Go.Ev
open Go.Proofs
set_option maxRecDepth 1000000
theorem mm9_1 : memR Tryz.prog fp1 100000 pf9 ma9_1 = some mr9_1 := by kernel_rfl
theorem mm9_2 : memR Tryz.prog fp1 100000 pf9 ma9_2 = some mr9_2 := by kernel_rfl
theorem mm13_0 : memR Tryz.prog fp1 100000 pf13 ma13_0 = some mr13_0 := by kernel_rfl
theorem mm13_1 : memR Tryz.prog fp1 100000 pf13 ma13_1 = some mr13_1 := by kernel_rfl
theorem mm13_2 : memR Tryz.prog fp1 100000 pf13 ma13_2 = some mr13_2 := by kernel_rfl
theorem mm14_0 : memR Tryz.prog fp1 100000 pf14 ma14_0 = some mr14_0 := by kernel_rfl
theorem mm14_1 : memR Tryz.prog fp1 100000 pf14 ma14_1 = some mr14_1 := by kernel_rfl
theorem mm14_2 : memR Tryz.prog fp1 100000 pf14 ma14_2 = some mr14_2 := by kernel_rfl
end Go.Ev
