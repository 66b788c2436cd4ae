import Derived.Test.YtcgjkifhckdjnaaGreatEvS9M1
set_option linter.all false
namespace Go.Ev
open Go.Proofs
set_option maxRecDepth 1000000
theorem mm12_0 : memR Tryz.prog fp1 100000 pf12 ma12_0 = some mr12_0 := by kernel_rfl
theorem mm12_1 : memR Tryz.prog fp1 100000 pf12 ma12_1 = some mr12_1 := by kernel_rfl
theorem mm6_0 : memR Tryz.prog fp1 100000 pf6 ma6_0 = some mr6_0 := by kernel_rfl
theorem mm6_1 : memR Tryz.prog fp1 100000 pf6 ma6_1 = some mr6_1 := by kernel_rfl
theorem mm6_2 : memR Tryz.prog fp1 100000 pf6 ma6_2 = some mr6_2 := by kernel_rfl
theorem mm8_0 : memR Tryz.prog fp1 100000 pf8 ma8_0 = some mr8_0 := by kernel_rfl
theorem mm8_1 : memR Tryz.prog fp1 100000 pf8 ma8_1 = some mr8_1 := by kernel_rfl
theorem mm9_0 : memR Tryz.prog fp1 100000 pf9 ma9_0 = some mr9_0 := by kernel_rfl
end Go.Ev
