import Derived.Test.YtihlllachfonoaaGreatDoorEvS5M1
set_option linter.all false
namespace Go.Ev
open Go.Proofs
set_option maxRecDepth 1000000
theorem mm8_2 : memR Tryz.prog fp1 100000 pf8 ma8_2 = some mr8_2 := by kernel_rfl
theorem mm9_0 : memR Tryz.prog fp1 100000 pf9 ma9_0 = some mr9_0 := by kernel_rfl
theorem mm9_1 : memR Tryz.prog fp1 100000 pf9 ma9_1 = some mr9_1 := by kernel_rfl
theorem mm9_2 : memR Tryz.prog fp1 100000 pf9 ma9_2 = some mr9_2 := by kernel_rfl
theorem mm12_0 : memR Tryz.prog fp1 100000 pf12 ma12_0 = some mr12_0 := by kernel_rfl
theorem mm12_1 : memR Tryz.prog fp1 100000 pf12 ma12_1 = some mr12_1 := by kernel_rfl
theorem mm11_0 : memR Tryz.prog fp1 100000 pf11 ma11_0 = some mr11_0 := by kernel_rfl
theorem mm11_1 : memR Tryz.prog fp1 100000 pf11 ma11_1 = some mr11_1 := by kernel_rfl
end Go.Ev
