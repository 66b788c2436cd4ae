import Derived.Test.YtihlllachfonoaaGreatDoorEvS5M1
set_option linter.all false
namespace Go.Ev
open Go.Proofs
set_option maxRecDepth 1000000
theorem mm11_2 : memR Tryz.prog fp1 100000 pf11 ma11_2 = some mr11_2 := by kernel_rfl
theorem mm17_0 : memR Tryz.prog fp1 100000 pf17 ma17_0 = some mr17_0 := by kernel_rfl
theorem mm17_1 : memR Tryz.prog fp1 100000 pf17 ma17_1 = some mr17_1 := by kernel_rfl
theorem mm17_2 : memR Tryz.prog fp1 100000 pf17 ma17_2 = some mr17_2 := by kernel_rfl
theorem mm14_0 : memR Tryz.prog fp1 100000 pf14 ma14_0 = some mr14_0 := by kernel_rfl
theorem mm14_1 : memR Tryz.prog fp1 100000 pf14 ma14_1 = some mr14_1 := by kernel_rfl
theorem mm14_2 : memR Tryz.prog fp1 100000 pf14 ma14_2 = some mr14_2 := by kernel_rfl
theorem mm14_3 : memR Tryz.prog fp1 100000 pf14 ma14_3 = some mr14_3 := by kernel_rfl
end Go.Ev
