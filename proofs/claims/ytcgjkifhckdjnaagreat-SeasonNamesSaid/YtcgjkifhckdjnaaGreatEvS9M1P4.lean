import Derived.Test.YtcgjkifhckdjnaaGreatEvS9M1
set_option linter.all false
namespace Go.Ev
open Go.Proofs
set_option maxRecDepth 1000000
theorem mm10_0 : memR Tryz.prog fp1 100000 pf10 ma10_0 = some mr10_0 := by kernel_rfl
theorem mm10_1 : memR Tryz.prog fp1 100000 pf10 ma10_1 = some mr10_1 := by kernel_rfl
theorem mm11_0 : memR Tryz.prog fp1 100000 pf11 ma11_0 = some mr11_0 := by kernel_rfl
theorem mm11_1 : memR Tryz.prog fp1 100000 pf11 ma11_1 = some mr11_1 := by kernel_rfl
theorem mm11_2 : memR Tryz.prog fp1 100000 pf11 ma11_2 = some mr11_2 := by kernel_rfl
theorem mm11_3 : memR Tryz.prog fp1 100000 pf11 ma11_3 = some mr11_3 := by kernel_rfl
end Go.Ev
