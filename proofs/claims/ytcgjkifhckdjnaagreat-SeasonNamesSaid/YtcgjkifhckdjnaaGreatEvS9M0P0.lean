import Derived.Test.YtcgjkifhckdjnaaGreatEvS9M0
set_option linter.all false
namespace Go.Ev
open Go.Proofs
set_option maxRecDepth 1000000
theorem mm34_0 : memR Tryz.prog fp0 100000 pf34 ma34_0 = some mr34_0 := by kernel_rfl
theorem mm34_1 : memR Tryz.prog fp0 100000 pf34 ma34_1 = some mr34_1 := by kernel_rfl
theorem mm34_2 : memR Tryz.prog fp0 100000 pf34 ma34_2 = some mr34_2 := by kernel_rfl
theorem mm34_3 : memR Tryz.prog fp0 100000 pf34 ma34_3 = some mr34_3 := by kernel_rfl
theorem mm34_4 : memR Tryz.prog fp0 100000 pf34 ma34_4 = some mr34_4 := by kernel_rfl
theorem mm116_0 : memR Tryz.prog fp0 100000 pf116 ma116_0 = some mr116_0 := by kernel_rfl
theorem mm116_1 : memR Tryz.prog fp0 100000 pf116 ma116_1 = some mr116_1 := by kernel_rfl
theorem mm116_2 : memR Tryz.prog fp0 100000 pf116 ma116_2 = some mr116_2 := by kernel_rfl
end Go.Ev
