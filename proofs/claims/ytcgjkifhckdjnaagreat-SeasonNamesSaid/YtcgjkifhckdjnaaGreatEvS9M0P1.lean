import Derived.Test.YtcgjkifhckdjnaaGreatEvS9M0
set_option linter.all false
namespace Go.Ev
open Go.Proofs
set_option maxRecDepth 1000000
theorem mm17_0 : memR Tryz.prog fp0 100000 pf17 ma17_0 = some mr17_0 := by kernel_rfl
theorem mm17_1 : memR Tryz.prog fp0 100000 pf17 ma17_1 = some mr17_1 := by kernel_rfl
theorem mm17_2 : memR Tryz.prog fp0 100000 pf17 ma17_2 = some mr17_2 := by kernel_rfl
theorem mm17_3 : memR Tryz.prog fp0 100000 pf17 ma17_3 = some mr17_3 := by kernel_rfl
theorem mm17_4 : memR Tryz.prog fp0 100000 pf17 ma17_4 = some mr17_4 := by kernel_rfl
theorem mm17_5 : memR Tryz.prog fp0 100000 pf17 ma17_5 = some mr17_5 := by kernel_rfl
end Go.Ev
