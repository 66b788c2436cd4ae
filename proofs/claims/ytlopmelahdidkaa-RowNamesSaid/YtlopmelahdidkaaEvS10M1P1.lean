import Derived.Test.YtlopmelahdidkaaEvS10M1
set_option linter.all false
namespace Go.Ev
open Go.Proofs
set_option maxRecDepth 1000000
theorem mm16_1 : memR Try.prog fp1 100000 pf16 ma16_1 = some mr16_1 := by kernel_rfl
theorem mm16_2 : memR Try.prog fp1 100000 pf16 ma16_2 = some mr16_2 := by kernel_rfl
theorem mm16_3 : memR Try.prog fp1 100000 pf16 ma16_3 = some mr16_3 := by kernel_rfl
theorem mm16_4 : memR Try.prog fp1 100000 pf16 ma16_4 = some mr16_4 := by kernel_rfl
theorem mm4_0 : memR Try.prog fp1 100000 pf4 ma4_0 = some mr4_0 := by kernel_rfl
theorem mm4_1 : memR Try.prog fp1 100000 pf4 ma4_1 = some mr4_1 := by kernel_rfl
theorem mm4_2 : memR Try.prog fp1 100000 pf4 ma4_2 = some mr4_2 := by kernel_rfl
theorem mm7_0 : memR Try.prog fp1 100000 pf7 ma7_0 = some mr7_0 := by kernel_rfl
end Go.Ev
