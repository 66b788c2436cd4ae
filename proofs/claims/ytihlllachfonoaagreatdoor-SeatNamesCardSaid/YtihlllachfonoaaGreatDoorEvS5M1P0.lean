import Derived.Test.YtihlllachfonoaaGreatDoorEvS5M1
set_option linter.all false
namespace Go.Ev
open Go.Proofs
set_option maxRecDepth 1000000
theorem mm18_0 : memR Tryz.prog fp1 100000 pf18 ma18_0 = some mr18_0 := by kernel_rfl
theorem mm18_1 : memR Tryz.prog fp1 100000 pf18 ma18_1 = some mr18_1 := by kernel_rfl
theorem mm18_2 : memR Tryz.prog fp1 100000 pf18 ma18_2 = some mr18_2 := by kernel_rfl
theorem mm18_3 : memR Tryz.prog fp1 100000 pf18 ma18_3 = some mr18_3 := by kernel_rfl
theorem mm18_4 : memR Tryz.prog fp1 100000 pf18 ma18_4 = some mr18_4 := by kernel_rfl
theorem mm18_5 : memR Tryz.prog fp1 100000 pf18 ma18_5 = some mr18_5 := by kernel_rfl
theorem mm18_6 : memR Tryz.prog fp1 100000 pf18 ma18_6 = some mr18_6 := by kernel_rfl
theorem mm18_7 : memR Tryz.prog fp1 100000 pf18 ma18_7 = some mr18_7 := by kernel_rfl
end Go.Ev
