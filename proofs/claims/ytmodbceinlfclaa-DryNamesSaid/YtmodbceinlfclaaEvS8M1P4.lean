import Derived.Test.YtmodbceinlfclaaEvS8M1
set_option linter.all false
namespace Go.Ev
open Go.Proofs
set_option maxRecDepth 1000000
theorem mm8_1 : memR Try.prog fp1 100000 pf8 ma8_1 = some mr8_1 := by kernel_rfl
theorem mm11_0 : memR Try.prog fp1 100000 pf11 ma11_0 = some mr11_0 := by kernel_rfl
theorem mm11_1 : memR Try.prog fp1 100000 pf11 ma11_1 = some mr11_1 := by kernel_rfl
theorem mm11_2 : memR Try.prog fp1 100000 pf11 ma11_2 = some mr11_2 := by kernel_rfl
theorem mm11_3 : memR Try.prog fp1 100000 pf11 ma11_3 = some mr11_3 := by kernel_rfl
theorem mm12_0 : memR Try.prog fp1 100000 pf12 ma12_0 = some mr12_0 := by kernel_rfl
theorem mm12_1 : memR Try.prog fp1 100000 pf12 ma12_1 = some mr12_1 := by kernel_rfl
theorem mm12_2 : memR Try.prog fp1 100000 pf12 ma12_2 = some mr12_2 := by kernel_rfl
end Go.Ev
