import Derived.Test.YtmodbceinlfclaaEvS8M1
set_option linter.all false
namespace Go.Ev
open Go.Proofs
set_option maxRecDepth 1000000
theorem mm12_3 : memR Try.prog fp1 100000 pf12 ma12_3 = some mr12_3 := by kernel_rfl
theorem mm12_4 : memR Try.prog fp1 100000 pf12 ma12_4 = some mr12_4 := by kernel_rfl
end Go.Ev
