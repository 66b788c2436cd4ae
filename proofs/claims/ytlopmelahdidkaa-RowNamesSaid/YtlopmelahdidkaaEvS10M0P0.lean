import Derived.Test.YtlopmelahdidkaaEvS10M0
set_option linter.all false
namespace Go.Ev
open Go.Proofs
set_option maxRecDepth 1000000
theorem mm48_0 : memR Try.prog fp0 100000 pf48 ma48_0 = some mr48_0 := by kernel_rfl
theorem mm48_1 : memR Try.prog fp0 100000 pf48 ma48_1 = some mr48_1 := by kernel_rfl
theorem mm48_2 : memR Try.prog fp0 100000 pf48 ma48_2 = some mr48_2 := by kernel_rfl
theorem mm48_3 : memR Try.prog fp0 100000 pf48 ma48_3 = some mr48_3 := by kernel_rfl
end Go.Ev
