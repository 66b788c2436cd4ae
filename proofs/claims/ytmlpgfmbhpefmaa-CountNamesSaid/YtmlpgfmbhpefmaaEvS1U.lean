import Derived.Test.YtmlpgfmbhpefmaaEvS1E
namespace Go.Ev
open Go.Proofs
set_option maxRecDepth 1000000 in
theorem p8m : pieceB Try.prog fp1 100000 Try.f8.ntmps 4 (Code.suf 6 c8) x8 .h false nx16 = true := by kernel_rfl
end Go.Ev
