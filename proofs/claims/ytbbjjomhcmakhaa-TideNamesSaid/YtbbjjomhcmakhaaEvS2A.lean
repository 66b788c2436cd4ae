import Derived.Test.YtbbjjomhcmakhaaEvS2T
namespace Go.Ev
open Go.Proofs
set_option maxRecDepth 1000000 in
theorem aw : closedB Try.prog fp 100000 pf20 = true := by kernel_rfl
end Go.Ev
