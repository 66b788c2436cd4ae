import Derived.Test.YtbbjjomhcmakhaaEvS2C
namespace Go.Ev
open Go.Proofs
set_option maxRecDepth 1000000 in
theorem p8a : pieceB Try.prog fp1 100000 315 3 c8 ⟨.e, .e, .h, none⟩ .h false nx14 = true := by kernel_rfl
end Go.Ev
