import Derived.Test.YtmlpgfmbhpefmaaEvS1E
namespace Go.Ev
open Go.Proofs
set_option maxRecDepth 1000000 in
theorem p8a : gcX ms8 mo8 (exec Try.prog fp1 100000 (comp Try.prog Try.f8.ntmps (Code.pre 6 c8)) ⟨.e, .e, .h, none⟩) = some x8 := by kernel_rfl
end Go.Ev
