import Derived.Test.YtihlllachfonoaaGreatDoorEvS5M1F
set_option linter.all false
namespace Go.Ev
open Go.Proofs
def pfAw : Pos := (.o (.o (.i (.o .h))))
set_option maxRecDepth 1000000 in
theorem aw : closedB Tryz.prog fp2 100000 pfAw = true := by kernel_rfl
end Go.Ev
