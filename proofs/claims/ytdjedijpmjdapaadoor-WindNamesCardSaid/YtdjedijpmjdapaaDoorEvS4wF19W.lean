import Derived.Test.YtdjedijpmjdapaaDoorEvS4wF19P0
import Derived.Test.YtdjedijpmjdapaaDoorEvS4wF19P1
import Derived.Test.YtdjedijpmjdapaaDoorEvS4wF19L
set_option linter.all false
namespace Go.Ev
open Go.Proofs
theorem t19 : TrueCall Tryd.prog 19 := by
  refine TrueCall.of_body (s := .h) (c := c19) Tryd.func19 (by kernel_rfl) (by kernel_rfl) (by kernel_rfl) ?_
  obtain ⟨e, Z, h1, h2, h3⟩ := last_ok fp_ok p19_l
  exact ⟨e, Z, pieceG_ok fp_ok p19_0 (pieceG_ok fp_ok p19_1 (by rw [show Code.suf 1 (Code.suf 6 c19) = Code.suf 7 c19 from by kernel_rfl]; exact h1)), h2, h3⟩
end Go.Ev
