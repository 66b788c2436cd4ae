import Derived.Test.YtdjedijpmjdapaaDoorEvS4wF3P0
import Derived.Test.YtdjedijpmjdapaaDoorEvS4wF3P1
import Derived.Test.YtdjedijpmjdapaaDoorEvS4wF3P2
import Derived.Test.YtdjedijpmjdapaaDoorEvS4wF3P3
import Derived.Test.YtdjedijpmjdapaaDoorEvS4wF3P4
import Derived.Test.YtdjedijpmjdapaaDoorEvS4wF3L
set_option linter.all false
namespace Go.Ev
open Go.Proofs
theorem t3 : TrueCall Tryd.prog 3 := by
  refine TrueCall.of_body (s := .h) (c := c3) Tryd.func3 (by kernel_rfl) (by kernel_rfl) (by kernel_rfl) ?_
  obtain ⟨e, Z, h1, h2, h3⟩ := last_ok fp1_ok p3_l
  exact ⟨e, Z, pieceG_ok fp1_ok p3_0 (pieceG_ok fp1_ok p3_1 (by rw [show Code.suf 1 (Code.suf 8 c3) = Code.suf 9 c3 from by kernel_rfl]; exact pieceG_ok fp1_ok p3_2 (by rw [show Code.suf 5 (Code.suf 9 c3) = Code.suf 14 c3 from by kernel_rfl]; exact pieceG_ok fp1_ok p3_3 (by rw [show Code.suf 2 (Code.suf 14 c3) = Code.suf 16 c3 from by kernel_rfl]; exact pieceG_ok fp1_ok p3_4 (by rw [show Code.suf 12 (Code.suf 16 c3) = Code.suf 28 c3 from by kernel_rfl]; exact h1))))), h2, h3⟩
end Go.Ev
