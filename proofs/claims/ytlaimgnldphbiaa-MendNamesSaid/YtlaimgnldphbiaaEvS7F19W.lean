import Derived.Test.YtlaimgnldphbiaaEvS7F19P0
import Derived.Test.YtlaimgnldphbiaaEvS7F19P1
import Derived.Test.YtlaimgnldphbiaaEvS7F19P2
import Derived.Test.YtlaimgnldphbiaaEvS7F19P3
import Derived.Test.YtlaimgnldphbiaaEvS7F19P4
import Derived.Test.YtlaimgnldphbiaaEvS7F19P5
import Derived.Test.YtlaimgnldphbiaaEvS7F19P6
import Derived.Test.YtlaimgnldphbiaaEvS7F19L
set_option linter.all false
namespace Go.Ev
open Go.Proofs
theorem t19 : TrueCall Try.prog 19 := by
  refine TrueCall.of_body (s := .h) (c := c19) Try.func19 (by kernel_rfl) (by kernel_rfl) (by kernel_rfl) ?_
  obtain ⟨e, Z, h1, h2, h3⟩ := last_ok fp_ok p19_l
  exact ⟨e, Z, pieceG_ok fp_ok p19_0 (pieceG_ok fp_ok p19_1 (by rw [show Code.suf 1 (Code.suf 2 c19) = Code.suf 3 c19 from by kernel_rfl]; exact pieceG_ok fp_ok p19_2 (by rw [show Code.suf 1 (Code.suf 3 c19) = Code.suf 4 c19 from by kernel_rfl]; exact pieceG_ok fp_ok p19_3 (by rw [show Code.suf 1 (Code.suf 4 c19) = Code.suf 5 c19 from by kernel_rfl]; exact pieceG_ok fp_ok p19_4 (by rw [show Code.suf 1 (Code.suf 5 c19) = Code.suf 6 c19 from by kernel_rfl]; exact pieceG_ok fp_ok p19_5 (by rw [show Code.suf 1 (Code.suf 6 c19) = Code.suf 7 c19 from by kernel_rfl]; exact pieceG_ok fp_ok p19_6 (by rw [show Code.suf 1 (Code.suf 7 c19) = Code.suf 8 c19 from by kernel_rfl]; exact h1))))))), h2, h3⟩
end Go.Ev
