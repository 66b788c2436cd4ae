import Derived.Test.YtjgbfnciedkafaaEvS3F21P0
import Derived.Test.YtjgbfnciedkafaaEvS3F21P1
import Derived.Test.YtjgbfnciedkafaaEvS3F21L
namespace Go.Ev
open Go.Proofs
theorem t21 : TrueCall Try.prog 21 := by
  refine TrueCall.of_body (s := .h) (c := c21) Try.func21 (by kernel_rfl) (by kernel_rfl) (by kernel_rfl) ?_
  obtain ⟨e, Z, h1, h2, h3⟩ := last_ok fp_ok p21_l
  exact ⟨e, Z, pieceG_ok fp_ok p21_0 (pieceG_ok fp_ok p21_1 (by rw [show Code.suf 2 (Code.suf 3 c21) = Code.suf 5 c21 from by kernel_rfl]; exact h1)), h2, h3⟩
end Go.Ev
