import Derived.Test.YtjgbfnciedkafaaEvSa
import Derived.Test.YtjgbfnciedkafaaEvS3F21P0
import Derived.Test.YtjgbfnciedkafaaEvS3F21P1
set_option linter.all false
namespace Go.Ev
open Go.Proofs
set_option maxRecDepth 1000000 in
theorem p21_l : lastB Try.prog fp 100000 Try.f21.ntmps (Code.suf 5 c21) x21_1 .h = true := by kernel_rfl
end Go.Ev

namespace Go.Ev
open Go.Proofs
theorem t21 : TrueCall Try.prog 21 := by
  refine TrueCall.of_body (s := .h) (c := c21) Try.func21 (by kernel_rfl) (by kernel_rfl) (by kernel_rfl) ?_
  obtain ⟨e, Z, h1, h2, h3⟩ := last_ok fp_ok p21_l
  exact ⟨e, Z, pieceG_ok fp_ok p21_0 (pieceG_ok fp_ok p21_1 (by rw [show Code.suf 2 (Code.suf 3 c21) = Code.suf 5 c21 from by kernel_rfl]; exact h1)), h2, h3⟩
end Go.Ev
