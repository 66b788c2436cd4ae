import Derived.Test.YtjgbfnciedkafaaEvS3F8P0
import Derived.Test.YtjgbfnciedkafaaEvS3F8P1
import Derived.Test.YtjgbfnciedkafaaEvS3F8P2
import Derived.Test.YtjgbfnciedkafaaEvS3F8P3
import Derived.Test.YtjgbfnciedkafaaEvS3F8P4
import Derived.Test.YtjgbfnciedkafaaEvS3F8L
namespace Go.Ev
open Go.Proofs
theorem t8 : TrueCall Try.prog 8 := by
  refine TrueCall.of_body (s := .h) (c := c8) Try.func8 (by kernel_rfl) (by kernel_rfl) (by kernel_rfl) ?_
  obtain ⟨e, Z, h1, h2, h3⟩ := last_ok fp1_ok p8_l
  exact ⟨e, Z, pieceG_ok fp1_ok p8_0 (pieceG_ok fp1_ok p8_1 (by rw [show Code.suf 3 (Code.suf 3 c8) = Code.suf 6 c8 from by kernel_rfl]; exact pieceG_ok fp1_ok p8_2 (by rw [show Code.suf 3 (Code.suf 6 c8) = Code.suf 9 c8 from by kernel_rfl]; exact pieceG_ok fp1_ok p8_3 (by rw [show Code.suf 2 (Code.suf 9 c8) = Code.suf 11 c8 from by kernel_rfl]; exact pieceG_ok fp1_ok p8_4 (by rw [show Code.suf 6 (Code.suf 11 c8) = Code.suf 17 c8 from by kernel_rfl]; exact h1))))), h2, h3⟩
end Go.Ev
