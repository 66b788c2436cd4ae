import Derived.Test.YtlaimgnldphbiaaEvS7B
import Derived.Test.YtlaimgnldphbiaaEvS7F3P0
import Derived.Test.YtlaimgnldphbiaaEvS7F3P1
import Derived.Test.YtlaimgnldphbiaaEvS7F3P2
import Derived.Test.YtlaimgnldphbiaaEvS7F3P3
import Derived.Test.YtlaimgnldphbiaaEvS7F3P4
import Derived.Test.YtlaimgnldphbiaaEvS7F3P5
import Derived.Test.YtlaimgnldphbiaaEvS7F3P6
import Derived.Test.YtlaimgnldphbiaaEvS7F3P7
import Derived.Test.YtlaimgnldphbiaaEvS7F3P8
import Derived.Test.YtlaimgnldphbiaaEvS7F3P9
import Derived.Test.YtlaimgnldphbiaaEvS7F3P10
import Derived.Test.YtlaimgnldphbiaaEvS7F3L
set_option linter.all false
namespace Go.Ev
open Go.Proofs
theorem t3 : TrueCall Try.prog 3 := by
  refine TrueCall.of_body (s := .h) (c := c3) Try.func3 (by kernel_rfl) (by kernel_rfl) (by kernel_rfl) ?_
  obtain ⟨e, Z, h1, h2, h3⟩ := last_ok fp1_ok p3_l
  exact ⟨e, Z, pieceG_ok fp1_ok p3_0 (pieceG_ok fp1_ok p3_1 (by rw [show Code.suf 1 (Code.suf 2 c3) = Code.suf 3 c3 from by kernel_rfl]; exact pieceG_ok fp1_ok p3_2 (by rw [show Code.suf 1 (Code.suf 3 c3) = Code.suf 4 c3 from by kernel_rfl]; exact pieceG_ok fp1_ok p3_3 (by rw [show Code.suf 1 (Code.suf 4 c3) = Code.suf 5 c3 from by kernel_rfl]; exact pieceG_ok fp1_ok p3_4 (by rw [show Code.suf 1 (Code.suf 5 c3) = Code.suf 6 c3 from by kernel_rfl]; exact pieceG_ok fp1_ok p3_5 (by rw [show Code.suf 1 (Code.suf 6 c3) = Code.suf 7 c3 from by kernel_rfl]; exact pieceG_ok fp1_ok p3_6 (by rw [show Code.suf 2 (Code.suf 7 c3) = Code.suf 9 c3 from by kernel_rfl]; exact pieceG_ok fp1_ok p3_7 (by rw [show Code.suf 3 (Code.suf 9 c3) = Code.suf 12 c3 from by kernel_rfl]; exact pieceG_ok fp1_ok p3_8 (by rw [show Code.suf 2 (Code.suf 12 c3) = Code.suf 14 c3 from by kernel_rfl]; exact pieceG_ok fp1_ok p3_9 (by rw [show Code.suf 2 (Code.suf 14 c3) = Code.suf 16 c3 from by kernel_rfl]; exact pieceG_ok fp1_ok p3_10 (by rw [show Code.suf 2 (Code.suf 16 c3) = Code.suf 18 c3 from by kernel_rfl]; exact h1))))))))))), h2, h3⟩
end Go.Ev
