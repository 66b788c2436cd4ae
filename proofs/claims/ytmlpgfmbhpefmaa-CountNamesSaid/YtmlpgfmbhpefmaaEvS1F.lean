import Derived.Test.YtmlpgfmbhpefmaaEvS1R
import Derived.Test.YtmlpgfmbhpefmaaEvS1U
import Derived.Test.YtmlpgfmbhpefmaaEvS1S
namespace Go.Ev
open Go.Proofs Go.RowKit
theorem countNames_calls (w : World) : Calls Try.prog 8 #[] w fun e w' => e = .returned (.bool true) ∧ Grown w w' := by
  refine TrueCall.calls (TrueCall.of_body (s := .h) (c := c8) Try.func8 (by kernel_rfl) (by kernel_rfl) (by kernel_rfl) ?_) w
  obtain ⟨e, Z, h1, h2, h3⟩ := last_ok fp1_ok p8b
  have h4 : Code.suf 4 (Code.suf 6 c8) = Code.suf 10 c8 := by kernel_rfl
  exact ⟨e, Z, pieceG_ok fp1_ok p8a (piece_ok fp1_ok p8m (by rw [h4]; exact h1)), h2, h3⟩
end Go.Ev
