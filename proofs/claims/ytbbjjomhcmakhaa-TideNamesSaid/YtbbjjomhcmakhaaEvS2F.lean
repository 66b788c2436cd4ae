import Derived.Test.YtbbjjomhcmakhaaEvS2B
import Derived.Test.YtbbjjomhcmakhaaEvS2P
import Derived.Test.YtbbjjomhcmakhaaEvS2Q
import Derived.Test.YtbbjjomhcmakhaaEvS2R
namespace Go.Ev
open Go.Proofs Go.RowKit
theorem tideNames_calls (w : World) : Calls Try.prog 8 #[] w fun e w' => e = .returned (.bool true) ∧ Grown w w' := by
  refine calls_of_body (s := .h) (c := c8) Try.func8 (by kernel_rfl) (by kernel_rfl) (by kernel_rfl) ?_ w
  rw [Try.ntmps8]
  obtain ⟨e, Z, h1, h2, h3⟩ := last_ok fp1_ok p8c
  exact ⟨e, Z, piece_ok fp1_ok p8a (piece_ok fp1_ok p8b h1), h2, h3⟩
end Go.Ev
