import Derived.Test.YtpemagogcagipaaEvMP
import Derived.Test.YtpemagogcagipaaEvMN
set_option linter.all false
namespace Go.Ev
open Go.Proofs
set_option maxRecDepth 100000
end Go.Ev

namespace Go.Ev
open Go.Proofs
set_option maxRecDepth 100000
end Go.Ev

namespace Go.Ev
open Go.Proofs
end Go.Ev

namespace Go.Ev
open Go.Proofs
theorem dry_at {last : Int} {hs : List Rg} {step : Int} {lv : List Int} {ms : List Mk} (V : ValidT last hs step lv ms) (hm : manyR hs ≤ 2000) (h0 : 0 < (truthS hs step ms).length) {f m : Nat} (hm0 : 0 < m) (hu : f + m ≤ hs.length) (n : Int) : dryT (truthS hs step ms) f m ≤ n ↔ ∀ k, k < m → ∀ t ∈ truthsR hs step ms, t.getD (f + k) 0 ≤ n := by
  have h := dry_iff V hm h0 (f := f) (u := f + m - 1) (by omega) (by omega) n
  rw [show f + m - 1 + 1 - f = m by omega, dryB_iff] at h
  rw [h]
  constructor
  · intro h1 k hk t ht
    have hl := ((mem_truthsR V hm).1 ht).1
    exact (topR_le (by omega) (by omega) n).1 (h1 t ht) (f + k) (by omega) (by omega)
  · intro h1 t ht
    have hl := ((mem_truthsR V hm).1 ht).1
    refine (topR_le (by omega) (by omega) n).2 fun i h2 h3 => ?_
    have := h1 (i - f) (by omega) t ht
    rwa [show f + (i - f) = i by omega] at this
end Go.Ev
