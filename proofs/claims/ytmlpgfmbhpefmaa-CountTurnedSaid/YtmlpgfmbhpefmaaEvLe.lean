import Derived.Test.YtmlpgfmbhpefmaaEvLd
import Derived.Test.YtmlpgfmbhpefmaaEvKu
set_option linter.all false
namespace Go.Ev
open Go.Proofs
set_option maxRecDepth 100000
end Go.Ev

namespace Go.Ev
open Go.Proofs
set_option maxRecDepth 100000
end Go.Ev

namespace Go.Ev
open Go.Proofs
set_option maxRecDepth 100000
end Go.Ev

namespace Go.Ev
open Go.Proofs
set_option maxRecDepth 100000
theorem thin_unk {l : List Int} {cs : List Cnt} {wr off : Int} (h1 : thinB l cs wr off = true) (hF : faultR l cs wr off = 0) : unk l ≤ 6 := by
  unfold thinB at h1
  rw [Bool.and_eq_true, Bool.and_eq_true, Bool.or_eq_true, decide_eq_true_iff, decide_eq_true_iff, decide_eq_true_iff] at h1
  rcases h1.2.2 with h | h
  · rw [decide_eq_true hF] at h; cases h
  · exact h
end Go.Ev
