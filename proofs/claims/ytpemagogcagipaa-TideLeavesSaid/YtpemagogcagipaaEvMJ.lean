import Derived.Test.YtpemagogcagipaaEvMI
set_option linter.all false
namespace Go.Ev
open Go.Proofs
set_option maxRecDepth 100000
end Go.Ev

namespace Go.Ev
open Go.Proofs
set_option maxRecDepth 100000
theorem nD_snoc (A : List Int) (n : Int) : nD (A ++ [n]) = nD A ++ [.i .i64 n] := by simp [nD]
end Go.Ev

namespace Go.Ev
open Go.Proofs
set_option maxRecDepth 100000
end Go.Ev
