import Derived.Test.YtpemagogcagipaaEvMN
set_option linter.all false
namespace Go.Ev
open Go.Proofs
set_option maxRecDepth 100000
end Go.Ev

namespace Go.Ev
open Go.Proofs
set_option maxRecDepth 100000
end Go.Ev

namespace Go.Ev
open Go.Proofs
set_option maxRecDepth 100000
def setD : List Int → D
  | [] => .ns
  | a :: l => .lst 1 (ints (a :: l))
end Go.Ev
