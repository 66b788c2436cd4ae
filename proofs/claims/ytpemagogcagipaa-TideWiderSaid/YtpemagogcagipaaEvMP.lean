import Derived.Test.YtpemagogcagipaaEvMN
set_option linter.all false
namespace Go.Ev
open Go.Proofs
set_option maxRecDepth 100000
section
variable {sl : T D} {ob : T C} {nx : Pos} {K : X → Prop}
end
end Go.Ev

namespace Go.Ev
open Go.Proofs
set_option maxRecDepth 100000
end Go.Ev
