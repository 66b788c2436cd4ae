import Derived.Test.YtpemagogcagipaaEvQB
import Derived.Test.YtpemagogcagipaaEvQA
import Derived.Test.YtpemagogcagipaaEvMA
set_option linter.all false
namespace Go.Ev
open Go.Proofs
end Go.Ev

namespace Go.Ev
open Go.Proofs
end Go.Ev

namespace Go.Ev
open Go.Proofs
end Go.Ev

namespace Go.Ev
open Go.Proofs
section
variable {sl : T D} {ob : T C} {nx : Pos} {lg : Option (T Bool)} {K : X → Prop}
end
end Go.Ev
