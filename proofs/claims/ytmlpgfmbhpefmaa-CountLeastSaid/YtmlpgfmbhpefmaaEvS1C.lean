import Derived.Test.YtmlpgfmbhpefmaaEvS1T
set_option linter.all false
namespace Go.Ev
open Go.Proofs
noncomputable def c8 : Code := match Try.f8.body with
  | some c => c
  | none => .skip
end Go.Ev
