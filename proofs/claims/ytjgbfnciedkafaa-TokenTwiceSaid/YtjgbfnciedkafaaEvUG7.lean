import Derived.Test.YtjgbfnciedkafaaEvUG3
set_option linter.all false
namespace Go.Ev
open Go.Proofs
set_option maxRecDepth 100000
section
variable {σ : Type} {S : Tns σ} {B : Bk} {I : List (List Ln) → σ → Prop} {R : σ → List Ln → σ → Bool → Prop}
end
end Go.Ev

namespace Go.Ev
open Go.Proofs
set_option maxRecDepth 100000
section
variable {σ : Type} {S : Tns σ} {B : Bk} {I : List (List Ln) → σ → Prop} {R : σ → List Ln → σ → Bool → Prop}
end
end Go.Ev

namespace Go.Ev
open Go.Proofs
set_option maxRecDepth 100000
end Go.Ev

namespace Go.Ev
open Go.Proofs
set_option maxRecDepth 100000
section
variable {B : Bk} {aft : Nat} {g : Pos} {first caps : List D} (h1 : PuL first) (h2 : PuL caps)
include h1 h2
end
end Go.Ev
