import Derived.Test.YtpemagogcagipaaEvMH
set_option linter.all false
namespace Go.Ev
open Go.Proofs
set_option maxRecDepth 100000
theorem pu_seaD (c : Nat → Int) : PuL (seaD c) := by simp [PuL, Pu, seaD]
theorem pu_seas (A : List (Nat → Int)) : PuE (rows seaD A) := pu_rows pu_seaD A
section
variable (n : Nat) (hs : List Rg) (step : Int) (lv : List Int) (ms : List Mk)
end
end Go.Ev

namespace Go.Ev
open Go.Proofs
set_option maxRecDepth 100000
end Go.Ev

namespace Go.Ev
open Go.Proofs
set_option maxRecDepth 100000
end Go.Ev
