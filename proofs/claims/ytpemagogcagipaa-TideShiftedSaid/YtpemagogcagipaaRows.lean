/-
  No cell of these rows narrows 'for every input' (looked for: loops, veiled, ifaces, maps, wideKeys, modest, calm, conditions, laid).
  DERIVED. THE GIVEN ROWS OF THIS SEAT. 16 by the template 'for every input the law returns true; each argument reads behind the call as it read before'; 0 by the template 'total and deterministic' (their statements: YtpemagogcagipaaTotals.lean).
  GIVEN WITH THE SEED: the statements are not yours to turn. If you find one false, say at which input.
  Laid BY PROGRAM, IN A SANDBOX (cutbox-rows.mjs): the forced cells as the released guide's own fill.sh prints them over the translation 33c2cfcb70c3e59c… (all of the seat's roots in one cut). By AI agents, Wed Nov 11 2026. No macro, syntax, notation, axiom, sorry.
-/
import Derived.Test.YtpemagogcagipaaChecked
import GoSem.Claim
import GoSem.ClaimJoined
import GoSem.ClaimMapViews
import Derived.JoinedTies
import Derived.KernelRfl
namespace Go.Proofs.Ytpemagogcagipaa
/- THE CELL 'sum', in the pinned program and in every row, IS THE sha256 OF THE DUMP (.gsa) THAT YtpemagogcagipaaProg.lean LOADS. Nothing in Lean hashes anything: it is a label: what it is worth is what the hold of that sum in a sandbox is worth. -/
noncomputable def Try.pinned : Pinned := { name := "ytpemagogcagipaa", sum := "33c2cfcb70c3e59c15d5b38100788f5b62c040927780c7dba715d33553900bf9", checked := Try.checked }
namespace Rows
def none {H : Type} : Left H := { results := [], args := [] }

/-- 'foreshorelaw02.TidePlays': WHATEVER THE INPUT: true; the input reads as it did. -/
def tidePlaysSpec : ChangeSpec := { name := "tidePlays", fn := fun _ => fun
  | [d1, d2] => { results := [.lit (.bool true)], args := [d1, d2] }
  | _ => none }
def tidePlaysRow : OpenClaim := { program := "ytpemagogcagipaa", sum := "33c2cfcb70c3e59c15d5b38100788f5b62c040927780c7dba715d33553900bf9", func := "foreshore/foreshorelaw02.TidePlays", spec := "tidePlays", unfollowed := true, recurses := true, plainKeys := false, apart := false }
def TidePlaysSaid : Prop := tidePlaysRow.holds Try.pinned (OpenSpec.ofChange tidePlaysSpec)

/-- ITS FALSE NEIGHBOUR: 'it returns false'. Refute it at one input. -/
def tidePlaysWrong : ChangeSpec := { name := "tidePlays", fn := fun _ => fun
  | [d1, d2] => { results := [.lit (.bool false)], args := [d1, d2] }
  | _ => none }
def TidePlaysWrongFalsely : Prop := tidePlaysRow.holds Try.pinned (OpenSpec.ofChange tidePlaysWrong)

/-- 'foreshorelaw02.TideBounds': WHATEVER THE INPUT: true; the input reads as it did. -/
def tideBoundsSpec : ChangeSpec := { name := "tideBounds", fn := fun _ => fun
  | [d1, d2, d3] => { results := [.lit (.bool true)], args := [d1, d2, d3] }
  | _ => none }
def tideBoundsRow : OpenClaim := { program := "ytpemagogcagipaa", sum := "33c2cfcb70c3e59c15d5b38100788f5b62c040927780c7dba715d33553900bf9", func := "foreshore/foreshorelaw02.TideBounds", spec := "tideBounds", unfollowed := true, recurses := true, plainKeys := false, apart := false }
def TideBoundsSaid : Prop := tideBoundsRow.holds Try.pinned (OpenSpec.ofChange tideBoundsSpec)

/-- ITS FALSE NEIGHBOUR: 'it returns false'. Refute it at one input. -/
def tideBoundsWrong : ChangeSpec := { name := "tideBounds", fn := fun _ => fun
  | [d1, d2, d3] => { results := [.lit (.bool false)], args := [d1, d2, d3] }
  | _ => none }
def TideBoundsWrongFalsely : Prop := tideBoundsRow.holds Try.pinned (OpenSpec.ofChange tideBoundsWrong)

/-- 'foreshorelaw02.TideReaches': WHATEVER THE INPUT: true; the input reads as it did. -/
def tideReachesSpec : ChangeSpec := { name := "tideReaches", fn := fun _ => fun
  | [d1, d2] => { results := [.lit (.bool true)], args := [d1, d2] }
  | _ => none }
def tideReachesRow : OpenClaim := { program := "ytpemagogcagipaa", sum := "33c2cfcb70c3e59c15d5b38100788f5b62c040927780c7dba715d33553900bf9", func := "foreshore/foreshorelaw02.TideReaches", spec := "tideReaches", unfollowed := true, recurses := true, plainKeys := false, apart := false }
def TideReachesSaid : Prop := tideReachesRow.holds Try.pinned (OpenSpec.ofChange tideReachesSpec)

/-- ITS FALSE NEIGHBOUR: 'it returns false'. Refute it at one input. -/
def tideReachesWrong : ChangeSpec := { name := "tideReaches", fn := fun _ => fun
  | [d1, d2] => { results := [.lit (.bool false)], args := [d1, d2] }
  | _ => none }
def TideReachesWrongFalsely : Prop := tideReachesRow.holds Try.pinned (OpenSpec.ofChange tideReachesWrong)

/-- 'foreshorelaw02.TideDries': WHATEVER THE INPUT: true; the input reads as it did. -/
def tideDriesSpec : ChangeSpec := { name := "tideDries", fn := fun _ => fun
  | [d1, d2, d3, d4] => { results := [.lit (.bool true)], args := [d1, d2, d3, d4] }
  | _ => none }
def tideDriesRow : OpenClaim := { program := "ytpemagogcagipaa", sum := "33c2cfcb70c3e59c15d5b38100788f5b62c040927780c7dba715d33553900bf9", func := "foreshore/foreshorelaw02.TideDries", spec := "tideDries", unfollowed := true, recurses := true, plainKeys := false, apart := false }
def TideDriesSaid : Prop := tideDriesRow.holds Try.pinned (OpenSpec.ofChange tideDriesSpec)

/-- ITS FALSE NEIGHBOUR: 'it returns false'. Refute it at one input. -/
def tideDriesWrong : ChangeSpec := { name := "tideDries", fn := fun _ => fun
  | [d1, d2, d3, d4] => { results := [.lit (.bool false)], args := [d1, d2, d3, d4] }
  | _ => none }
def TideDriesWrongFalsely : Prop := tideDriesRow.holds Try.pinned (OpenSpec.ofChange tideDriesWrong)

/-- 'foreshorelaw02.TideLeaves': WHATEVER THE INPUT: true; the input reads as it did. -/
def tideLeavesSpec : ChangeSpec := { name := "tideLeaves", fn := fun _ => fun
  | [d] => { results := [.lit (.bool true)], args := [d] }
  | _ => none }
def tideLeavesRow : OpenClaim := { program := "ytpemagogcagipaa", sum := "33c2cfcb70c3e59c15d5b38100788f5b62c040927780c7dba715d33553900bf9", func := "foreshore/foreshorelaw02.TideLeaves", spec := "tideLeaves", unfollowed := true, recurses := true, plainKeys := false, apart := false }
def TideLeavesSaid : Prop := tideLeavesRow.holds Try.pinned (OpenSpec.ofChange tideLeavesSpec)

/-- ITS FALSE NEIGHBOUR: 'it returns false'. Refute it at one input. -/
def tideLeavesWrong : ChangeSpec := { name := "tideLeaves", fn := fun _ => fun
  | [d] => { results := [.lit (.bool false)], args := [d] }
  | _ => none }
def TideLeavesWrongFalsely : Prop := tideLeavesRow.holds Try.pinned (OpenSpec.ofChange tideLeavesWrong)

/-- 'foreshorelaw02.TideNames': WHATEVER THE INPUT: true; the input reads as it did. -/
def tideNamesSpec : ChangeSpec := { name := "tideNames", fn := fun _ => fun
  | [] => { results := [.lit (.bool true)], args := [] }
  | _ => none }
def tideNamesRow : OpenClaim := { program := "ytpemagogcagipaa", sum := "33c2cfcb70c3e59c15d5b38100788f5b62c040927780c7dba715d33553900bf9", func := "foreshore/foreshorelaw02.TideNames", spec := "tideNames", unfollowed := true, recurses := true, plainKeys := false, apart := false }
def TideNamesSaid : Prop := tideNamesRow.holds Try.pinned (OpenSpec.ofChange tideNamesSpec)

/-- ITS FALSE NEIGHBOUR: 'it returns false'. Refute it at one input. -/
def tideNamesWrong : ChangeSpec := { name := "tideNames", fn := fun _ => fun
  | [] => { results := [.lit (.bool false)], args := [] }
  | _ => none }
def TideNamesWrongFalsely : Prop := tideNamesRow.holds Try.pinned (OpenSpec.ofChange tideNamesWrong)

/-- 'foreshorelaw02.TideTruth': WHATEVER THE INPUT: true; the input reads as it did. -/
def tideTruthSpec : ChangeSpec := { name := "tideTruth", fn := fun _ => fun
  | [d1, d2, d3] => { results := [.lit (.bool true)], args := [d1, d2, d3] }
  | _ => none }
def tideTruthRow : OpenClaim := { program := "ytpemagogcagipaa", sum := "33c2cfcb70c3e59c15d5b38100788f5b62c040927780c7dba715d33553900bf9", func := "foreshore/foreshorelaw02.TideTruth", spec := "tideTruth", unfollowed := true, recurses := true, plainKeys := false, apart := false }
def TideTruthSaid : Prop := tideTruthRow.holds Try.pinned (OpenSpec.ofChange tideTruthSpec)

/-- ITS FALSE NEIGHBOUR: 'it returns false'. Refute it at one input. -/
def tideTruthWrong : ChangeSpec := { name := "tideTruth", fn := fun _ => fun
  | [d1, d2, d3] => { results := [.lit (.bool false)], args := [d1, d2, d3] }
  | _ => none }
def TideTruthWrongFalsely : Prop := tideTruthRow.holds Try.pinned (OpenSpec.ofChange tideTruthWrong)

/-- 'foreshorelaw02.TideEnds': WHATEVER THE INPUT: true; the input reads as it did. -/
def tideEndsSpec : ChangeSpec := { name := "tideEnds", fn := fun _ => fun
  | [d1, d2, d3] => { results := [.lit (.bool true)], args := [d1, d2, d3] }
  | _ => none }
def tideEndsRow : OpenClaim := { program := "ytpemagogcagipaa", sum := "33c2cfcb70c3e59c15d5b38100788f5b62c040927780c7dba715d33553900bf9", func := "foreshore/foreshorelaw02.TideEnds", spec := "tideEnds", unfollowed := true, recurses := true, plainKeys := false, apart := false }
def TideEndsSaid : Prop := tideEndsRow.holds Try.pinned (OpenSpec.ofChange tideEndsSpec)

/-- ITS FALSE NEIGHBOUR: 'it returns false'. Refute it at one input. -/
def tideEndsWrong : ChangeSpec := { name := "tideEnds", fn := fun _ => fun
  | [d1, d2, d3] => { results := [.lit (.bool false)], args := [d1, d2, d3] }
  | _ => none }
def TideEndsWrongFalsely : Prop := tideEndsRow.holds Try.pinned (OpenSpec.ofChange tideEndsWrong)

/-- 'foreshorelaw02.TideHigher': WHATEVER THE INPUT: true; the input reads as it did. -/
def tideHigherSpec : ChangeSpec := { name := "tideHigher", fn := fun _ => fun
  | [d1, d2, d3, d4] => { results := [.lit (.bool true)], args := [d1, d2, d3, d4] }
  | _ => none }
def tideHigherRow : OpenClaim := { program := "ytpemagogcagipaa", sum := "33c2cfcb70c3e59c15d5b38100788f5b62c040927780c7dba715d33553900bf9", func := "foreshore/foreshorelaw02.TideHigher", spec := "tideHigher", unfollowed := true, recurses := true, plainKeys := false, apart := false }
def TideHigherSaid : Prop := tideHigherRow.holds Try.pinned (OpenSpec.ofChange tideHigherSpec)

/-- ITS FALSE NEIGHBOUR: 'it returns false'. Refute it at one input. -/
def tideHigherWrong : ChangeSpec := { name := "tideHigher", fn := fun _ => fun
  | [d1, d2, d3, d4] => { results := [.lit (.bool false)], args := [d1, d2, d3, d4] }
  | _ => none }
def TideHigherWrongFalsely : Prop := tideHigherRow.holds Try.pinned (OpenSpec.ofChange tideHigherWrong)

/-- 'foreshorelaw02.TideLevel': WHATEVER THE INPUT: true; the input reads as it did. -/
def tideLevelSpec : ChangeSpec := { name := "tideLevel", fn := fun _ => fun
  | [d1, d2, d3, d4] => { results := [.lit (.bool true)], args := [d1, d2, d3, d4] }
  | _ => none }
def tideLevelRow : OpenClaim := { program := "ytpemagogcagipaa", sum := "33c2cfcb70c3e59c15d5b38100788f5b62c040927780c7dba715d33553900bf9", func := "foreshore/foreshorelaw02.TideLevel", spec := "tideLevel", unfollowed := true, recurses := true, plainKeys := false, apart := false }
def TideLevelSaid : Prop := tideLevelRow.holds Try.pinned (OpenSpec.ofChange tideLevelSpec)

/-- ITS FALSE NEIGHBOUR: 'it returns false'. Refute it at one input. -/
def tideLevelWrong : ChangeSpec := { name := "tideLevel", fn := fun _ => fun
  | [d1, d2, d3, d4] => { results := [.lit (.bool false)], args := [d1, d2, d3, d4] }
  | _ => none }
def TideLevelWrongFalsely : Prop := tideLevelRow.holds Try.pinned (OpenSpec.ofChange tideLevelWrong)

/-- 'foreshorelaw02.TideStep': WHATEVER THE INPUT: true; the input reads as it did. -/
def tideStepSpec : ChangeSpec := { name := "tideStep", fn := fun _ => fun
  | [d1, d2, d3, d4, d5] => { results := [.lit (.bool true)], args := [d1, d2, d3, d4, d5] }
  | _ => none }
def tideStepRow : OpenClaim := { program := "ytpemagogcagipaa", sum := "33c2cfcb70c3e59c15d5b38100788f5b62c040927780c7dba715d33553900bf9", func := "foreshore/foreshorelaw02.TideStep", spec := "tideStep", unfollowed := true, recurses := true, plainKeys := false, apart := false }
def TideStepSaid : Prop := tideStepRow.holds Try.pinned (OpenSpec.ofChange tideStepSpec)

/-- ITS FALSE NEIGHBOUR: 'it returns false'. Refute it at one input. -/
def tideStepWrong : ChangeSpec := { name := "tideStep", fn := fun _ => fun
  | [d1, d2, d3, d4, d5] => { results := [.lit (.bool false)], args := [d1, d2, d3, d4, d5] }
  | _ => none }
def TideStepWrongFalsely : Prop := tideStepRow.holds Try.pinned (OpenSpec.ofChange tideStepWrong)

/-- 'foreshorelaw02.TideMore': WHATEVER THE INPUT: true; the input reads as it did. -/
def tideMoreSpec : ChangeSpec := { name := "tideMore", fn := fun _ => fun
  | [d1, d2, d3, d4] => { results := [.lit (.bool true)], args := [d1, d2, d3, d4] }
  | _ => none }
def tideMoreRow : OpenClaim := { program := "ytpemagogcagipaa", sum := "33c2cfcb70c3e59c15d5b38100788f5b62c040927780c7dba715d33553900bf9", func := "foreshore/foreshorelaw02.TideMore", spec := "tideMore", unfollowed := true, recurses := true, plainKeys := false, apart := false }
def TideMoreSaid : Prop := tideMoreRow.holds Try.pinned (OpenSpec.ofChange tideMoreSpec)

/-- ITS FALSE NEIGHBOUR: 'it returns false'. Refute it at one input. -/
def tideMoreWrong : ChangeSpec := { name := "tideMore", fn := fun _ => fun
  | [d1, d2, d3, d4] => { results := [.lit (.bool false)], args := [d1, d2, d3, d4] }
  | _ => none }
def TideMoreWrongFalsely : Prop := tideMoreRow.holds Try.pinned (OpenSpec.ofChange tideMoreWrong)

/-- 'foreshorelaw02.TideWider': WHATEVER THE INPUT: true; the input reads as it did. -/
def tideWiderSpec : ChangeSpec := { name := "tideWider", fn := fun _ => fun
  | [d1, d2, d3] => { results := [.lit (.bool true)], args := [d1, d2, d3] }
  | _ => none }
def tideWiderRow : OpenClaim := { program := "ytpemagogcagipaa", sum := "33c2cfcb70c3e59c15d5b38100788f5b62c040927780c7dba715d33553900bf9", func := "foreshore/foreshorelaw02.TideWider", spec := "tideWider", unfollowed := true, recurses := true, plainKeys := false, apart := false }
def TideWiderSaid : Prop := tideWiderRow.holds Try.pinned (OpenSpec.ofChange tideWiderSpec)

/-- ITS FALSE NEIGHBOUR: 'it returns false'. Refute it at one input. -/
def tideWiderWrong : ChangeSpec := { name := "tideWider", fn := fun _ => fun
  | [d1, d2, d3] => { results := [.lit (.bool false)], args := [d1, d2, d3] }
  | _ => none }
def TideWiderWrongFalsely : Prop := tideWiderRow.holds Try.pinned (OpenSpec.ofChange tideWiderWrong)

/-- 'foreshorelaw02.TideShifted': WHATEVER THE INPUT: true; the input reads as it did. -/
def tideShiftedSpec : ChangeSpec := { name := "tideShifted", fn := fun _ => fun
  | [d1, d2, d3] => { results := [.lit (.bool true)], args := [d1, d2, d3] }
  | _ => none }
def tideShiftedRow : OpenClaim := { program := "ytpemagogcagipaa", sum := "33c2cfcb70c3e59c15d5b38100788f5b62c040927780c7dba715d33553900bf9", func := "foreshore/foreshorelaw02.TideShifted", spec := "tideShifted", unfollowed := true, recurses := true, plainKeys := false, apart := false }
def TideShiftedSaid : Prop := tideShiftedRow.holds Try.pinned (OpenSpec.ofChange tideShiftedSpec)

/-- ITS FALSE NEIGHBOUR: 'it returns false'. Refute it at one input. -/
def tideShiftedWrong : ChangeSpec := { name := "tideShifted", fn := fun _ => fun
  | [d1, d2, d3] => { results := [.lit (.bool false)], args := [d1, d2, d3] }
  | _ => none }
def TideShiftedWrongFalsely : Prop := tideShiftedRow.holds Try.pinned (OpenSpec.ofChange tideShiftedWrong)

/-- 'foreshorelaw02.TideFirst': WHATEVER THE INPUT: true; the input reads as it did. -/
def tideFirstSpec : ChangeSpec := { name := "tideFirst", fn := fun _ => fun
  | [d] => { results := [.lit (.bool true)], args := [d] }
  | _ => none }
def tideFirstRow : OpenClaim := { program := "ytpemagogcagipaa", sum := "33c2cfcb70c3e59c15d5b38100788f5b62c040927780c7dba715d33553900bf9", func := "foreshore/foreshorelaw02.TideFirst", spec := "tideFirst", unfollowed := true, recurses := true, plainKeys := false, apart := false }
def TideFirstSaid : Prop := tideFirstRow.holds Try.pinned (OpenSpec.ofChange tideFirstSpec)

/-- ITS FALSE NEIGHBOUR: 'it returns false'. Refute it at one input. -/
def tideFirstWrong : ChangeSpec := { name := "tideFirst", fn := fun _ => fun
  | [d] => { results := [.lit (.bool false)], args := [d] }
  | _ => none }
def TideFirstWrongFalsely : Prop := tideFirstRow.holds Try.pinned (OpenSpec.ofChange tideFirstWrong)

/-- 'foreshorelaw02.TideLeft': WHATEVER THE INPUT: true; the input reads as it did. -/
def tideLeftSpec : ChangeSpec := { name := "tideLeft", fn := fun _ => fun
  | [d1, d2] => { results := [.lit (.bool true)], args := [d1, d2] }
  | _ => none }
def tideLeftRow : OpenClaim := { program := "ytpemagogcagipaa", sum := "33c2cfcb70c3e59c15d5b38100788f5b62c040927780c7dba715d33553900bf9", func := "foreshore/foreshorelaw02.TideLeft", spec := "tideLeft", unfollowed := true, recurses := true, plainKeys := false, apart := false }
def TideLeftSaid : Prop := tideLeftRow.holds Try.pinned (OpenSpec.ofChange tideLeftSpec)

/-- ITS FALSE NEIGHBOUR: 'it returns false'. Refute it at one input. -/
def tideLeftWrong : ChangeSpec := { name := "tideLeft", fn := fun _ => fun
  | [d1, d2] => { results := [.lit (.bool false)], args := [d1, d2] }
  | _ => none }
def TideLeftWrongFalsely : Prop := tideLeftRow.holds Try.pinned (OpenSpec.ofChange tideLeftWrong)

/- THE SECOND FORM. 'bulk': how many values and letters a reading holds, each counted each time it is reached (what is shared counts as often as it is met; a slice's spare places count too). A statement '..UptoSaid' is the law's where the arguments, and the package variables that the reading takes, are together of bulk at most 1048576: NARROWER than '..Said'. Prove '..Said' where nothing that the law and all that it calls make is longer than what came in: it says more and counts as full. Else prove '..UptoSaid'. A law counts once. -/
mutual
def uptoBulk {H : Type} : DataW H → Nat
  | .lit (.string bytes) => bytes.length + 1
  | .lit _ => 1
  | .nil => 1
  | .ptr d => uptoBulk d + 1
  | .slice elems spare => uptoBulkAll elems + uptoBulkAll spare + 1
  | .agg parts => uptoBulkAll parts + 1
  | .iface _ d => uptoBulk d + 1
  | .map entries => uptoBulkEntries entries + 1
  | .held _ => 1
def uptoBulkAll {H : Type} : List (DataW H) → Nat
  | [] => 0
  | d :: r => uptoBulk d + uptoBulkAll r
def uptoBulkEntries {H : Type} : List (Lit × DataW H) → Nat
  | [] => 0
  | x :: r => uptoBulkEntry x + uptoBulkEntries r
def uptoBulkEntry {H : Type} : Lit × DataW H → Nat
  | (.string bytes, d) => bytes.length + uptoBulk d + 1
  | (_, d) => uptoBulk d + 1
 end
def uptoSmall : (H : Type) → List (DataW H) → Bool := fun _ ds => decide (uptoBulkAll ds ≤ 1048576)
def OpenSpec.upto (s : _root_.Go.ChangeSpec) : _root_.Go.OpenSpec := { _root_.Go.OpenSpec.ofChange s with cond := some uptoSmall }

/-- 'foreshorelaw02.TidePlays', WHERE WHAT IT READS IS OF BULK AT MOST 1048576: true; the input reads as it did. -/
def tidePlaysUptoRow : OpenClaim := { program := "ytpemagogcagipaa", sum := "33c2cfcb70c3e59c15d5b38100788f5b62c040927780c7dba715d33553900bf9", func := "foreshore/foreshorelaw02.TidePlays", spec := "tidePlays", unfollowed := true, recurses := true, plainKeys := false, apart := false, narrowed := true }
def TidePlaysUptoSaid : Prop := tidePlaysUptoRow.holds Try.pinned (OpenSpec.upto tidePlaysSpec)

/-- 'foreshorelaw02.TideBounds', WHERE WHAT IT READS IS OF BULK AT MOST 1048576: true; the input reads as it did. -/
def tideBoundsUptoRow : OpenClaim := { program := "ytpemagogcagipaa", sum := "33c2cfcb70c3e59c15d5b38100788f5b62c040927780c7dba715d33553900bf9", func := "foreshore/foreshorelaw02.TideBounds", spec := "tideBounds", unfollowed := true, recurses := true, plainKeys := false, apart := false, narrowed := true }
def TideBoundsUptoSaid : Prop := tideBoundsUptoRow.holds Try.pinned (OpenSpec.upto tideBoundsSpec)

/-- 'foreshorelaw02.TideReaches', WHERE WHAT IT READS IS OF BULK AT MOST 1048576: true; the input reads as it did. -/
def tideReachesUptoRow : OpenClaim := { program := "ytpemagogcagipaa", sum := "33c2cfcb70c3e59c15d5b38100788f5b62c040927780c7dba715d33553900bf9", func := "foreshore/foreshorelaw02.TideReaches", spec := "tideReaches", unfollowed := true, recurses := true, plainKeys := false, apart := false, narrowed := true }
def TideReachesUptoSaid : Prop := tideReachesUptoRow.holds Try.pinned (OpenSpec.upto tideReachesSpec)

/-- 'foreshorelaw02.TideDries', WHERE WHAT IT READS IS OF BULK AT MOST 1048576: true; the input reads as it did. -/
def tideDriesUptoRow : OpenClaim := { program := "ytpemagogcagipaa", sum := "33c2cfcb70c3e59c15d5b38100788f5b62c040927780c7dba715d33553900bf9", func := "foreshore/foreshorelaw02.TideDries", spec := "tideDries", unfollowed := true, recurses := true, plainKeys := false, apart := false, narrowed := true }
def TideDriesUptoSaid : Prop := tideDriesUptoRow.holds Try.pinned (OpenSpec.upto tideDriesSpec)

/-- 'foreshorelaw02.TideLeaves', WHERE WHAT IT READS IS OF BULK AT MOST 1048576: true; the input reads as it did. -/
def tideLeavesUptoRow : OpenClaim := { program := "ytpemagogcagipaa", sum := "33c2cfcb70c3e59c15d5b38100788f5b62c040927780c7dba715d33553900bf9", func := "foreshore/foreshorelaw02.TideLeaves", spec := "tideLeaves", unfollowed := true, recurses := true, plainKeys := false, apart := false, narrowed := true }
def TideLeavesUptoSaid : Prop := tideLeavesUptoRow.holds Try.pinned (OpenSpec.upto tideLeavesSpec)

/-- 'foreshorelaw02.TideNames', WHERE WHAT IT READS IS OF BULK AT MOST 1048576: true; the input reads as it did. -/
def tideNamesUptoRow : OpenClaim := { program := "ytpemagogcagipaa", sum := "33c2cfcb70c3e59c15d5b38100788f5b62c040927780c7dba715d33553900bf9", func := "foreshore/foreshorelaw02.TideNames", spec := "tideNames", unfollowed := true, recurses := true, plainKeys := false, apart := false, narrowed := true }
def TideNamesUptoSaid : Prop := tideNamesUptoRow.holds Try.pinned (OpenSpec.upto tideNamesSpec)

/-- 'foreshorelaw02.TideTruth', WHERE WHAT IT READS IS OF BULK AT MOST 1048576: true; the input reads as it did. -/
def tideTruthUptoRow : OpenClaim := { program := "ytpemagogcagipaa", sum := "33c2cfcb70c3e59c15d5b38100788f5b62c040927780c7dba715d33553900bf9", func := "foreshore/foreshorelaw02.TideTruth", spec := "tideTruth", unfollowed := true, recurses := true, plainKeys := false, apart := false, narrowed := true }
def TideTruthUptoSaid : Prop := tideTruthUptoRow.holds Try.pinned (OpenSpec.upto tideTruthSpec)

/-- 'foreshorelaw02.TideEnds', WHERE WHAT IT READS IS OF BULK AT MOST 1048576: true; the input reads as it did. -/
def tideEndsUptoRow : OpenClaim := { program := "ytpemagogcagipaa", sum := "33c2cfcb70c3e59c15d5b38100788f5b62c040927780c7dba715d33553900bf9", func := "foreshore/foreshorelaw02.TideEnds", spec := "tideEnds", unfollowed := true, recurses := true, plainKeys := false, apart := false, narrowed := true }
def TideEndsUptoSaid : Prop := tideEndsUptoRow.holds Try.pinned (OpenSpec.upto tideEndsSpec)

/-- 'foreshorelaw02.TideHigher', WHERE WHAT IT READS IS OF BULK AT MOST 1048576: true; the input reads as it did. -/
def tideHigherUptoRow : OpenClaim := { program := "ytpemagogcagipaa", sum := "33c2cfcb70c3e59c15d5b38100788f5b62c040927780c7dba715d33553900bf9", func := "foreshore/foreshorelaw02.TideHigher", spec := "tideHigher", unfollowed := true, recurses := true, plainKeys := false, apart := false, narrowed := true }
def TideHigherUptoSaid : Prop := tideHigherUptoRow.holds Try.pinned (OpenSpec.upto tideHigherSpec)

/-- 'foreshorelaw02.TideLevel', WHERE WHAT IT READS IS OF BULK AT MOST 1048576: true; the input reads as it did. -/
def tideLevelUptoRow : OpenClaim := { program := "ytpemagogcagipaa", sum := "33c2cfcb70c3e59c15d5b38100788f5b62c040927780c7dba715d33553900bf9", func := "foreshore/foreshorelaw02.TideLevel", spec := "tideLevel", unfollowed := true, recurses := true, plainKeys := false, apart := false, narrowed := true }
def TideLevelUptoSaid : Prop := tideLevelUptoRow.holds Try.pinned (OpenSpec.upto tideLevelSpec)

/-- 'foreshorelaw02.TideStep', WHERE WHAT IT READS IS OF BULK AT MOST 1048576: true; the input reads as it did. -/
def tideStepUptoRow : OpenClaim := { program := "ytpemagogcagipaa", sum := "33c2cfcb70c3e59c15d5b38100788f5b62c040927780c7dba715d33553900bf9", func := "foreshore/foreshorelaw02.TideStep", spec := "tideStep", unfollowed := true, recurses := true, plainKeys := false, apart := false, narrowed := true }
def TideStepUptoSaid : Prop := tideStepUptoRow.holds Try.pinned (OpenSpec.upto tideStepSpec)

/-- 'foreshorelaw02.TideMore', WHERE WHAT IT READS IS OF BULK AT MOST 1048576: true; the input reads as it did. -/
def tideMoreUptoRow : OpenClaim := { program := "ytpemagogcagipaa", sum := "33c2cfcb70c3e59c15d5b38100788f5b62c040927780c7dba715d33553900bf9", func := "foreshore/foreshorelaw02.TideMore", spec := "tideMore", unfollowed := true, recurses := true, plainKeys := false, apart := false, narrowed := true }
def TideMoreUptoSaid : Prop := tideMoreUptoRow.holds Try.pinned (OpenSpec.upto tideMoreSpec)

/-- 'foreshorelaw02.TideWider', WHERE WHAT IT READS IS OF BULK AT MOST 1048576: true; the input reads as it did. -/
def tideWiderUptoRow : OpenClaim := { program := "ytpemagogcagipaa", sum := "33c2cfcb70c3e59c15d5b38100788f5b62c040927780c7dba715d33553900bf9", func := "foreshore/foreshorelaw02.TideWider", spec := "tideWider", unfollowed := true, recurses := true, plainKeys := false, apart := false, narrowed := true }
def TideWiderUptoSaid : Prop := tideWiderUptoRow.holds Try.pinned (OpenSpec.upto tideWiderSpec)

/-- 'foreshorelaw02.TideShifted', WHERE WHAT IT READS IS OF BULK AT MOST 1048576: true; the input reads as it did. -/
def tideShiftedUptoRow : OpenClaim := { program := "ytpemagogcagipaa", sum := "33c2cfcb70c3e59c15d5b38100788f5b62c040927780c7dba715d33553900bf9", func := "foreshore/foreshorelaw02.TideShifted", spec := "tideShifted", unfollowed := true, recurses := true, plainKeys := false, apart := false, narrowed := true }
def TideShiftedUptoSaid : Prop := tideShiftedUptoRow.holds Try.pinned (OpenSpec.upto tideShiftedSpec)

/-- 'foreshorelaw02.TideFirst', WHERE WHAT IT READS IS OF BULK AT MOST 1048576: true; the input reads as it did. -/
def tideFirstUptoRow : OpenClaim := { program := "ytpemagogcagipaa", sum := "33c2cfcb70c3e59c15d5b38100788f5b62c040927780c7dba715d33553900bf9", func := "foreshore/foreshorelaw02.TideFirst", spec := "tideFirst", unfollowed := true, recurses := true, plainKeys := false, apart := false, narrowed := true }
def TideFirstUptoSaid : Prop := tideFirstUptoRow.holds Try.pinned (OpenSpec.upto tideFirstSpec)

/-- 'foreshorelaw02.TideLeft', WHERE WHAT IT READS IS OF BULK AT MOST 1048576: true; the input reads as it did. -/
def tideLeftUptoRow : OpenClaim := { program := "ytpemagogcagipaa", sum := "33c2cfcb70c3e59c15d5b38100788f5b62c040927780c7dba715d33553900bf9", func := "foreshore/foreshorelaw02.TideLeft", spec := "tideLeft", unfollowed := true, recurses := true, plainKeys := false, apart := false, narrowed := true }
def TideLeftUptoSaid : Prop := tideLeftUptoRow.holds Try.pinned (OpenSpec.upto tideLeftSpec)

end Rows
end Go.Proofs.Ytpemagogcagipaa
