/-
  No cell of these rows narrows 'for every input' (looked for: loops, veiled, ifaces, maps, wideKeys, modest, calm, conditions, laid).
  DERIVED. THE GIVEN ROWS OF THIS SEAT. 15 by the template 'for every input the law returns true; each argument reads behind the call as it read before'; 0 by the template 'total and deterministic' (their statements: YtmlpgfmbhpefmaaTotals.lean).
  GIVEN WITH THE SEED: the statements are not yours to turn. If you find one false, say at which input.
  Laid BY PROGRAM, IN A SANDBOX (cutbox-rows.mjs): the forced cells as the released guide's own fill.sh prints them over the translation 0e1b1e09023a09cd… (all of the seat's roots in one cut). By AI agents, Wed Nov 11 2026. No macro, syntax, notation, axiom, sorry.
-/
import Derived.Test.YtmlpgfmbhpefmaaChecked
import GoSem.Claim
import GoSem.ClaimJoined
import GoSem.ClaimMapViews
import Derived.JoinedTies
import Derived.KernelRfl
namespace Go.Proofs.Ytmlpgfmbhpefmaa
/- THE CELL 'sum', in the pinned program and in every row, IS THE sha256 OF THE DUMP (.gsa) THAT YtmlpgfmbhpefmaaProg.lean LOADS. Nothing in Lean hashes anything: it is a label: what it is worth is what the hold of that sum in a sandbox is worth. -/
noncomputable def Try.pinned : Pinned := { name := "ytmlpgfmbhpefmaa", sum := "0e1b1e09023a09cdf1ee4c0f8402c71b0e3e6d1f7e63bf2c8830756da195efb4", checked := Try.checked }
namespace Rows
def none {H : Type} : Left H := { results := [], args := [] }

/-- 'foreshorelaw01.CountPlays': WHATEVER THE INPUT: true; the input reads as it did. -/
def countPlaysSpec : ChangeSpec := { name := "countPlays", fn := fun _ => fun
  | [d1, d2] => { results := [.lit (.bool true)], args := [d1, d2] }
  | _ => none }
def countPlaysRow : OpenClaim := { program := "ytmlpgfmbhpefmaa", sum := "0e1b1e09023a09cdf1ee4c0f8402c71b0e3e6d1f7e63bf2c8830756da195efb4", func := "foreshore/foreshorelaw01.CountPlays", spec := "countPlays", unfollowed := true, recurses := true, plainKeys := false, apart := false }
def CountPlaysSaid : Prop := countPlaysRow.holds Try.pinned (OpenSpec.ofChange countPlaysSpec)

/-- ITS FALSE NEIGHBOUR: 'it returns false'. Refute it at one input. -/
def countPlaysWrong : ChangeSpec := { name := "countPlays", fn := fun _ => fun
  | [d1, d2] => { results := [.lit (.bool false)], args := [d1, d2] }
  | _ => none }
def CountPlaysWrongFalsely : Prop := countPlaysRow.holds Try.pinned (OpenSpec.ofChange countPlaysWrong)

/-- 'foreshorelaw01.CountChairs': WHATEVER THE INPUT: true; the input reads as it did. -/
def countChairsSpec : ChangeSpec := { name := "countChairs", fn := fun _ => fun
  | [d1, d2, d3] => { results := [.lit (.bool true)], args := [d1, d2, d3] }
  | _ => none }
def countChairsRow : OpenClaim := { program := "ytmlpgfmbhpefmaa", sum := "0e1b1e09023a09cdf1ee4c0f8402c71b0e3e6d1f7e63bf2c8830756da195efb4", func := "foreshore/foreshorelaw01.CountChairs", spec := "countChairs", unfollowed := true, recurses := true, plainKeys := false, apart := false }
def CountChairsSaid : Prop := countChairsRow.holds Try.pinned (OpenSpec.ofChange countChairsSpec)

/-- ITS FALSE NEIGHBOUR: 'it returns false'. Refute it at one input. -/
def countChairsWrong : ChangeSpec := { name := "countChairs", fn := fun _ => fun
  | [d1, d2, d3] => { results := [.lit (.bool false)], args := [d1, d2, d3] }
  | _ => none }
def CountChairsWrongFalsely : Prop := countChairsRow.holds Try.pinned (OpenSpec.ofChange countChairsWrong)

/-- 'foreshorelaw01.CountVerdicts': WHATEVER THE INPUT: true; the input reads as it did. -/
def countVerdictsSpec : ChangeSpec := { name := "countVerdicts", fn := fun _ => fun
  | [d] => { results := [.lit (.bool true)], args := [d] }
  | _ => none }
def countVerdictsRow : OpenClaim := { program := "ytmlpgfmbhpefmaa", sum := "0e1b1e09023a09cdf1ee4c0f8402c71b0e3e6d1f7e63bf2c8830756da195efb4", func := "foreshore/foreshorelaw01.CountVerdicts", spec := "countVerdicts", unfollowed := true, recurses := true, plainKeys := false, apart := false }
def CountVerdictsSaid : Prop := countVerdictsRow.holds Try.pinned (OpenSpec.ofChange countVerdictsSpec)

/-- ITS FALSE NEIGHBOUR: 'it returns false'. Refute it at one input. -/
def countVerdictsWrong : ChangeSpec := { name := "countVerdicts", fn := fun _ => fun
  | [d] => { results := [.lit (.bool false)], args := [d] }
  | _ => none }
def CountVerdictsWrongFalsely : Prop := countVerdictsRow.holds Try.pinned (OpenSpec.ofChange countVerdictsWrong)

/-- 'foreshorelaw01.CountLeast': WHATEVER THE INPUT: true; the input reads as it did. -/
def countLeastSpec : ChangeSpec := { name := "countLeast", fn := fun _ => fun
  | [d1, d2, d3] => { results := [.lit (.bool true)], args := [d1, d2, d3] }
  | _ => none }
def countLeastRow : OpenClaim := { program := "ytmlpgfmbhpefmaa", sum := "0e1b1e09023a09cdf1ee4c0f8402c71b0e3e6d1f7e63bf2c8830756da195efb4", func := "foreshore/foreshorelaw01.CountLeast", spec := "countLeast", unfollowed := true, recurses := true, plainKeys := false, apart := false }
def CountLeastSaid : Prop := countLeastRow.holds Try.pinned (OpenSpec.ofChange countLeastSpec)

/-- ITS FALSE NEIGHBOUR: 'it returns false'. Refute it at one input. -/
def countLeastWrong : ChangeSpec := { name := "countLeast", fn := fun _ => fun
  | [d1, d2, d3] => { results := [.lit (.bool false)], args := [d1, d2, d3] }
  | _ => none }
def CountLeastWrongFalsely : Prop := countLeastRow.holds Try.pinned (OpenSpec.ofChange countLeastWrong)

/-- 'foreshorelaw01.CountLooks': WHATEVER THE INPUT: true; the input reads as it did. -/
def countLooksSpec : ChangeSpec := { name := "countLooks", fn := fun _ => fun
  | [d1, d2, d3] => { results := [.lit (.bool true)], args := [d1, d2, d3] }
  | _ => none }
def countLooksRow : OpenClaim := { program := "ytmlpgfmbhpefmaa", sum := "0e1b1e09023a09cdf1ee4c0f8402c71b0e3e6d1f7e63bf2c8830756da195efb4", func := "foreshore/foreshorelaw01.CountLooks", spec := "countLooks", unfollowed := true, recurses := true, plainKeys := false, apart := false }
def CountLooksSaid : Prop := countLooksRow.holds Try.pinned (OpenSpec.ofChange countLooksSpec)

/-- ITS FALSE NEIGHBOUR: 'it returns false'. Refute it at one input. -/
def countLooksWrong : ChangeSpec := { name := "countLooks", fn := fun _ => fun
  | [d1, d2, d3] => { results := [.lit (.bool false)], args := [d1, d2, d3] }
  | _ => none }
def CountLooksWrongFalsely : Prop := countLooksRow.holds Try.pinned (OpenSpec.ofChange countLooksWrong)

/-- 'foreshorelaw01.CountNames': WHATEVER THE INPUT: true; the input reads as it did. -/
def countNamesSpec : ChangeSpec := { name := "countNames", fn := fun _ => fun
  | [] => { results := [.lit (.bool true)], args := [] }
  | _ => none }
def countNamesRow : OpenClaim := { program := "ytmlpgfmbhpefmaa", sum := "0e1b1e09023a09cdf1ee4c0f8402c71b0e3e6d1f7e63bf2c8830756da195efb4", func := "foreshore/foreshorelaw01.CountNames", spec := "countNames", unfollowed := true, recurses := true, plainKeys := false, apart := false }
def CountNamesSaid : Prop := countNamesRow.holds Try.pinned (OpenSpec.ofChange countNamesSpec)

/-- ITS FALSE NEIGHBOUR: 'it returns false'. Refute it at one input. -/
def countNamesWrong : ChangeSpec := { name := "countNames", fn := fun _ => fun
  | [] => { results := [.lit (.bool false)], args := [] }
  | _ => none }
def CountNamesWrongFalsely : Prop := countNamesRow.holds Try.pinned (OpenSpec.ofChange countNamesWrong)

/-- 'foreshorelaw01.CountTruth': WHATEVER THE INPUT: true; the input reads as it did. -/
def countTruthSpec : ChangeSpec := { name := "countTruth", fn := fun _ => fun
  | [d1, d2, d3, d4, d5] => { results := [.lit (.bool true)], args := [d1, d2, d3, d4, d5] }
  | _ => none }
def countTruthRow : OpenClaim := { program := "ytmlpgfmbhpefmaa", sum := "0e1b1e09023a09cdf1ee4c0f8402c71b0e3e6d1f7e63bf2c8830756da195efb4", func := "foreshore/foreshorelaw01.CountTruth", spec := "countTruth", unfollowed := true, recurses := true, plainKeys := false, apart := false }
def CountTruthSaid : Prop := countTruthRow.holds Try.pinned (OpenSpec.ofChange countTruthSpec)

/-- ITS FALSE NEIGHBOUR: 'it returns false'. Refute it at one input. -/
def countTruthWrong : ChangeSpec := { name := "countTruth", fn := fun _ => fun
  | [d1, d2, d3, d4, d5] => { results := [.lit (.bool false)], args := [d1, d2, d3, d4, d5] }
  | _ => none }
def CountTruthWrongFalsely : Prop := countTruthRow.holds Try.pinned (OpenSpec.ofChange countTruthWrong)

/-- 'foreshorelaw01.CountEnds': WHATEVER THE INPUT: true; the input reads as it did. -/
def countEndsSpec : ChangeSpec := { name := "countEnds", fn := fun _ => fun
  | [d1, d2, d3] => { results := [.lit (.bool true)], args := [d1, d2, d3] }
  | _ => none }
def countEndsRow : OpenClaim := { program := "ytmlpgfmbhpefmaa", sum := "0e1b1e09023a09cdf1ee4c0f8402c71b0e3e6d1f7e63bf2c8830756da195efb4", func := "foreshore/foreshorelaw01.CountEnds", spec := "countEnds", unfollowed := true, recurses := true, plainKeys := false, apart := false }
def CountEndsSaid : Prop := countEndsRow.holds Try.pinned (OpenSpec.ofChange countEndsSpec)

/-- ITS FALSE NEIGHBOUR: 'it returns false'. Refute it at one input. -/
def countEndsWrong : ChangeSpec := { name := "countEnds", fn := fun _ => fun
  | [d1, d2, d3] => { results := [.lit (.bool false)], args := [d1, d2, d3] }
  | _ => none }
def CountEndsWrongFalsely : Prop := countEndsRow.holds Try.pinned (OpenSpec.ofChange countEndsWrong)

/-- 'foreshorelaw01.CountMore': WHATEVER THE INPUT: true; the input reads as it did. -/
def countMoreSpec : ChangeSpec := { name := "countMore", fn := fun _ => fun
  | [d1, d2, d3, d4] => { results := [.lit (.bool true)], args := [d1, d2, d3, d4] }
  | _ => none }
def countMoreRow : OpenClaim := { program := "ytmlpgfmbhpefmaa", sum := "0e1b1e09023a09cdf1ee4c0f8402c71b0e3e6d1f7e63bf2c8830756da195efb4", func := "foreshore/foreshorelaw01.CountMore", spec := "countMore", unfollowed := true, recurses := true, plainKeys := false, apart := false }
def CountMoreSaid : Prop := countMoreRow.holds Try.pinned (OpenSpec.ofChange countMoreSpec)

/-- ITS FALSE NEIGHBOUR: 'it returns false'. Refute it at one input. -/
def countMoreWrong : ChangeSpec := { name := "countMore", fn := fun _ => fun
  | [d1, d2, d3, d4] => { results := [.lit (.bool false)], args := [d1, d2, d3, d4] }
  | _ => none }
def CountMoreWrongFalsely : Prop := countMoreRow.holds Try.pinned (OpenSpec.ofChange countMoreWrong)

/-- 'foreshorelaw01.CountTurned': WHATEVER THE INPUT: true; the input reads as it did. -/
def countTurnedSpec : ChangeSpec := { name := "countTurned", fn := fun _ => fun
  | [d1, d2, d3] => { results := [.lit (.bool true)], args := [d1, d2, d3] }
  | _ => none }
def countTurnedRow : OpenClaim := { program := "ytmlpgfmbhpefmaa", sum := "0e1b1e09023a09cdf1ee4c0f8402c71b0e3e6d1f7e63bf2c8830756da195efb4", func := "foreshore/foreshorelaw01.CountTurned", spec := "countTurned", unfollowed := true, recurses := true, plainKeys := false, apart := false }
def CountTurnedSaid : Prop := countTurnedRow.holds Try.pinned (OpenSpec.ofChange countTurnedSpec)

/-- ITS FALSE NEIGHBOUR: 'it returns false'. Refute it at one input. -/
def countTurnedWrong : ChangeSpec := { name := "countTurned", fn := fun _ => fun
  | [d1, d2, d3] => { results := [.lit (.bool false)], args := [d1, d2, d3] }
  | _ => none }
def CountTurnedWrongFalsely : Prop := countTurnedRow.holds Try.pinned (OpenSpec.ofChange countTurnedWrong)

/-- 'foreshorelaw01.CountParts': WHATEVER THE INPUT: true; the input reads as it did. -/
def countPartsSpec : ChangeSpec := { name := "countParts", fn := fun _ => fun
  | [d1, d2, d3, d4] => { results := [.lit (.bool true)], args := [d1, d2, d3, d4] }
  | _ => none }
def countPartsRow : OpenClaim := { program := "ytmlpgfmbhpefmaa", sum := "0e1b1e09023a09cdf1ee4c0f8402c71b0e3e6d1f7e63bf2c8830756da195efb4", func := "foreshore/foreshorelaw01.CountParts", spec := "countParts", unfollowed := true, recurses := true, plainKeys := false, apart := false }
def CountPartsSaid : Prop := countPartsRow.holds Try.pinned (OpenSpec.ofChange countPartsSpec)

/-- ITS FALSE NEIGHBOUR: 'it returns false'. Refute it at one input. -/
def countPartsWrong : ChangeSpec := { name := "countParts", fn := fun _ => fun
  | [d1, d2, d3, d4] => { results := [.lit (.bool false)], args := [d1, d2, d3, d4] }
  | _ => none }
def CountPartsWrongFalsely : Prop := countPartsRow.holds Try.pinned (OpenSpec.ofChange countPartsWrong)

/-- 'foreshorelaw01.CountWider': WHATEVER THE INPUT: true; the input reads as it did. -/
def countWiderSpec : ChangeSpec := { name := "countWider", fn := fun _ => fun
  | [d1, d2, d3, d4, d5] => { results := [.lit (.bool true)], args := [d1, d2, d3, d4, d5] }
  | _ => none }
def countWiderRow : OpenClaim := { program := "ytmlpgfmbhpefmaa", sum := "0e1b1e09023a09cdf1ee4c0f8402c71b0e3e6d1f7e63bf2c8830756da195efb4", func := "foreshore/foreshorelaw01.CountWider", spec := "countWider", unfollowed := true, recurses := true, plainKeys := false, apart := false }
def CountWiderSaid : Prop := countWiderRow.holds Try.pinned (OpenSpec.ofChange countWiderSpec)

/-- ITS FALSE NEIGHBOUR: 'it returns false'. Refute it at one input. -/
def countWiderWrong : ChangeSpec := { name := "countWider", fn := fun _ => fun
  | [d1, d2, d3, d4, d5] => { results := [.lit (.bool false)], args := [d1, d2, d3, d4, d5] }
  | _ => none }
def CountWiderWrongFalsely : Prop := countWiderRow.holds Try.pinned (OpenSpec.ofChange countWiderWrong)

/-- 'foreshorelaw01.CountExact': WHATEVER THE INPUT: true; the input reads as it did. -/
def countExactSpec : ChangeSpec := { name := "countExact", fn := fun _ => fun
  | [d1, d2, d3] => { results := [.lit (.bool true)], args := [d1, d2, d3] }
  | _ => none }
def countExactRow : OpenClaim := { program := "ytmlpgfmbhpefmaa", sum := "0e1b1e09023a09cdf1ee4c0f8402c71b0e3e6d1f7e63bf2c8830756da195efb4", func := "foreshore/foreshorelaw01.CountExact", spec := "countExact", unfollowed := true, recurses := true, plainKeys := false, apart := false }
def CountExactSaid : Prop := countExactRow.holds Try.pinned (OpenSpec.ofChange countExactSpec)

/-- ITS FALSE NEIGHBOUR: 'it returns false'. Refute it at one input. -/
def countExactWrong : ChangeSpec := { name := "countExact", fn := fun _ => fun
  | [d1, d2, d3] => { results := [.lit (.bool false)], args := [d1, d2, d3] }
  | _ => none }
def CountExactWrongFalsely : Prop := countExactRow.holds Try.pinned (OpenSpec.ofChange countExactWrong)

/-- 'foreshorelaw01.CountLooked': WHATEVER THE INPUT: true; the input reads as it did. -/
def countLookedSpec : ChangeSpec := { name := "countLooked", fn := fun _ => fun
  | [d1, d2, d3, d4] => { results := [.lit (.bool true)], args := [d1, d2, d3, d4] }
  | _ => none }
def countLookedRow : OpenClaim := { program := "ytmlpgfmbhpefmaa", sum := "0e1b1e09023a09cdf1ee4c0f8402c71b0e3e6d1f7e63bf2c8830756da195efb4", func := "foreshore/foreshorelaw01.CountLooked", spec := "countLooked", unfollowed := true, recurses := true, plainKeys := false, apart := false }
def CountLookedSaid : Prop := countLookedRow.holds Try.pinned (OpenSpec.ofChange countLookedSpec)

/-- ITS FALSE NEIGHBOUR: 'it returns false'. Refute it at one input. -/
def countLookedWrong : ChangeSpec := { name := "countLooked", fn := fun _ => fun
  | [d1, d2, d3, d4] => { results := [.lit (.bool false)], args := [d1, d2, d3, d4] }
  | _ => none }
def CountLookedWrongFalsely : Prop := countLookedRow.holds Try.pinned (OpenSpec.ofChange countLookedWrong)

/-- 'foreshorelaw01.CountNothing': WHATEVER THE INPUT: true; the input reads as it did. -/
def countNothingSpec : ChangeSpec := { name := "countNothing", fn := fun _ => fun
  | [d1, d2, d3, d4] => { results := [.lit (.bool true)], args := [d1, d2, d3, d4] }
  | _ => none }
def countNothingRow : OpenClaim := { program := "ytmlpgfmbhpefmaa", sum := "0e1b1e09023a09cdf1ee4c0f8402c71b0e3e6d1f7e63bf2c8830756da195efb4", func := "foreshore/foreshorelaw01.CountNothing", spec := "countNothing", unfollowed := true, recurses := true, plainKeys := false, apart := false }
def CountNothingSaid : Prop := countNothingRow.holds Try.pinned (OpenSpec.ofChange countNothingSpec)

/-- ITS FALSE NEIGHBOUR: 'it returns false'. Refute it at one input. -/
def countNothingWrong : ChangeSpec := { name := "countNothing", fn := fun _ => fun
  | [d1, d2, d3, d4] => { results := [.lit (.bool false)], args := [d1, d2, d3, d4] }
  | _ => none }
def CountNothingWrongFalsely : Prop := countNothingRow.holds Try.pinned (OpenSpec.ofChange countNothingWrong)

/- THE SECOND FORM. 'bulk': how many values and letters a reading holds, each counted each time it is reached (what is shared counts as often as it is met; a slice's spare places count too). A statement '..UptoSaid' is the law's where the arguments, and the package variables that the reading takes, are together of bulk at most 1048576: NARROWER than '..Said'. Prove '..Said' where nothing that the law and all that it calls make is longer than what came in: it says more and counts as full. Else prove '..UptoSaid'. A law counts once. -/
mutual
def uptoBulk {H : Type} : DataW H → Nat
  | .lit (.string bytes) => bytes.length + 1
  | .lit _ => 1
  | .nil => 1
  | .ptr d => uptoBulk d + 1
  | .slice elems spare => uptoBulkAll elems + uptoBulkAll spare + 1
  | .agg parts => uptoBulkAll parts + 1
  | .iface _ d => uptoBulk d + 1
  | .map entries => uptoBulkEntries entries + 1
  | .held _ => 1
def uptoBulkAll {H : Type} : List (DataW H) → Nat
  | [] => 0
  | d :: r => uptoBulk d + uptoBulkAll r
def uptoBulkEntries {H : Type} : List (Lit × DataW H) → Nat
  | [] => 0
  | x :: r => uptoBulkEntry x + uptoBulkEntries r
def uptoBulkEntry {H : Type} : Lit × DataW H → Nat
  | (.string bytes, d) => bytes.length + uptoBulk d + 1
  | (_, d) => uptoBulk d + 1
 end
def uptoSmall : (H : Type) → List (DataW H) → Bool := fun _ ds => decide (uptoBulkAll ds ≤ 1048576)
def OpenSpec.upto (s : _root_.Go.ChangeSpec) : _root_.Go.OpenSpec := { _root_.Go.OpenSpec.ofChange s with cond := some uptoSmall }

/-- 'foreshorelaw01.CountPlays', WHERE WHAT IT READS IS OF BULK AT MOST 1048576: true; the input reads as it did. -/
def countPlaysUptoRow : OpenClaim := { program := "ytmlpgfmbhpefmaa", sum := "0e1b1e09023a09cdf1ee4c0f8402c71b0e3e6d1f7e63bf2c8830756da195efb4", func := "foreshore/foreshorelaw01.CountPlays", spec := "countPlays", unfollowed := true, recurses := true, plainKeys := false, apart := false, narrowed := true }
def CountPlaysUptoSaid : Prop := countPlaysUptoRow.holds Try.pinned (OpenSpec.upto countPlaysSpec)

/-- 'foreshorelaw01.CountChairs', WHERE WHAT IT READS IS OF BULK AT MOST 1048576: true; the input reads as it did. -/
def countChairsUptoRow : OpenClaim := { program := "ytmlpgfmbhpefmaa", sum := "0e1b1e09023a09cdf1ee4c0f8402c71b0e3e6d1f7e63bf2c8830756da195efb4", func := "foreshore/foreshorelaw01.CountChairs", spec := "countChairs", unfollowed := true, recurses := true, plainKeys := false, apart := false, narrowed := true }
def CountChairsUptoSaid : Prop := countChairsUptoRow.holds Try.pinned (OpenSpec.upto countChairsSpec)

/-- 'foreshorelaw01.CountVerdicts', WHERE WHAT IT READS IS OF BULK AT MOST 1048576: true; the input reads as it did. -/
def countVerdictsUptoRow : OpenClaim := { program := "ytmlpgfmbhpefmaa", sum := "0e1b1e09023a09cdf1ee4c0f8402c71b0e3e6d1f7e63bf2c8830756da195efb4", func := "foreshore/foreshorelaw01.CountVerdicts", spec := "countVerdicts", unfollowed := true, recurses := true, plainKeys := false, apart := false, narrowed := true }
def CountVerdictsUptoSaid : Prop := countVerdictsUptoRow.holds Try.pinned (OpenSpec.upto countVerdictsSpec)

/-- 'foreshorelaw01.CountLeast', WHERE WHAT IT READS IS OF BULK AT MOST 1048576: true; the input reads as it did. -/
def countLeastUptoRow : OpenClaim := { program := "ytmlpgfmbhpefmaa", sum := "0e1b1e09023a09cdf1ee4c0f8402c71b0e3e6d1f7e63bf2c8830756da195efb4", func := "foreshore/foreshorelaw01.CountLeast", spec := "countLeast", unfollowed := true, recurses := true, plainKeys := false, apart := false, narrowed := true }
def CountLeastUptoSaid : Prop := countLeastUptoRow.holds Try.pinned (OpenSpec.upto countLeastSpec)

/-- 'foreshorelaw01.CountLooks', WHERE WHAT IT READS IS OF BULK AT MOST 1048576: true; the input reads as it did. -/
def countLooksUptoRow : OpenClaim := { program := "ytmlpgfmbhpefmaa", sum := "0e1b1e09023a09cdf1ee4c0f8402c71b0e3e6d1f7e63bf2c8830756da195efb4", func := "foreshore/foreshorelaw01.CountLooks", spec := "countLooks", unfollowed := true, recurses := true, plainKeys := false, apart := false, narrowed := true }
def CountLooksUptoSaid : Prop := countLooksUptoRow.holds Try.pinned (OpenSpec.upto countLooksSpec)

/-- 'foreshorelaw01.CountNames', WHERE WHAT IT READS IS OF BULK AT MOST 1048576: true; the input reads as it did. -/
def countNamesUptoRow : OpenClaim := { program := "ytmlpgfmbhpefmaa", sum := "0e1b1e09023a09cdf1ee4c0f8402c71b0e3e6d1f7e63bf2c8830756da195efb4", func := "foreshore/foreshorelaw01.CountNames", spec := "countNames", unfollowed := true, recurses := true, plainKeys := false, apart := false, narrowed := true }
def CountNamesUptoSaid : Prop := countNamesUptoRow.holds Try.pinned (OpenSpec.upto countNamesSpec)

/-- 'foreshorelaw01.CountTruth', WHERE WHAT IT READS IS OF BULK AT MOST 1048576: true; the input reads as it did. -/
def countTruthUptoRow : OpenClaim := { program := "ytmlpgfmbhpefmaa", sum := "0e1b1e09023a09cdf1ee4c0f8402c71b0e3e6d1f7e63bf2c8830756da195efb4", func := "foreshore/foreshorelaw01.CountTruth", spec := "countTruth", unfollowed := true, recurses := true, plainKeys := false, apart := false, narrowed := true }
def CountTruthUptoSaid : Prop := countTruthUptoRow.holds Try.pinned (OpenSpec.upto countTruthSpec)

/-- 'foreshorelaw01.CountEnds', WHERE WHAT IT READS IS OF BULK AT MOST 1048576: true; the input reads as it did. -/
def countEndsUptoRow : OpenClaim := { program := "ytmlpgfmbhpefmaa", sum := "0e1b1e09023a09cdf1ee4c0f8402c71b0e3e6d1f7e63bf2c8830756da195efb4", func := "foreshore/foreshorelaw01.CountEnds", spec := "countEnds", unfollowed := true, recurses := true, plainKeys := false, apart := false, narrowed := true }
def CountEndsUptoSaid : Prop := countEndsUptoRow.holds Try.pinned (OpenSpec.upto countEndsSpec)

/-- 'foreshorelaw01.CountMore', WHERE WHAT IT READS IS OF BULK AT MOST 1048576: true; the input reads as it did. -/
def countMoreUptoRow : OpenClaim := { program := "ytmlpgfmbhpefmaa", sum := "0e1b1e09023a09cdf1ee4c0f8402c71b0e3e6d1f7e63bf2c8830756da195efb4", func := "foreshore/foreshorelaw01.CountMore", spec := "countMore", unfollowed := true, recurses := true, plainKeys := false, apart := false, narrowed := true }
def CountMoreUptoSaid : Prop := countMoreUptoRow.holds Try.pinned (OpenSpec.upto countMoreSpec)

/-- 'foreshorelaw01.CountTurned', WHERE WHAT IT READS IS OF BULK AT MOST 1048576: true; the input reads as it did. -/
def countTurnedUptoRow : OpenClaim := { program := "ytmlpgfmbhpefmaa", sum := "0e1b1e09023a09cdf1ee4c0f8402c71b0e3e6d1f7e63bf2c8830756da195efb4", func := "foreshore/foreshorelaw01.CountTurned", spec := "countTurned", unfollowed := true, recurses := true, plainKeys := false, apart := false, narrowed := true }
def CountTurnedUptoSaid : Prop := countTurnedUptoRow.holds Try.pinned (OpenSpec.upto countTurnedSpec)

/-- 'foreshorelaw01.CountParts', WHERE WHAT IT READS IS OF BULK AT MOST 1048576: true; the input reads as it did. -/
def countPartsUptoRow : OpenClaim := { program := "ytmlpgfmbhpefmaa", sum := "0e1b1e09023a09cdf1ee4c0f8402c71b0e3e6d1f7e63bf2c8830756da195efb4", func := "foreshore/foreshorelaw01.CountParts", spec := "countParts", unfollowed := true, recurses := true, plainKeys := false, apart := false, narrowed := true }
def CountPartsUptoSaid : Prop := countPartsUptoRow.holds Try.pinned (OpenSpec.upto countPartsSpec)

/-- 'foreshorelaw01.CountWider', WHERE WHAT IT READS IS OF BULK AT MOST 1048576: true; the input reads as it did. -/
def countWiderUptoRow : OpenClaim := { program := "ytmlpgfmbhpefmaa", sum := "0e1b1e09023a09cdf1ee4c0f8402c71b0e3e6d1f7e63bf2c8830756da195efb4", func := "foreshore/foreshorelaw01.CountWider", spec := "countWider", unfollowed := true, recurses := true, plainKeys := false, apart := false, narrowed := true }
def CountWiderUptoSaid : Prop := countWiderUptoRow.holds Try.pinned (OpenSpec.upto countWiderSpec)

/-- 'foreshorelaw01.CountExact', WHERE WHAT IT READS IS OF BULK AT MOST 1048576: true; the input reads as it did. -/
def countExactUptoRow : OpenClaim := { program := "ytmlpgfmbhpefmaa", sum := "0e1b1e09023a09cdf1ee4c0f8402c71b0e3e6d1f7e63bf2c8830756da195efb4", func := "foreshore/foreshorelaw01.CountExact", spec := "countExact", unfollowed := true, recurses := true, plainKeys := false, apart := false, narrowed := true }
def CountExactUptoSaid : Prop := countExactUptoRow.holds Try.pinned (OpenSpec.upto countExactSpec)

/-- 'foreshorelaw01.CountLooked', WHERE WHAT IT READS IS OF BULK AT MOST 1048576: true; the input reads as it did. -/
def countLookedUptoRow : OpenClaim := { program := "ytmlpgfmbhpefmaa", sum := "0e1b1e09023a09cdf1ee4c0f8402c71b0e3e6d1f7e63bf2c8830756da195efb4", func := "foreshore/foreshorelaw01.CountLooked", spec := "countLooked", unfollowed := true, recurses := true, plainKeys := false, apart := false, narrowed := true }
def CountLookedUptoSaid : Prop := countLookedUptoRow.holds Try.pinned (OpenSpec.upto countLookedSpec)

/-- 'foreshorelaw01.CountNothing', WHERE WHAT IT READS IS OF BULK AT MOST 1048576: true; the input reads as it did. -/
def countNothingUptoRow : OpenClaim := { program := "ytmlpgfmbhpefmaa", sum := "0e1b1e09023a09cdf1ee4c0f8402c71b0e3e6d1f7e63bf2c8830756da195efb4", func := "foreshore/foreshorelaw01.CountNothing", spec := "countNothing", unfollowed := true, recurses := true, plainKeys := false, apart := false, narrowed := true }
def CountNothingUptoSaid : Prop := countNothingUptoRow.holds Try.pinned (OpenSpec.upto countNothingSpec)

end Rows
end Go.Proofs.Ytmlpgfmbhpefmaa
