/-
  No cell of these rows narrows 'for every input' (looked for: loops, veiled, ifaces, maps, wideKeys, modest, calm, conditions, laid).
  DERIVED. THE GIVEN ROWS OF THIS SEAT. 17 by the template 'for every input the law returns true; each argument reads behind the call as it read before'; 0 by the template 'total and deterministic' (their statements: YtjgbfnciedkafaaTotals.lean).
  GIVEN WITH THE SEED: the statements are not yours to turn. If you find one false, say at which input.
  Laid BY PROGRAM, IN A SANDBOX (cutbox-rows.mjs): the forced cells as the released guide's own fill.sh prints them over the translation c912d7aa598d5405… (all of the seat's roots in one cut). By AI agents, Wed Nov 11 2026. No macro, syntax, notation, axiom, sorry.
-/
import Derived.Test.YtjgbfnciedkafaaChecked
import GoSem.Claim
import GoSem.ClaimJoined
import GoSem.ClaimMapViews
import Derived.JoinedTies
import Derived.KernelRfl
namespace Go.Proofs.Ytjgbfnciedkafaa
/- THE CELL 'sum', in the pinned program and in every row, IS THE sha256 OF THE DUMP (.gsa) THAT YtjgbfnciedkafaaProg.lean LOADS. Nothing in Lean hashes anything: it is a label: what it is worth is what the hold of that sum in a sandbox is worth. -/
noncomputable def Try.pinned : Pinned := { name := "ytjgbfnciedkafaa", sum := "c912d7aa598d5405d42604fcfd450f0c93b142e27a1529f601f04532a959b30d", checked := Try.checked }
namespace Rows
def none {H : Type} : Left H := { results := [], args := [] }

/-- 'foreshorelaw03.TokenPlays': WHATEVER THE INPUT: true; the input reads as it did. -/
def tokenPlaysSpec : ChangeSpec := { name := "tokenPlays", fn := fun _ => fun
  | [d1, d2] => { results := [.lit (.bool true)], args := [d1, d2] }
  | _ => none }
def tokenPlaysRow : OpenClaim := { program := "ytjgbfnciedkafaa", sum := "c912d7aa598d5405d42604fcfd450f0c93b142e27a1529f601f04532a959b30d", func := "foreshore/foreshorelaw03.TokenPlays", spec := "tokenPlays", unfollowed := true, recurses := true, plainKeys := false, apart := false }
def TokenPlaysSaid : Prop := tokenPlaysRow.holds Try.pinned (OpenSpec.ofChange tokenPlaysSpec)

/-- ITS FALSE NEIGHBOUR: 'it returns false'. Refute it at one input. -/
def tokenPlaysWrong : ChangeSpec := { name := "tokenPlays", fn := fun _ => fun
  | [d1, d2] => { results := [.lit (.bool false)], args := [d1, d2] }
  | _ => none }
def TokenPlaysWrongFalsely : Prop := tokenPlaysRow.holds Try.pinned (OpenSpec.ofChange tokenPlaysWrong)

/-- 'foreshorelaw03.TokenOut': WHATEVER THE INPUT: true; the input reads as it did. -/
def tokenOutSpec : ChangeSpec := { name := "tokenOut", fn := fun _ => fun
  | [d1, d2] => { results := [.lit (.bool true)], args := [d1, d2] }
  | _ => none }
def tokenOutRow : OpenClaim := { program := "ytjgbfnciedkafaa", sum := "c912d7aa598d5405d42604fcfd450f0c93b142e27a1529f601f04532a959b30d", func := "foreshore/foreshorelaw03.TokenOut", spec := "tokenOut", unfollowed := true, recurses := true, plainKeys := false, apart := false }
def TokenOutSaid : Prop := tokenOutRow.holds Try.pinned (OpenSpec.ofChange tokenOutSpec)

/-- ITS FALSE NEIGHBOUR: 'it returns false'. Refute it at one input. -/
def tokenOutWrong : ChangeSpec := { name := "tokenOut", fn := fun _ => fun
  | [d1, d2] => { results := [.lit (.bool false)], args := [d1, d2] }
  | _ => none }
def TokenOutWrongFalsely : Prop := tokenOutRow.holds Try.pinned (OpenSpec.ofChange tokenOutWrong)

/-- 'foreshorelaw03.TokenMoney': WHATEVER THE INPUT: true; the input reads as it did. -/
def tokenMoneySpec : ChangeSpec := { name := "tokenMoney", fn := fun _ => fun
  | [d1, d2] => { results := [.lit (.bool true)], args := [d1, d2] }
  | _ => none }
def tokenMoneyRow : OpenClaim := { program := "ytjgbfnciedkafaa", sum := "c912d7aa598d5405d42604fcfd450f0c93b142e27a1529f601f04532a959b30d", func := "foreshore/foreshorelaw03.TokenMoney", spec := "tokenMoney", unfollowed := true, recurses := true, plainKeys := false, apart := false }
def TokenMoneySaid : Prop := tokenMoneyRow.holds Try.pinned (OpenSpec.ofChange tokenMoneySpec)

/-- ITS FALSE NEIGHBOUR: 'it returns false'. Refute it at one input. -/
def tokenMoneyWrong : ChangeSpec := { name := "tokenMoney", fn := fun _ => fun
  | [d1, d2] => { results := [.lit (.bool false)], args := [d1, d2] }
  | _ => none }
def TokenMoneyWrongFalsely : Prop := tokenMoneyRow.holds Try.pinned (OpenSpec.ofChange tokenMoneyWrong)

/-- 'foreshorelaw03.TokenWas': WHATEVER THE INPUT: true; the input reads as it did. -/
def tokenWasSpec : ChangeSpec := { name := "tokenWas", fn := fun _ => fun
  | [d1, d2] => { results := [.lit (.bool true)], args := [d1, d2] }
  | _ => none }
def tokenWasRow : OpenClaim := { program := "ytjgbfnciedkafaa", sum := "c912d7aa598d5405d42604fcfd450f0c93b142e27a1529f601f04532a959b30d", func := "foreshore/foreshorelaw03.TokenWas", spec := "tokenWas", unfollowed := true, recurses := true, plainKeys := false, apart := false }
def TokenWasSaid : Prop := tokenWasRow.holds Try.pinned (OpenSpec.ofChange tokenWasSpec)

/-- ITS FALSE NEIGHBOUR: 'it returns false'. Refute it at one input. -/
def tokenWasWrong : ChangeSpec := { name := "tokenWas", fn := fun _ => fun
  | [d1, d2] => { results := [.lit (.bool false)], args := [d1, d2] }
  | _ => none }
def TokenWasWrongFalsely : Prop := tokenWasRow.holds Try.pinned (OpenSpec.ofChange tokenWasWrong)

/-- 'foreshorelaw03.TokenLeaves': WHATEVER THE INPUT: true; the input reads as it did. -/
def tokenLeavesSpec : ChangeSpec := { name := "tokenLeaves", fn := fun _ => fun
  | [d] => { results := [.lit (.bool true)], args := [d] }
  | _ => none }
def tokenLeavesRow : OpenClaim := { program := "ytjgbfnciedkafaa", sum := "c912d7aa598d5405d42604fcfd450f0c93b142e27a1529f601f04532a959b30d", func := "foreshore/foreshorelaw03.TokenLeaves", spec := "tokenLeaves", unfollowed := true, recurses := true, plainKeys := false, apart := false }
def TokenLeavesSaid : Prop := tokenLeavesRow.holds Try.pinned (OpenSpec.ofChange tokenLeavesSpec)

/-- ITS FALSE NEIGHBOUR: 'it returns false'. Refute it at one input. -/
def tokenLeavesWrong : ChangeSpec := { name := "tokenLeaves", fn := fun _ => fun
  | [d] => { results := [.lit (.bool false)], args := [d] }
  | _ => none }
def TokenLeavesWrongFalsely : Prop := tokenLeavesRow.holds Try.pinned (OpenSpec.ofChange tokenLeavesWrong)

/-- 'foreshorelaw03.TokenNames': WHATEVER THE INPUT: true; the input reads as it did. -/
def tokenNamesSpec : ChangeSpec := { name := "tokenNames", fn := fun _ => fun
  | [] => { results := [.lit (.bool true)], args := [] }
  | _ => none }
def tokenNamesRow : OpenClaim := { program := "ytjgbfnciedkafaa", sum := "c912d7aa598d5405d42604fcfd450f0c93b142e27a1529f601f04532a959b30d", func := "foreshore/foreshorelaw03.TokenNames", spec := "tokenNames", unfollowed := true, recurses := true, plainKeys := false, apart := false }
def TokenNamesSaid : Prop := tokenNamesRow.holds Try.pinned (OpenSpec.ofChange tokenNamesSpec)

/-- ITS FALSE NEIGHBOUR: 'it returns false'. Refute it at one input. -/
def tokenNamesWrong : ChangeSpec := { name := "tokenNames", fn := fun _ => fun
  | [] => { results := [.lit (.bool false)], args := [] }
  | _ => none }
def TokenNamesWrongFalsely : Prop := tokenNamesRow.holds Try.pinned (OpenSpec.ofChange tokenNamesWrong)

/-- 'foreshorelaw03.TokenTruth': WHATEVER THE INPUT: true; the input reads as it did. -/
def tokenTruthSpec : ChangeSpec := { name := "tokenTruth", fn := fun _ => fun
  | [d1, d2, d3] => { results := [.lit (.bool true)], args := [d1, d2, d3] }
  | _ => none }
def tokenTruthRow : OpenClaim := { program := "ytjgbfnciedkafaa", sum := "c912d7aa598d5405d42604fcfd450f0c93b142e27a1529f601f04532a959b30d", func := "foreshore/foreshorelaw03.TokenTruth", spec := "tokenTruth", unfollowed := true, recurses := true, plainKeys := false, apart := false }
def TokenTruthSaid : Prop := tokenTruthRow.holds Try.pinned (OpenSpec.ofChange tokenTruthSpec)

/-- ITS FALSE NEIGHBOUR: 'it returns false'. Refute it at one input. -/
def tokenTruthWrong : ChangeSpec := { name := "tokenTruth", fn := fun _ => fun
  | [d1, d2, d3] => { results := [.lit (.bool false)], args := [d1, d2, d3] }
  | _ => none }
def TokenTruthWrongFalsely : Prop := tokenTruthRow.holds Try.pinned (OpenSpec.ofChange tokenTruthWrong)

/-- 'foreshorelaw03.TokenEnds': WHATEVER THE INPUT: true; the input reads as it did. -/
def tokenEndsSpec : ChangeSpec := { name := "tokenEnds", fn := fun _ => fun
  | [d1, d2] => { results := [.lit (.bool true)], args := [d1, d2] }
  | _ => none }
def tokenEndsRow : OpenClaim := { program := "ytjgbfnciedkafaa", sum := "c912d7aa598d5405d42604fcfd450f0c93b142e27a1529f601f04532a959b30d", func := "foreshore/foreshorelaw03.TokenEnds", spec := "tokenEnds", unfollowed := true, recurses := true, plainKeys := false, apart := false }
def TokenEndsSaid : Prop := tokenEndsRow.holds Try.pinned (OpenSpec.ofChange tokenEndsSpec)

/-- ITS FALSE NEIGHBOUR: 'it returns false'. Refute it at one input. -/
def tokenEndsWrong : ChangeSpec := { name := "tokenEnds", fn := fun _ => fun
  | [d1, d2] => { results := [.lit (.bool false)], args := [d1, d2] }
  | _ => none }
def TokenEndsWrongFalsely : Prop := tokenEndsRow.holds Try.pinned (OpenSpec.ofChange tokenEndsWrong)

/-- 'foreshorelaw03.TokenTwice': WHATEVER THE INPUT: true; the input reads as it did. -/
def tokenTwiceSpec : ChangeSpec := { name := "tokenTwice", fn := fun _ => fun
  | [d1, d2] => { results := [.lit (.bool true)], args := [d1, d2] }
  | _ => none }
def tokenTwiceRow : OpenClaim := { program := "ytjgbfnciedkafaa", sum := "c912d7aa598d5405d42604fcfd450f0c93b142e27a1529f601f04532a959b30d", func := "foreshore/foreshorelaw03.TokenTwice", spec := "tokenTwice", unfollowed := true, recurses := true, plainKeys := false, apart := false }
def TokenTwiceSaid : Prop := tokenTwiceRow.holds Try.pinned (OpenSpec.ofChange tokenTwiceSpec)

/-- ITS FALSE NEIGHBOUR: 'it returns false'. Refute it at one input. -/
def tokenTwiceWrong : ChangeSpec := { name := "tokenTwice", fn := fun _ => fun
  | [d1, d2] => { results := [.lit (.bool false)], args := [d1, d2] }
  | _ => none }
def TokenTwiceWrongFalsely : Prop := tokenTwiceRow.holds Try.pinned (OpenSpec.ofChange tokenTwiceWrong)

/-- 'foreshorelaw03.TokenReadable': WHATEVER THE INPUT: true; the input reads as it did. -/
def tokenReadableSpec : ChangeSpec := { name := "tokenReadable", fn := fun _ => fun
  | [d1, d2, d3] => { results := [.lit (.bool true)], args := [d1, d2, d3] }
  | _ => none }
def tokenReadableRow : OpenClaim := { program := "ytjgbfnciedkafaa", sum := "c912d7aa598d5405d42604fcfd450f0c93b142e27a1529f601f04532a959b30d", func := "foreshore/foreshorelaw03.TokenReadable", spec := "tokenReadable", unfollowed := true, recurses := true, plainKeys := false, apart := false }
def TokenReadableSaid : Prop := tokenReadableRow.holds Try.pinned (OpenSpec.ofChange tokenReadableSpec)

/-- ITS FALSE NEIGHBOUR: 'it returns false'. Refute it at one input. -/
def tokenReadableWrong : ChangeSpec := { name := "tokenReadable", fn := fun _ => fun
  | [d1, d2, d3] => { results := [.lit (.bool false)], args := [d1, d2, d3] }
  | _ => none }
def TokenReadableWrongFalsely : Prop := tokenReadableRow.holds Try.pinned (OpenSpec.ofChange tokenReadableWrong)

/-- 'foreshorelaw03.TokenMore': WHATEVER THE INPUT: true; the input reads as it did. -/
def tokenMoreSpec : ChangeSpec := { name := "tokenMore", fn := fun _ => fun
  | [d1, d2, d3, d4] => { results := [.lit (.bool true)], args := [d1, d2, d3, d4] }
  | _ => none }
def tokenMoreRow : OpenClaim := { program := "ytjgbfnciedkafaa", sum := "c912d7aa598d5405d42604fcfd450f0c93b142e27a1529f601f04532a959b30d", func := "foreshore/foreshorelaw03.TokenMore", spec := "tokenMore", unfollowed := true, recurses := true, plainKeys := false, apart := false }
def TokenMoreSaid : Prop := tokenMoreRow.holds Try.pinned (OpenSpec.ofChange tokenMoreSpec)

/-- ITS FALSE NEIGHBOUR: 'it returns false'. Refute it at one input. -/
def tokenMoreWrong : ChangeSpec := { name := "tokenMore", fn := fun _ => fun
  | [d1, d2, d3, d4] => { results := [.lit (.bool false)], args := [d1, d2, d3, d4] }
  | _ => none }
def TokenMoreWrongFalsely : Prop := tokenMoreRow.holds Try.pinned (OpenSpec.ofChange tokenMoreWrong)

/-- 'foreshorelaw03.TokenRead': WHATEVER THE INPUT: true; the input reads as it did. -/
def tokenReadSpec : ChangeSpec := { name := "tokenRead", fn := fun _ => fun
  | [d1, d2, d3, d4, d5] => { results := [.lit (.bool true)], args := [d1, d2, d3, d4, d5] }
  | _ => none }
def tokenReadRow : OpenClaim := { program := "ytjgbfnciedkafaa", sum := "c912d7aa598d5405d42604fcfd450f0c93b142e27a1529f601f04532a959b30d", func := "foreshore/foreshorelaw03.TokenRead", spec := "tokenRead", unfollowed := true, recurses := true, plainKeys := false, apart := false }
def TokenReadSaid : Prop := tokenReadRow.holds Try.pinned (OpenSpec.ofChange tokenReadSpec)

/-- ITS FALSE NEIGHBOUR: 'it returns false'. Refute it at one input. -/
def tokenReadWrong : ChangeSpec := { name := "tokenRead", fn := fun _ => fun
  | [d1, d2, d3, d4, d5] => { results := [.lit (.bool false)], args := [d1, d2, d3, d4, d5] }
  | _ => none }
def TokenReadWrongFalsely : Prop := tokenReadRow.holds Try.pinned (OpenSpec.ofChange tokenReadWrong)

/-- 'foreshorelaw03.TokenNumbers': WHATEVER THE INPUT: true; the input reads as it did. -/
def tokenNumbersSpec : ChangeSpec := { name := "tokenNumbers", fn := fun _ => fun
  | [d1, d2, d3, d4] => { results := [.lit (.bool true)], args := [d1, d2, d3, d4] }
  | _ => none }
def tokenNumbersRow : OpenClaim := { program := "ytjgbfnciedkafaa", sum := "c912d7aa598d5405d42604fcfd450f0c93b142e27a1529f601f04532a959b30d", func := "foreshore/foreshorelaw03.TokenNumbers", spec := "tokenNumbers", unfollowed := true, recurses := true, plainKeys := false, apart := false }
def TokenNumbersSaid : Prop := tokenNumbersRow.holds Try.pinned (OpenSpec.ofChange tokenNumbersSpec)

/-- ITS FALSE NEIGHBOUR: 'it returns false'. Refute it at one input. -/
def tokenNumbersWrong : ChangeSpec := { name := "tokenNumbers", fn := fun _ => fun
  | [d1, d2, d3, d4] => { results := [.lit (.bool false)], args := [d1, d2, d3, d4] }
  | _ => none }
def TokenNumbersWrongFalsely : Prop := tokenNumbersRow.holds Try.pinned (OpenSpec.ofChange tokenNumbersWrong)

/-- 'foreshorelaw03.TokenFirst': WHATEVER THE INPUT: true; the input reads as it did. -/
def tokenFirstSpec : ChangeSpec := { name := "tokenFirst", fn := fun _ => fun
  | [d] => { results := [.lit (.bool true)], args := [d] }
  | _ => none }
def tokenFirstRow : OpenClaim := { program := "ytjgbfnciedkafaa", sum := "c912d7aa598d5405d42604fcfd450f0c93b142e27a1529f601f04532a959b30d", func := "foreshore/foreshorelaw03.TokenFirst", spec := "tokenFirst", unfollowed := true, recurses := true, plainKeys := false, apart := false }
def TokenFirstSaid : Prop := tokenFirstRow.holds Try.pinned (OpenSpec.ofChange tokenFirstSpec)

/-- ITS FALSE NEIGHBOUR: 'it returns false'. Refute it at one input. -/
def tokenFirstWrong : ChangeSpec := { name := "tokenFirst", fn := fun _ => fun
  | [d] => { results := [.lit (.bool false)], args := [d] }
  | _ => none }
def TokenFirstWrongFalsely : Prop := tokenFirstRow.holds Try.pinned (OpenSpec.ofChange tokenFirstWrong)

/-- 'foreshorelaw03.TokenLeft': WHATEVER THE INPUT: true; the input reads as it did. -/
def tokenLeftSpec : ChangeSpec := { name := "tokenLeft", fn := fun _ => fun
  | [d1, d2] => { results := [.lit (.bool true)], args := [d1, d2] }
  | _ => none }
def tokenLeftRow : OpenClaim := { program := "ytjgbfnciedkafaa", sum := "c912d7aa598d5405d42604fcfd450f0c93b142e27a1529f601f04532a959b30d", func := "foreshore/foreshorelaw03.TokenLeft", spec := "tokenLeft", unfollowed := true, recurses := true, plainKeys := false, apart := false }
def TokenLeftSaid : Prop := tokenLeftRow.holds Try.pinned (OpenSpec.ofChange tokenLeftSpec)

/-- ITS FALSE NEIGHBOUR: 'it returns false'. Refute it at one input. -/
def tokenLeftWrong : ChangeSpec := { name := "tokenLeft", fn := fun _ => fun
  | [d1, d2] => { results := [.lit (.bool false)], args := [d1, d2] }
  | _ => none }
def TokenLeftWrongFalsely : Prop := tokenLeftRow.holds Try.pinned (OpenSpec.ofChange tokenLeftWrong)

/-- 'foreshorelaw03.TokenEnd': WHATEVER THE INPUT: true; the input reads as it did. -/
def tokenEndSpec : ChangeSpec := { name := "tokenEnd", fn := fun _ => fun
  | [d1, d2, d3, d4] => { results := [.lit (.bool true)], args := [d1, d2, d3, d4] }
  | _ => none }
def tokenEndRow : OpenClaim := { program := "ytjgbfnciedkafaa", sum := "c912d7aa598d5405d42604fcfd450f0c93b142e27a1529f601f04532a959b30d", func := "foreshore/foreshorelaw03.TokenEnd", spec := "tokenEnd", unfollowed := true, recurses := true, plainKeys := false, apart := false }
def TokenEndSaid : Prop := tokenEndRow.holds Try.pinned (OpenSpec.ofChange tokenEndSpec)

/-- ITS FALSE NEIGHBOUR: 'it returns false'. Refute it at one input. -/
def tokenEndWrong : ChangeSpec := { name := "tokenEnd", fn := fun _ => fun
  | [d1, d2, d3, d4] => { results := [.lit (.bool false)], args := [d1, d2, d3, d4] }
  | _ => none }
def TokenEndWrongFalsely : Prop := tokenEndRow.holds Try.pinned (OpenSpec.ofChange tokenEndWrong)

/-- 'foreshoretop.TopStand': WHATEVER THE INPUT: true; the input reads as it did. -/
def topStandSpec : ChangeSpec := { name := "topStand", fn := fun _ => fun
  | [d1, d2, d3] => { results := [.lit (.bool true)], args := [d1, d2, d3] }
  | _ => none }
def topStandRow : OpenClaim := { program := "ytjgbfnciedkafaa", sum := "c912d7aa598d5405d42604fcfd450f0c93b142e27a1529f601f04532a959b30d", func := "foreshore/foreshoretop.TopStand", spec := "topStand", unfollowed := true, recurses := true, plainKeys := false, apart := false }
def TopStandSaid : Prop := topStandRow.holds Try.pinned (OpenSpec.ofChange topStandSpec)

/-- ITS FALSE NEIGHBOUR: 'it returns false'. Refute it at one input. -/
def topStandWrong : ChangeSpec := { name := "topStand", fn := fun _ => fun
  | [d1, d2, d3] => { results := [.lit (.bool false)], args := [d1, d2, d3] }
  | _ => none }
def TopStandWrongFalsely : Prop := topStandRow.holds Try.pinned (OpenSpec.ofChange topStandWrong)

/- THE SECOND FORM. 'bulk': how many values and letters a reading holds, each counted each time it is reached (what is shared counts as often as it is met; a slice's spare places count too). A statement '..UptoSaid' is the law's where the arguments, and the package variables that the reading takes, are together of bulk at most 1048576: NARROWER than '..Said'. Prove '..Said' where nothing that the law and all that it calls make is longer than what came in: it says more and counts as full. Else prove '..UptoSaid'. A law counts once. -/
mutual
def uptoBulk {H : Type} : DataW H → Nat
  | .lit (.string bytes) => bytes.length + 1
  | .lit _ => 1
  | .nil => 1
  | .ptr d => uptoBulk d + 1
  | .slice elems spare => uptoBulkAll elems + uptoBulkAll spare + 1
  | .agg parts => uptoBulkAll parts + 1
  | .iface _ d => uptoBulk d + 1
  | .map entries => uptoBulkEntries entries + 1
  | .held _ => 1
def uptoBulkAll {H : Type} : List (DataW H) → Nat
  | [] => 0
  | d :: r => uptoBulk d + uptoBulkAll r
def uptoBulkEntries {H : Type} : List (Lit × DataW H) → Nat
  | [] => 0
  | x :: r => uptoBulkEntry x + uptoBulkEntries r
def uptoBulkEntry {H : Type} : Lit × DataW H → Nat
  | (.string bytes, d) => bytes.length + uptoBulk d + 1
  | (_, d) => uptoBulk d + 1
 end
def uptoSmall : (H : Type) → List (DataW H) → Bool := fun _ ds => decide (uptoBulkAll ds ≤ 1048576)
def OpenSpec.upto (s : _root_.Go.ChangeSpec) : _root_.Go.OpenSpec := { _root_.Go.OpenSpec.ofChange s with cond := some uptoSmall }

/-- 'foreshorelaw03.TokenPlays', WHERE WHAT IT READS IS OF BULK AT MOST 1048576: true; the input reads as it did. -/
def tokenPlaysUptoRow : OpenClaim := { program := "ytjgbfnciedkafaa", sum := "c912d7aa598d5405d42604fcfd450f0c93b142e27a1529f601f04532a959b30d", func := "foreshore/foreshorelaw03.TokenPlays", spec := "tokenPlays", unfollowed := true, recurses := true, plainKeys := false, apart := false, narrowed := true }
def TokenPlaysUptoSaid : Prop := tokenPlaysUptoRow.holds Try.pinned (OpenSpec.upto tokenPlaysSpec)

/-- 'foreshorelaw03.TokenOut', WHERE WHAT IT READS IS OF BULK AT MOST 1048576: true; the input reads as it did. -/
def tokenOutUptoRow : OpenClaim := { program := "ytjgbfnciedkafaa", sum := "c912d7aa598d5405d42604fcfd450f0c93b142e27a1529f601f04532a959b30d", func := "foreshore/foreshorelaw03.TokenOut", spec := "tokenOut", unfollowed := true, recurses := true, plainKeys := false, apart := false, narrowed := true }
def TokenOutUptoSaid : Prop := tokenOutUptoRow.holds Try.pinned (OpenSpec.upto tokenOutSpec)

/-- 'foreshorelaw03.TokenMoney', WHERE WHAT IT READS IS OF BULK AT MOST 1048576: true; the input reads as it did. -/
def tokenMoneyUptoRow : OpenClaim := { program := "ytjgbfnciedkafaa", sum := "c912d7aa598d5405d42604fcfd450f0c93b142e27a1529f601f04532a959b30d", func := "foreshore/foreshorelaw03.TokenMoney", spec := "tokenMoney", unfollowed := true, recurses := true, plainKeys := false, apart := false, narrowed := true }
def TokenMoneyUptoSaid : Prop := tokenMoneyUptoRow.holds Try.pinned (OpenSpec.upto tokenMoneySpec)

/-- 'foreshorelaw03.TokenWas', WHERE WHAT IT READS IS OF BULK AT MOST 1048576: true; the input reads as it did. -/
def tokenWasUptoRow : OpenClaim := { program := "ytjgbfnciedkafaa", sum := "c912d7aa598d5405d42604fcfd450f0c93b142e27a1529f601f04532a959b30d", func := "foreshore/foreshorelaw03.TokenWas", spec := "tokenWas", unfollowed := true, recurses := true, plainKeys := false, apart := false, narrowed := true }
def TokenWasUptoSaid : Prop := tokenWasUptoRow.holds Try.pinned (OpenSpec.upto tokenWasSpec)

/-- 'foreshorelaw03.TokenLeaves', WHERE WHAT IT READS IS OF BULK AT MOST 1048576: true; the input reads as it did. -/
def tokenLeavesUptoRow : OpenClaim := { program := "ytjgbfnciedkafaa", sum := "c912d7aa598d5405d42604fcfd450f0c93b142e27a1529f601f04532a959b30d", func := "foreshore/foreshorelaw03.TokenLeaves", spec := "tokenLeaves", unfollowed := true, recurses := true, plainKeys := false, apart := false, narrowed := true }
def TokenLeavesUptoSaid : Prop := tokenLeavesUptoRow.holds Try.pinned (OpenSpec.upto tokenLeavesSpec)

/-- 'foreshorelaw03.TokenNames', WHERE WHAT IT READS IS OF BULK AT MOST 1048576: true; the input reads as it did. -/
def tokenNamesUptoRow : OpenClaim := { program := "ytjgbfnciedkafaa", sum := "c912d7aa598d5405d42604fcfd450f0c93b142e27a1529f601f04532a959b30d", func := "foreshore/foreshorelaw03.TokenNames", spec := "tokenNames", unfollowed := true, recurses := true, plainKeys := false, apart := false, narrowed := true }
def TokenNamesUptoSaid : Prop := tokenNamesUptoRow.holds Try.pinned (OpenSpec.upto tokenNamesSpec)

/-- 'foreshorelaw03.TokenTruth', WHERE WHAT IT READS IS OF BULK AT MOST 1048576: true; the input reads as it did. -/
def tokenTruthUptoRow : OpenClaim := { program := "ytjgbfnciedkafaa", sum := "c912d7aa598d5405d42604fcfd450f0c93b142e27a1529f601f04532a959b30d", func := "foreshore/foreshorelaw03.TokenTruth", spec := "tokenTruth", unfollowed := true, recurses := true, plainKeys := false, apart := false, narrowed := true }
def TokenTruthUptoSaid : Prop := tokenTruthUptoRow.holds Try.pinned (OpenSpec.upto tokenTruthSpec)

/-- 'foreshorelaw03.TokenEnds', WHERE WHAT IT READS IS OF BULK AT MOST 1048576: true; the input reads as it did. -/
def tokenEndsUptoRow : OpenClaim := { program := "ytjgbfnciedkafaa", sum := "c912d7aa598d5405d42604fcfd450f0c93b142e27a1529f601f04532a959b30d", func := "foreshore/foreshorelaw03.TokenEnds", spec := "tokenEnds", unfollowed := true, recurses := true, plainKeys := false, apart := false, narrowed := true }
def TokenEndsUptoSaid : Prop := tokenEndsUptoRow.holds Try.pinned (OpenSpec.upto tokenEndsSpec)

/-- 'foreshorelaw03.TokenTwice', WHERE WHAT IT READS IS OF BULK AT MOST 1048576: true; the input reads as it did. -/
def tokenTwiceUptoRow : OpenClaim := { program := "ytjgbfnciedkafaa", sum := "c912d7aa598d5405d42604fcfd450f0c93b142e27a1529f601f04532a959b30d", func := "foreshore/foreshorelaw03.TokenTwice", spec := "tokenTwice", unfollowed := true, recurses := true, plainKeys := false, apart := false, narrowed := true }
def TokenTwiceUptoSaid : Prop := tokenTwiceUptoRow.holds Try.pinned (OpenSpec.upto tokenTwiceSpec)

/-- 'foreshorelaw03.TokenReadable', WHERE WHAT IT READS IS OF BULK AT MOST 1048576: true; the input reads as it did. -/
def tokenReadableUptoRow : OpenClaim := { program := "ytjgbfnciedkafaa", sum := "c912d7aa598d5405d42604fcfd450f0c93b142e27a1529f601f04532a959b30d", func := "foreshore/foreshorelaw03.TokenReadable", spec := "tokenReadable", unfollowed := true, recurses := true, plainKeys := false, apart := false, narrowed := true }
def TokenReadableUptoSaid : Prop := tokenReadableUptoRow.holds Try.pinned (OpenSpec.upto tokenReadableSpec)

/-- 'foreshorelaw03.TokenMore', WHERE WHAT IT READS IS OF BULK AT MOST 1048576: true; the input reads as it did. -/
def tokenMoreUptoRow : OpenClaim := { program := "ytjgbfnciedkafaa", sum := "c912d7aa598d5405d42604fcfd450f0c93b142e27a1529f601f04532a959b30d", func := "foreshore/foreshorelaw03.TokenMore", spec := "tokenMore", unfollowed := true, recurses := true, plainKeys := false, apart := false, narrowed := true }
def TokenMoreUptoSaid : Prop := tokenMoreUptoRow.holds Try.pinned (OpenSpec.upto tokenMoreSpec)

/-- 'foreshorelaw03.TokenRead', WHERE WHAT IT READS IS OF BULK AT MOST 1048576: true; the input reads as it did. -/
def tokenReadUptoRow : OpenClaim := { program := "ytjgbfnciedkafaa", sum := "c912d7aa598d5405d42604fcfd450f0c93b142e27a1529f601f04532a959b30d", func := "foreshore/foreshorelaw03.TokenRead", spec := "tokenRead", unfollowed := true, recurses := true, plainKeys := false, apart := false, narrowed := true }
def TokenReadUptoSaid : Prop := tokenReadUptoRow.holds Try.pinned (OpenSpec.upto tokenReadSpec)

/-- 'foreshorelaw03.TokenNumbers', WHERE WHAT IT READS IS OF BULK AT MOST 1048576: true; the input reads as it did. -/
def tokenNumbersUptoRow : OpenClaim := { program := "ytjgbfnciedkafaa", sum := "c912d7aa598d5405d42604fcfd450f0c93b142e27a1529f601f04532a959b30d", func := "foreshore/foreshorelaw03.TokenNumbers", spec := "tokenNumbers", unfollowed := true, recurses := true, plainKeys := false, apart := false, narrowed := true }
def TokenNumbersUptoSaid : Prop := tokenNumbersUptoRow.holds Try.pinned (OpenSpec.upto tokenNumbersSpec)

/-- 'foreshorelaw03.TokenFirst', WHERE WHAT IT READS IS OF BULK AT MOST 1048576: true; the input reads as it did. -/
def tokenFirstUptoRow : OpenClaim := { program := "ytjgbfnciedkafaa", sum := "c912d7aa598d5405d42604fcfd450f0c93b142e27a1529f601f04532a959b30d", func := "foreshore/foreshorelaw03.TokenFirst", spec := "tokenFirst", unfollowed := true, recurses := true, plainKeys := false, apart := false, narrowed := true }
def TokenFirstUptoSaid : Prop := tokenFirstUptoRow.holds Try.pinned (OpenSpec.upto tokenFirstSpec)

/-- 'foreshorelaw03.TokenLeft', WHERE WHAT IT READS IS OF BULK AT MOST 1048576: true; the input reads as it did. -/
def tokenLeftUptoRow : OpenClaim := { program := "ytjgbfnciedkafaa", sum := "c912d7aa598d5405d42604fcfd450f0c93b142e27a1529f601f04532a959b30d", func := "foreshore/foreshorelaw03.TokenLeft", spec := "tokenLeft", unfollowed := true, recurses := true, plainKeys := false, apart := false, narrowed := true }
def TokenLeftUptoSaid : Prop := tokenLeftUptoRow.holds Try.pinned (OpenSpec.upto tokenLeftSpec)

/-- 'foreshorelaw03.TokenEnd', WHERE WHAT IT READS IS OF BULK AT MOST 1048576: true; the input reads as it did. -/
def tokenEndUptoRow : OpenClaim := { program := "ytjgbfnciedkafaa", sum := "c912d7aa598d5405d42604fcfd450f0c93b142e27a1529f601f04532a959b30d", func := "foreshore/foreshorelaw03.TokenEnd", spec := "tokenEnd", unfollowed := true, recurses := true, plainKeys := false, apart := false, narrowed := true }
def TokenEndUptoSaid : Prop := tokenEndUptoRow.holds Try.pinned (OpenSpec.upto tokenEndSpec)

/-- 'foreshoretop.TopStand', WHERE WHAT IT READS IS OF BULK AT MOST 1048576: true; the input reads as it did. -/
def topStandUptoRow : OpenClaim := { program := "ytjgbfnciedkafaa", sum := "c912d7aa598d5405d42604fcfd450f0c93b142e27a1529f601f04532a959b30d", func := "foreshore/foreshoretop.TopStand", spec := "topStand", unfollowed := true, recurses := true, plainKeys := false, apart := false, narrowed := true }
def TopStandUptoSaid : Prop := topStandUptoRow.holds Try.pinned (OpenSpec.upto topStandSpec)

end Rows
end Go.Proofs.Ytjgbfnciedkafaa
