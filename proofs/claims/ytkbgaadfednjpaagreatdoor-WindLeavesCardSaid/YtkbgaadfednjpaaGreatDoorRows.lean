/-
  NARROWER THAN 'FOR EVERY INPUT', by the rows' own cells (each row's printed sentence says how): WindPlays: laid · WindBounds: laid · WindCalms: laid · WindBest: laid · WindLeaves: laid · WindTruth: laid · WindEnds: laid · WindHours: laid · WindNoBetter: laid · WindBreak: laid · WindBack: laid · WindMore: laid · WindWider: laid · WindMirror: laid · WindFirst: laid · WindLeft: laid.
  DERIVED. THE GIVEN ROWS OF THIS SEAT. 16 by the template 'for every input the law returns true; each argument reads behind the call as it read before'; 0 by the template 'total and deterministic' (their statements: YtkbgaadfednjpaaGreatDoorTotals.lean).
  GIVEN WITH THE SEED: the statements are not yours to turn. If you find one false, say at which input.
  Laid BY PROGRAM, IN A SANDBOX (cutbox-rows.mjs): the forced cells as the released guide's own fill.sh prints them over the translation 79077d015af99f8f… (all of the seat's roots in one cut). By AI agents, Wed Nov 11 2026. No macro, syntax, notation, axiom, sorry.
-/
import Derived.Test.YtkbgaadfednjpaaGreatDoorChecked
import GoSem.Claim
import GoSem.ClaimJoined
import GoSem.ClaimMapViews
import Derived.JoinedTies
import Derived.KernelRfl
namespace Go.Proofs.YtkbgaadfednjpaaGreatDoor
/- THE CELL 'sum', in the pinned program and in every row, IS THE sha256 OF THE DUMP (.gsa) THAT YtkbgaadfednjpaaGreatDoorProg.lean LOADS. Nothing in Lean hashes anything: it is a label: what it is worth is what the hold of that sum in a sandbox is worth. -/
noncomputable def Tryz.pinned : Pinned := { name := "ytkbgaadfednjpaagreatdoor", sum := "79077d015af99f8fb2f5983bd0172158a1b3f889bbdf98776c37890eb61ab795", checked := Tryz.checked }
namespace Rows
def none {H : Type} : Left H := { results := [], args := [] }

/- WHAT THE LISTED PACKAGE-LEVEL VARIABLES READ AS WHEN THE CALL BEGINS. Each datum BY PROGRAM (the guide's laid-datum.mjs) off the statement by which the dump's own 'gosem.cut.vars' lays the variable. In a bare row this is a premise. The card (YtkbgaadfednjpaaGreatDoorCards.lean) ties it to the program's text. -/
def laid_foreshore_wind_ahead {H : Type} : DataW H := .agg [.agg [.lit (.int .i64 (-1)), .lit (.int .i64 0)], .agg [.lit (.int .i64 0), .lit (.int .i64 1)], .agg [.lit (.int .i64 1), .lit (.int .i64 0)], .agg [.lit (.int .i64 0), .lit (.int .i64 (-1))]]

/-- 'foreshorelaw04.WindPlays': WHATEVER THE INPUT: true; the input reads as it did. -/
def windPlaysSpec : ChangeSpec := { name := "windPlays", fn := fun _ => fun
  | [d1, d2, d3] => { results := [.lit (.bool true)], args := [d1, d2, d3] }
  | _ => none }
def windPlaysRow : OpenClaim := { program := "ytkbgaadfednjpaagreatdoor", sum := "79077d015af99f8fb2f5983bd0172158a1b3f889bbdf98776c37890eb61ab795", func := "foreshore/foreshorelaw04.WindPlays", spec := "windPlays", unfollowed := true, recurses := true, named := ["foreshore/wind.ahead"], plainKeys := false, apart := false, laid := [("foreshore/wind.ahead", laid_foreshore_wind_ahead)] }
def WindPlaysSaid : Prop := windPlaysRow.holds Tryz.pinned (OpenSpec.ofChange windPlaysSpec)

/-- ITS FALSE NEIGHBOUR: 'it returns false'. Refute it at one input. -/
def windPlaysWrong : ChangeSpec := { name := "windPlays", fn := fun _ => fun
  | [d1, d2, d3] => { results := [.lit (.bool false)], args := [d1, d2, d3] }
  | _ => none }
def WindPlaysWrongFalsely : Prop := windPlaysRow.holds Tryz.pinned (OpenSpec.ofChange windPlaysWrong)

/-- 'foreshorelaw04.WindBounds': WHATEVER THE INPUT: true; the input reads as it did. -/
def windBoundsSpec : ChangeSpec := { name := "windBounds", fn := fun _ => fun
  | [d1, d2] => { results := [.lit (.bool true)], args := [d1, d2] }
  | _ => none }
def windBoundsRow : OpenClaim := { program := "ytkbgaadfednjpaagreatdoor", sum := "79077d015af99f8fb2f5983bd0172158a1b3f889bbdf98776c37890eb61ab795", func := "foreshore/foreshorelaw04.WindBounds", spec := "windBounds", unfollowed := true, recurses := true, named := ["foreshore/wind.ahead"], plainKeys := false, apart := false, laid := [("foreshore/wind.ahead", laid_foreshore_wind_ahead)] }
def WindBoundsSaid : Prop := windBoundsRow.holds Tryz.pinned (OpenSpec.ofChange windBoundsSpec)

/-- ITS FALSE NEIGHBOUR: 'it returns false'. Refute it at one input. -/
def windBoundsWrong : ChangeSpec := { name := "windBounds", fn := fun _ => fun
  | [d1, d2] => { results := [.lit (.bool false)], args := [d1, d2] }
  | _ => none }
def WindBoundsWrongFalsely : Prop := windBoundsRow.holds Tryz.pinned (OpenSpec.ofChange windBoundsWrong)

/-- 'foreshorelaw04.WindCalms': WHATEVER THE INPUT: true; the input reads as it did. -/
def windCalmsSpec : ChangeSpec := { name := "windCalms", fn := fun _ => fun
  | [d1, d2, d3, d4] => { results := [.lit (.bool true)], args := [d1, d2, d3, d4] }
  | _ => none }
def windCalmsRow : OpenClaim := { program := "ytkbgaadfednjpaagreatdoor", sum := "79077d015af99f8fb2f5983bd0172158a1b3f889bbdf98776c37890eb61ab795", func := "foreshore/foreshorelaw04.WindCalms", spec := "windCalms", unfollowed := true, recurses := true, named := ["foreshore/wind.ahead"], plainKeys := false, apart := false, laid := [("foreshore/wind.ahead", laid_foreshore_wind_ahead)] }
def WindCalmsSaid : Prop := windCalmsRow.holds Tryz.pinned (OpenSpec.ofChange windCalmsSpec)

/-- ITS FALSE NEIGHBOUR: 'it returns false'. Refute it at one input. -/
def windCalmsWrong : ChangeSpec := { name := "windCalms", fn := fun _ => fun
  | [d1, d2, d3, d4] => { results := [.lit (.bool false)], args := [d1, d2, d3, d4] }
  | _ => none }
def WindCalmsWrongFalsely : Prop := windCalmsRow.holds Tryz.pinned (OpenSpec.ofChange windCalmsWrong)

/-- 'foreshorelaw04.WindBest': WHATEVER THE INPUT: true; the input reads as it did. -/
def windBestSpec : ChangeSpec := { name := "windBest", fn := fun _ => fun
  | [d1, d2, d3, d4] => { results := [.lit (.bool true)], args := [d1, d2, d3, d4] }
  | _ => none }
def windBestRow : OpenClaim := { program := "ytkbgaadfednjpaagreatdoor", sum := "79077d015af99f8fb2f5983bd0172158a1b3f889bbdf98776c37890eb61ab795", func := "foreshore/foreshorelaw04.WindBest", spec := "windBest", unfollowed := true, recurses := true, named := ["foreshore/wind.ahead"], plainKeys := false, apart := false, laid := [("foreshore/wind.ahead", laid_foreshore_wind_ahead)] }
def WindBestSaid : Prop := windBestRow.holds Tryz.pinned (OpenSpec.ofChange windBestSpec)

/-- ITS FALSE NEIGHBOUR: 'it returns false'. Refute it at one input. -/
def windBestWrong : ChangeSpec := { name := "windBest", fn := fun _ => fun
  | [d1, d2, d3, d4] => { results := [.lit (.bool false)], args := [d1, d2, d3, d4] }
  | _ => none }
def WindBestWrongFalsely : Prop := windBestRow.holds Tryz.pinned (OpenSpec.ofChange windBestWrong)

/-- 'foreshorelaw04.WindLeaves': WHATEVER THE INPUT: true; the input reads as it did. -/
def windLeavesSpec : ChangeSpec := { name := "windLeaves", fn := fun _ => fun
  | [d] => { results := [.lit (.bool true)], args := [d] }
  | _ => none }
def windLeavesRow : OpenClaim := { program := "ytkbgaadfednjpaagreatdoor", sum := "79077d015af99f8fb2f5983bd0172158a1b3f889bbdf98776c37890eb61ab795", func := "foreshore/foreshorelaw04.WindLeaves", spec := "windLeaves", unfollowed := true, recurses := true, named := ["foreshore/wind.ahead"], plainKeys := false, apart := false, laid := [("foreshore/wind.ahead", laid_foreshore_wind_ahead)] }
def WindLeavesSaid : Prop := windLeavesRow.holds Tryz.pinned (OpenSpec.ofChange windLeavesSpec)

/-- ITS FALSE NEIGHBOUR: 'it returns false'. Refute it at one input. -/
def windLeavesWrong : ChangeSpec := { name := "windLeaves", fn := fun _ => fun
  | [d] => { results := [.lit (.bool false)], args := [d] }
  | _ => none }
def WindLeavesWrongFalsely : Prop := windLeavesRow.holds Tryz.pinned (OpenSpec.ofChange windLeavesWrong)

/-- 'foreshorelaw04.WindTruth': WHATEVER THE INPUT: true; the input reads as it did. -/
def windTruthSpec : ChangeSpec := { name := "windTruth", fn := fun _ => fun
  | [d1, d2, d3] => { results := [.lit (.bool true)], args := [d1, d2, d3] }
  | _ => none }
def windTruthRow : OpenClaim := { program := "ytkbgaadfednjpaagreatdoor", sum := "79077d015af99f8fb2f5983bd0172158a1b3f889bbdf98776c37890eb61ab795", func := "foreshore/foreshorelaw04.WindTruth", spec := "windTruth", unfollowed := true, recurses := true, named := ["foreshore/wind.ahead"], plainKeys := false, apart := false, laid := [("foreshore/wind.ahead", laid_foreshore_wind_ahead)] }
def WindTruthSaid : Prop := windTruthRow.holds Tryz.pinned (OpenSpec.ofChange windTruthSpec)

/-- ITS FALSE NEIGHBOUR: 'it returns false'. Refute it at one input. -/
def windTruthWrong : ChangeSpec := { name := "windTruth", fn := fun _ => fun
  | [d1, d2, d3] => { results := [.lit (.bool false)], args := [d1, d2, d3] }
  | _ => none }
def WindTruthWrongFalsely : Prop := windTruthRow.holds Tryz.pinned (OpenSpec.ofChange windTruthWrong)

/-- 'foreshorelaw04.WindEnds': WHATEVER THE INPUT: true; the input reads as it did. -/
def windEndsSpec : ChangeSpec := { name := "windEnds", fn := fun _ => fun
  | [d1, d2, d3, d4] => { results := [.lit (.bool true)], args := [d1, d2, d3, d4] }
  | _ => none }
def windEndsRow : OpenClaim := { program := "ytkbgaadfednjpaagreatdoor", sum := "79077d015af99f8fb2f5983bd0172158a1b3f889bbdf98776c37890eb61ab795", func := "foreshore/foreshorelaw04.WindEnds", spec := "windEnds", unfollowed := true, recurses := true, named := ["foreshore/wind.ahead"], plainKeys := false, apart := false, laid := [("foreshore/wind.ahead", laid_foreshore_wind_ahead)] }
def WindEndsSaid : Prop := windEndsRow.holds Tryz.pinned (OpenSpec.ofChange windEndsSpec)

/-- ITS FALSE NEIGHBOUR: 'it returns false'. Refute it at one input. -/
def windEndsWrong : ChangeSpec := { name := "windEnds", fn := fun _ => fun
  | [d1, d2, d3, d4] => { results := [.lit (.bool false)], args := [d1, d2, d3, d4] }
  | _ => none }
def WindEndsWrongFalsely : Prop := windEndsRow.holds Tryz.pinned (OpenSpec.ofChange windEndsWrong)

/-- 'foreshorelaw04.WindHours': WHATEVER THE INPUT: true; the input reads as it did. -/
def windHoursSpec : ChangeSpec := { name := "windHours", fn := fun _ => fun
  | [d1, d2] => { results := [.lit (.bool true)], args := [d1, d2] }
  | _ => none }
def windHoursRow : OpenClaim := { program := "ytkbgaadfednjpaagreatdoor", sum := "79077d015af99f8fb2f5983bd0172158a1b3f889bbdf98776c37890eb61ab795", func := "foreshore/foreshorelaw04.WindHours", spec := "windHours", unfollowed := true, recurses := true, named := ["foreshore/wind.ahead"], plainKeys := false, apart := false, laid := [("foreshore/wind.ahead", laid_foreshore_wind_ahead)] }
def WindHoursSaid : Prop := windHoursRow.holds Tryz.pinned (OpenSpec.ofChange windHoursSpec)

/-- ITS FALSE NEIGHBOUR: 'it returns false'. Refute it at one input. -/
def windHoursWrong : ChangeSpec := { name := "windHours", fn := fun _ => fun
  | [d1, d2] => { results := [.lit (.bool false)], args := [d1, d2] }
  | _ => none }
def WindHoursWrongFalsely : Prop := windHoursRow.holds Tryz.pinned (OpenSpec.ofChange windHoursWrong)

/-- 'foreshorelaw04.WindNoBetter': WHATEVER THE INPUT: true; the input reads as it did. -/
def windNoBetterSpec : ChangeSpec := { name := "windNoBetter", fn := fun _ => fun
  | [d1, d2, d3, d4] => { results := [.lit (.bool true)], args := [d1, d2, d3, d4] }
  | _ => none }
def windNoBetterRow : OpenClaim := { program := "ytkbgaadfednjpaagreatdoor", sum := "79077d015af99f8fb2f5983bd0172158a1b3f889bbdf98776c37890eb61ab795", func := "foreshore/foreshorelaw04.WindNoBetter", spec := "windNoBetter", unfollowed := true, recurses := true, named := ["foreshore/wind.ahead"], plainKeys := false, apart := false, laid := [("foreshore/wind.ahead", laid_foreshore_wind_ahead)] }
def WindNoBetterSaid : Prop := windNoBetterRow.holds Tryz.pinned (OpenSpec.ofChange windNoBetterSpec)

/-- ITS FALSE NEIGHBOUR: 'it returns false'. Refute it at one input. -/
def windNoBetterWrong : ChangeSpec := { name := "windNoBetter", fn := fun _ => fun
  | [d1, d2, d3, d4] => { results := [.lit (.bool false)], args := [d1, d2, d3, d4] }
  | _ => none }
def WindNoBetterWrongFalsely : Prop := windNoBetterRow.holds Tryz.pinned (OpenSpec.ofChange windNoBetterWrong)

/-- 'foreshorelaw04.WindBreak': WHATEVER THE INPUT: true; the input reads as it did. -/
def windBreakSpec : ChangeSpec := { name := "windBreak", fn := fun _ => fun
  | [d1, d2, d3, d4, d5, d6] => { results := [.lit (.bool true)], args := [d1, d2, d3, d4, d5, d6] }
  | _ => none }
def windBreakRow : OpenClaim := { program := "ytkbgaadfednjpaagreatdoor", sum := "79077d015af99f8fb2f5983bd0172158a1b3f889bbdf98776c37890eb61ab795", func := "foreshore/foreshorelaw04.WindBreak", spec := "windBreak", unfollowed := true, recurses := true, named := ["foreshore/wind.ahead"], plainKeys := false, apart := false, laid := [("foreshore/wind.ahead", laid_foreshore_wind_ahead)] }
def WindBreakSaid : Prop := windBreakRow.holds Tryz.pinned (OpenSpec.ofChange windBreakSpec)

/-- ITS FALSE NEIGHBOUR: 'it returns false'. Refute it at one input. -/
def windBreakWrong : ChangeSpec := { name := "windBreak", fn := fun _ => fun
  | [d1, d2, d3, d4, d5, d6] => { results := [.lit (.bool false)], args := [d1, d2, d3, d4, d5, d6] }
  | _ => none }
def WindBreakWrongFalsely : Prop := windBreakRow.holds Tryz.pinned (OpenSpec.ofChange windBreakWrong)

/-- 'foreshorelaw04.WindBack': WHATEVER THE INPUT: true; the input reads as it did. -/
def windBackSpec : ChangeSpec := { name := "windBack", fn := fun _ => fun
  | [d1, d2, d3] => { results := [.lit (.bool true)], args := [d1, d2, d3] }
  | _ => none }
def windBackRow : OpenClaim := { program := "ytkbgaadfednjpaagreatdoor", sum := "79077d015af99f8fb2f5983bd0172158a1b3f889bbdf98776c37890eb61ab795", func := "foreshore/foreshorelaw04.WindBack", spec := "windBack", unfollowed := true, recurses := true, named := ["foreshore/wind.ahead"], plainKeys := false, apart := false, laid := [("foreshore/wind.ahead", laid_foreshore_wind_ahead)] }
def WindBackSaid : Prop := windBackRow.holds Tryz.pinned (OpenSpec.ofChange windBackSpec)

/-- ITS FALSE NEIGHBOUR: 'it returns false'. Refute it at one input. -/
def windBackWrong : ChangeSpec := { name := "windBack", fn := fun _ => fun
  | [d1, d2, d3] => { results := [.lit (.bool false)], args := [d1, d2, d3] }
  | _ => none }
def WindBackWrongFalsely : Prop := windBackRow.holds Tryz.pinned (OpenSpec.ofChange windBackWrong)

/-- 'foreshorelaw04.WindMore': WHATEVER THE INPUT: true; the input reads as it did. -/
def windMoreSpec : ChangeSpec := { name := "windMore", fn := fun _ => fun
  | [d1, d2, d3, d4, d5] => { results := [.lit (.bool true)], args := [d1, d2, d3, d4, d5] }
  | _ => none }
def windMoreRow : OpenClaim := { program := "ytkbgaadfednjpaagreatdoor", sum := "79077d015af99f8fb2f5983bd0172158a1b3f889bbdf98776c37890eb61ab795", func := "foreshore/foreshorelaw04.WindMore", spec := "windMore", unfollowed := true, recurses := true, named := ["foreshore/wind.ahead"], plainKeys := false, apart := false, laid := [("foreshore/wind.ahead", laid_foreshore_wind_ahead)] }
def WindMoreSaid : Prop := windMoreRow.holds Tryz.pinned (OpenSpec.ofChange windMoreSpec)

/-- ITS FALSE NEIGHBOUR: 'it returns false'. Refute it at one input. -/
def windMoreWrong : ChangeSpec := { name := "windMore", fn := fun _ => fun
  | [d1, d2, d3, d4, d5] => { results := [.lit (.bool false)], args := [d1, d2, d3, d4, d5] }
  | _ => none }
def WindMoreWrongFalsely : Prop := windMoreRow.holds Tryz.pinned (OpenSpec.ofChange windMoreWrong)

/-- 'foreshorelaw04.WindWider': WHATEVER THE INPUT: true; the input reads as it did. -/
def windWiderSpec : ChangeSpec := { name := "windWider", fn := fun _ => fun
  | [d1, d2, d3, d4] => { results := [.lit (.bool true)], args := [d1, d2, d3, d4] }
  | _ => none }
def windWiderRow : OpenClaim := { program := "ytkbgaadfednjpaagreatdoor", sum := "79077d015af99f8fb2f5983bd0172158a1b3f889bbdf98776c37890eb61ab795", func := "foreshore/foreshorelaw04.WindWider", spec := "windWider", unfollowed := true, recurses := true, named := ["foreshore/wind.ahead"], plainKeys := false, apart := false, laid := [("foreshore/wind.ahead", laid_foreshore_wind_ahead)] }
def WindWiderSaid : Prop := windWiderRow.holds Tryz.pinned (OpenSpec.ofChange windWiderSpec)

/-- ITS FALSE NEIGHBOUR: 'it returns false'. Refute it at one input. -/
def windWiderWrong : ChangeSpec := { name := "windWider", fn := fun _ => fun
  | [d1, d2, d3, d4] => { results := [.lit (.bool false)], args := [d1, d2, d3, d4] }
  | _ => none }
def WindWiderWrongFalsely : Prop := windWiderRow.holds Tryz.pinned (OpenSpec.ofChange windWiderWrong)

/-- 'foreshorelaw04.WindMirror': WHATEVER THE INPUT: true; the input reads as it did. -/
def windMirrorSpec : ChangeSpec := { name := "windMirror", fn := fun _ => fun
  | [d1, d2, d3, d4] => { results := [.lit (.bool true)], args := [d1, d2, d3, d4] }
  | _ => none }
def windMirrorRow : OpenClaim := { program := "ytkbgaadfednjpaagreatdoor", sum := "79077d015af99f8fb2f5983bd0172158a1b3f889bbdf98776c37890eb61ab795", func := "foreshore/foreshorelaw04.WindMirror", spec := "windMirror", unfollowed := true, recurses := true, named := ["foreshore/wind.ahead"], plainKeys := false, apart := false, laid := [("foreshore/wind.ahead", laid_foreshore_wind_ahead)] }
def WindMirrorSaid : Prop := windMirrorRow.holds Tryz.pinned (OpenSpec.ofChange windMirrorSpec)

/-- ITS FALSE NEIGHBOUR: 'it returns false'. Refute it at one input. -/
def windMirrorWrong : ChangeSpec := { name := "windMirror", fn := fun _ => fun
  | [d1, d2, d3, d4] => { results := [.lit (.bool false)], args := [d1, d2, d3, d4] }
  | _ => none }
def WindMirrorWrongFalsely : Prop := windMirrorRow.holds Tryz.pinned (OpenSpec.ofChange windMirrorWrong)

/-- 'foreshorelaw04.WindFirst': WHATEVER THE INPUT: true; the input reads as it did. -/
def windFirstSpec : ChangeSpec := { name := "windFirst", fn := fun _ => fun
  | [d] => { results := [.lit (.bool true)], args := [d] }
  | _ => none }
def windFirstRow : OpenClaim := { program := "ytkbgaadfednjpaagreatdoor", sum := "79077d015af99f8fb2f5983bd0172158a1b3f889bbdf98776c37890eb61ab795", func := "foreshore/foreshorelaw04.WindFirst", spec := "windFirst", unfollowed := true, recurses := true, named := ["foreshore/wind.ahead"], plainKeys := false, apart := false, laid := [("foreshore/wind.ahead", laid_foreshore_wind_ahead)] }
def WindFirstSaid : Prop := windFirstRow.holds Tryz.pinned (OpenSpec.ofChange windFirstSpec)

/-- ITS FALSE NEIGHBOUR: 'it returns false'. Refute it at one input. -/
def windFirstWrong : ChangeSpec := { name := "windFirst", fn := fun _ => fun
  | [d] => { results := [.lit (.bool false)], args := [d] }
  | _ => none }
def WindFirstWrongFalsely : Prop := windFirstRow.holds Tryz.pinned (OpenSpec.ofChange windFirstWrong)

/-- 'foreshorelaw04.WindLeft': WHATEVER THE INPUT: true; the input reads as it did. -/
def windLeftSpec : ChangeSpec := { name := "windLeft", fn := fun _ => fun
  | [d1, d2] => { results := [.lit (.bool true)], args := [d1, d2] }
  | _ => none }
def windLeftRow : OpenClaim := { program := "ytkbgaadfednjpaagreatdoor", sum := "79077d015af99f8fb2f5983bd0172158a1b3f889bbdf98776c37890eb61ab795", func := "foreshore/foreshorelaw04.WindLeft", spec := "windLeft", unfollowed := true, recurses := true, named := ["foreshore/wind.ahead"], plainKeys := false, apart := false, laid := [("foreshore/wind.ahead", laid_foreshore_wind_ahead)] }
def WindLeftSaid : Prop := windLeftRow.holds Tryz.pinned (OpenSpec.ofChange windLeftSpec)

/-- ITS FALSE NEIGHBOUR: 'it returns false'. Refute it at one input. -/
def windLeftWrong : ChangeSpec := { name := "windLeft", fn := fun _ => fun
  | [d1, d2] => { results := [.lit (.bool false)], args := [d1, d2] }
  | _ => none }
def WindLeftWrongFalsely : Prop := windLeftRow.holds Tryz.pinned (OpenSpec.ofChange windLeftWrong)

/- THE SECOND FORM. 'bulk': how many values and letters a reading holds, each counted each time it is reached (what is shared counts as often as it is met; a slice's spare places count too). A statement '..UptoSaid' is the law's where the arguments, and the package variables that the reading takes, are together of bulk at most 1048576: NARROWER than '..Said'. Prove '..Said' where nothing that the law and all that it calls make is longer than what came in: it says more and counts as full. Else prove '..UptoSaid'. A law counts once. -/
mutual
def uptoBulk {H : Type} : DataW H → Nat
  | .lit (.string bytes) => bytes.length + 1
  | .lit _ => 1
  | .nil => 1
  | .ptr d => uptoBulk d + 1
  | .slice elems spare => uptoBulkAll elems + uptoBulkAll spare + 1
  | .agg parts => uptoBulkAll parts + 1
  | .iface _ d => uptoBulk d + 1
  | .map entries => uptoBulkEntries entries + 1
  | .held _ => 1
def uptoBulkAll {H : Type} : List (DataW H) → Nat
  | [] => 0
  | d :: r => uptoBulk d + uptoBulkAll r
def uptoBulkEntries {H : Type} : List (Lit × DataW H) → Nat
  | [] => 0
  | x :: r => uptoBulkEntry x + uptoBulkEntries r
def uptoBulkEntry {H : Type} : Lit × DataW H → Nat
  | (.string bytes, d) => bytes.length + uptoBulk d + 1
  | (_, d) => uptoBulk d + 1
 end
def uptoSmall : (H : Type) → List (DataW H) → Bool := fun _ ds => decide (uptoBulkAll ds ≤ 1048576)
def OpenSpec.upto (s : _root_.Go.ChangeSpec) : _root_.Go.OpenSpec := { _root_.Go.OpenSpec.ofChange s with cond := some uptoSmall }

/-- 'foreshorelaw04.WindPlays', WHERE WHAT IT READS IS OF BULK AT MOST 1048576: true; the input reads as it did. -/
def windPlaysUptoRow : OpenClaim := { program := "ytkbgaadfednjpaagreatdoor", sum := "79077d015af99f8fb2f5983bd0172158a1b3f889bbdf98776c37890eb61ab795", func := "foreshore/foreshorelaw04.WindPlays", spec := "windPlays", unfollowed := true, recurses := true, named := ["foreshore/wind.ahead"], plainKeys := false, apart := false, laid := [("foreshore/wind.ahead", laid_foreshore_wind_ahead)], narrowed := true }
def WindPlaysUptoSaid : Prop := windPlaysUptoRow.holds Tryz.pinned (OpenSpec.upto windPlaysSpec)

/-- 'foreshorelaw04.WindBounds', WHERE WHAT IT READS IS OF BULK AT MOST 1048576: true; the input reads as it did. -/
def windBoundsUptoRow : OpenClaim := { program := "ytkbgaadfednjpaagreatdoor", sum := "79077d015af99f8fb2f5983bd0172158a1b3f889bbdf98776c37890eb61ab795", func := "foreshore/foreshorelaw04.WindBounds", spec := "windBounds", unfollowed := true, recurses := true, named := ["foreshore/wind.ahead"], plainKeys := false, apart := false, laid := [("foreshore/wind.ahead", laid_foreshore_wind_ahead)], narrowed := true }
def WindBoundsUptoSaid : Prop := windBoundsUptoRow.holds Tryz.pinned (OpenSpec.upto windBoundsSpec)

/-- 'foreshorelaw04.WindCalms', WHERE WHAT IT READS IS OF BULK AT MOST 1048576: true; the input reads as it did. -/
def windCalmsUptoRow : OpenClaim := { program := "ytkbgaadfednjpaagreatdoor", sum := "79077d015af99f8fb2f5983bd0172158a1b3f889bbdf98776c37890eb61ab795", func := "foreshore/foreshorelaw04.WindCalms", spec := "windCalms", unfollowed := true, recurses := true, named := ["foreshore/wind.ahead"], plainKeys := false, apart := false, laid := [("foreshore/wind.ahead", laid_foreshore_wind_ahead)], narrowed := true }
def WindCalmsUptoSaid : Prop := windCalmsUptoRow.holds Tryz.pinned (OpenSpec.upto windCalmsSpec)

/-- 'foreshorelaw04.WindBest', WHERE WHAT IT READS IS OF BULK AT MOST 1048576: true; the input reads as it did. -/
def windBestUptoRow : OpenClaim := { program := "ytkbgaadfednjpaagreatdoor", sum := "79077d015af99f8fb2f5983bd0172158a1b3f889bbdf98776c37890eb61ab795", func := "foreshore/foreshorelaw04.WindBest", spec := "windBest", unfollowed := true, recurses := true, named := ["foreshore/wind.ahead"], plainKeys := false, apart := false, laid := [("foreshore/wind.ahead", laid_foreshore_wind_ahead)], narrowed := true }
def WindBestUptoSaid : Prop := windBestUptoRow.holds Tryz.pinned (OpenSpec.upto windBestSpec)

/-- 'foreshorelaw04.WindLeaves', WHERE WHAT IT READS IS OF BULK AT MOST 1048576: true; the input reads as it did. -/
def windLeavesUptoRow : OpenClaim := { program := "ytkbgaadfednjpaagreatdoor", sum := "79077d015af99f8fb2f5983bd0172158a1b3f889bbdf98776c37890eb61ab795", func := "foreshore/foreshorelaw04.WindLeaves", spec := "windLeaves", unfollowed := true, recurses := true, named := ["foreshore/wind.ahead"], plainKeys := false, apart := false, laid := [("foreshore/wind.ahead", laid_foreshore_wind_ahead)], narrowed := true }
def WindLeavesUptoSaid : Prop := windLeavesUptoRow.holds Tryz.pinned (OpenSpec.upto windLeavesSpec)

/-- 'foreshorelaw04.WindTruth', WHERE WHAT IT READS IS OF BULK AT MOST 1048576: true; the input reads as it did. -/
def windTruthUptoRow : OpenClaim := { program := "ytkbgaadfednjpaagreatdoor", sum := "79077d015af99f8fb2f5983bd0172158a1b3f889bbdf98776c37890eb61ab795", func := "foreshore/foreshorelaw04.WindTruth", spec := "windTruth", unfollowed := true, recurses := true, named := ["foreshore/wind.ahead"], plainKeys := false, apart := false, laid := [("foreshore/wind.ahead", laid_foreshore_wind_ahead)], narrowed := true }
def WindTruthUptoSaid : Prop := windTruthUptoRow.holds Tryz.pinned (OpenSpec.upto windTruthSpec)

/-- 'foreshorelaw04.WindEnds', WHERE WHAT IT READS IS OF BULK AT MOST 1048576: true; the input reads as it did. -/
def windEndsUptoRow : OpenClaim := { program := "ytkbgaadfednjpaagreatdoor", sum := "79077d015af99f8fb2f5983bd0172158a1b3f889bbdf98776c37890eb61ab795", func := "foreshore/foreshorelaw04.WindEnds", spec := "windEnds", unfollowed := true, recurses := true, named := ["foreshore/wind.ahead"], plainKeys := false, apart := false, laid := [("foreshore/wind.ahead", laid_foreshore_wind_ahead)], narrowed := true }
def WindEndsUptoSaid : Prop := windEndsUptoRow.holds Tryz.pinned (OpenSpec.upto windEndsSpec)

/-- 'foreshorelaw04.WindHours', WHERE WHAT IT READS IS OF BULK AT MOST 1048576: true; the input reads as it did. -/
def windHoursUptoRow : OpenClaim := { program := "ytkbgaadfednjpaagreatdoor", sum := "79077d015af99f8fb2f5983bd0172158a1b3f889bbdf98776c37890eb61ab795", func := "foreshore/foreshorelaw04.WindHours", spec := "windHours", unfollowed := true, recurses := true, named := ["foreshore/wind.ahead"], plainKeys := false, apart := false, laid := [("foreshore/wind.ahead", laid_foreshore_wind_ahead)], narrowed := true }
def WindHoursUptoSaid : Prop := windHoursUptoRow.holds Tryz.pinned (OpenSpec.upto windHoursSpec)

/-- 'foreshorelaw04.WindNoBetter', WHERE WHAT IT READS IS OF BULK AT MOST 1048576: true; the input reads as it did. -/
def windNoBetterUptoRow : OpenClaim := { program := "ytkbgaadfednjpaagreatdoor", sum := "79077d015af99f8fb2f5983bd0172158a1b3f889bbdf98776c37890eb61ab795", func := "foreshore/foreshorelaw04.WindNoBetter", spec := "windNoBetter", unfollowed := true, recurses := true, named := ["foreshore/wind.ahead"], plainKeys := false, apart := false, laid := [("foreshore/wind.ahead", laid_foreshore_wind_ahead)], narrowed := true }
def WindNoBetterUptoSaid : Prop := windNoBetterUptoRow.holds Tryz.pinned (OpenSpec.upto windNoBetterSpec)

/-- 'foreshorelaw04.WindBreak', WHERE WHAT IT READS IS OF BULK AT MOST 1048576: true; the input reads as it did. -/
def windBreakUptoRow : OpenClaim := { program := "ytkbgaadfednjpaagreatdoor", sum := "79077d015af99f8fb2f5983bd0172158a1b3f889bbdf98776c37890eb61ab795", func := "foreshore/foreshorelaw04.WindBreak", spec := "windBreak", unfollowed := true, recurses := true, named := ["foreshore/wind.ahead"], plainKeys := false, apart := false, laid := [("foreshore/wind.ahead", laid_foreshore_wind_ahead)], narrowed := true }
def WindBreakUptoSaid : Prop := windBreakUptoRow.holds Tryz.pinned (OpenSpec.upto windBreakSpec)

/-- 'foreshorelaw04.WindBack', WHERE WHAT IT READS IS OF BULK AT MOST 1048576: true; the input reads as it did. -/
def windBackUptoRow : OpenClaim := { program := "ytkbgaadfednjpaagreatdoor", sum := "79077d015af99f8fb2f5983bd0172158a1b3f889bbdf98776c37890eb61ab795", func := "foreshore/foreshorelaw04.WindBack", spec := "windBack", unfollowed := true, recurses := true, named := ["foreshore/wind.ahead"], plainKeys := false, apart := false, laid := [("foreshore/wind.ahead", laid_foreshore_wind_ahead)], narrowed := true }
def WindBackUptoSaid : Prop := windBackUptoRow.holds Tryz.pinned (OpenSpec.upto windBackSpec)

/-- 'foreshorelaw04.WindMore', WHERE WHAT IT READS IS OF BULK AT MOST 1048576: true; the input reads as it did. -/
def windMoreUptoRow : OpenClaim := { program := "ytkbgaadfednjpaagreatdoor", sum := "79077d015af99f8fb2f5983bd0172158a1b3f889bbdf98776c37890eb61ab795", func := "foreshore/foreshorelaw04.WindMore", spec := "windMore", unfollowed := true, recurses := true, named := ["foreshore/wind.ahead"], plainKeys := false, apart := false, laid := [("foreshore/wind.ahead", laid_foreshore_wind_ahead)], narrowed := true }
def WindMoreUptoSaid : Prop := windMoreUptoRow.holds Tryz.pinned (OpenSpec.upto windMoreSpec)

/-- 'foreshorelaw04.WindWider', WHERE WHAT IT READS IS OF BULK AT MOST 1048576: true; the input reads as it did. -/
def windWiderUptoRow : OpenClaim := { program := "ytkbgaadfednjpaagreatdoor", sum := "79077d015af99f8fb2f5983bd0172158a1b3f889bbdf98776c37890eb61ab795", func := "foreshore/foreshorelaw04.WindWider", spec := "windWider", unfollowed := true, recurses := true, named := ["foreshore/wind.ahead"], plainKeys := false, apart := false, laid := [("foreshore/wind.ahead", laid_foreshore_wind_ahead)], narrowed := true }
def WindWiderUptoSaid : Prop := windWiderUptoRow.holds Tryz.pinned (OpenSpec.upto windWiderSpec)

/-- 'foreshorelaw04.WindMirror', WHERE WHAT IT READS IS OF BULK AT MOST 1048576: true; the input reads as it did. -/
def windMirrorUptoRow : OpenClaim := { program := "ytkbgaadfednjpaagreatdoor", sum := "79077d015af99f8fb2f5983bd0172158a1b3f889bbdf98776c37890eb61ab795", func := "foreshore/foreshorelaw04.WindMirror", spec := "windMirror", unfollowed := true, recurses := true, named := ["foreshore/wind.ahead"], plainKeys := false, apart := false, laid := [("foreshore/wind.ahead", laid_foreshore_wind_ahead)], narrowed := true }
def WindMirrorUptoSaid : Prop := windMirrorUptoRow.holds Tryz.pinned (OpenSpec.upto windMirrorSpec)

/-- 'foreshorelaw04.WindFirst', WHERE WHAT IT READS IS OF BULK AT MOST 1048576: true; the input reads as it did. -/
def windFirstUptoRow : OpenClaim := { program := "ytkbgaadfednjpaagreatdoor", sum := "79077d015af99f8fb2f5983bd0172158a1b3f889bbdf98776c37890eb61ab795", func := "foreshore/foreshorelaw04.WindFirst", spec := "windFirst", unfollowed := true, recurses := true, named := ["foreshore/wind.ahead"], plainKeys := false, apart := false, laid := [("foreshore/wind.ahead", laid_foreshore_wind_ahead)], narrowed := true }
def WindFirstUptoSaid : Prop := windFirstUptoRow.holds Tryz.pinned (OpenSpec.upto windFirstSpec)

/-- 'foreshorelaw04.WindLeft', WHERE WHAT IT READS IS OF BULK AT MOST 1048576: true; the input reads as it did. -/
def windLeftUptoRow : OpenClaim := { program := "ytkbgaadfednjpaagreatdoor", sum := "79077d015af99f8fb2f5983bd0172158a1b3f889bbdf98776c37890eb61ab795", func := "foreshore/foreshorelaw04.WindLeft", spec := "windLeft", unfollowed := true, recurses := true, named := ["foreshore/wind.ahead"], plainKeys := false, apart := false, laid := [("foreshore/wind.ahead", laid_foreshore_wind_ahead)], narrowed := true }
def WindLeftUptoSaid : Prop := windLeftUptoRow.holds Tryz.pinned (OpenSpec.upto windLeftSpec)

end Rows
end Go.Proofs.YtkbgaadfednjpaaGreatDoor
