/-
  DERIVED. GIVEN WITH THE SEED: THE CARDS: each row of YtdjedijpmjdapaaDoorRows.lean that lists a variable, with what it lists TIED to the program's text (the seventh form; the later family's looks); each row that meets fmt, with fmt's text TOLD by the authors' own Lean function (tested against real Go, not proved from fmt's source: count such statements apart). THE CARD IS WHAT COUNTS. Prove the row's statement (the work); the ties are given (YtdjedijpmjdapaaDoorTie.lean); close each card by the builder's one call (the guide's Derived/Test/ToyasCard.lean, 'card_holds'). Laid BY PROGRAM, IN A SANDBOX (cutbox-door.mjs). By AI agents, Wed Nov 11 2026. No macro, syntax, notation, axiom, sorry.
-/
import Derived.Test.YtdjedijpmjdapaaDoorRows
import GoSem.ClaimSeven
namespace Go.Proofs.YtdjedijpmjdapaaDoor
namespace Rows

/-- THE TIED CARD OF 'foreshorelaw04.WindNames'. -/
def windNamesCard : Claim7 := { stood := { row := windNamesRow, standIns := [], harness := (true, "7d845ae80527db0488ad718cf70b8723f6cc87d125c6ee3289198d8c4edd04da"), looks := false }, kinds := [], alts := [], laidByText := true, laidKinds := [.data], laidTests := true, laidLooks := .later }
def WindNamesCardSaid : Prop := Claim7.holds Tryd.pinned (.plain (OpenSpec.ofChange windNamesSpec)) windNamesCard

/-- THE SECOND FORM's CARD OF 'foreshorelaw04.WindNames'. -/
def windNamesUptoCard : Claim7 := { stood := { row := windNamesUptoRow, standIns := [], harness := (true, "7d845ae80527db0488ad718cf70b8723f6cc87d125c6ee3289198d8c4edd04da"), looks := false }, kinds := [], alts := [], laidByText := true, laidKinds := [.data], laidTests := true, laidLooks := .later }
def WindNamesUptoCardSaid : Prop := Claim7.holds Tryd.pinned (.plain (OpenSpec.upto windNamesSpec)) windNamesUptoCard
end Rows
end Go.Proofs.YtdjedijpmjdapaaDoor
