/-
  DERIVED. GIVEN WITH THE SEED: THE CARDS: each row of YtihlllachfonoaaGreatDoorRows.lean that lists a variable, with what it lists TIED to the program's text (the seventh form; the later family's looks); each row that meets fmt, with fmt's text TOLD by the authors' own Lean function (tested against real Go, not proved from fmt's source: count such statements apart). THE CARD IS WHAT COUNTS. Prove the row's statement (the work); the ties are given (YtihlllachfonoaaGreatDoorTie.lean); close each card by the builder's one call (the guide's Derived/Test/ToyasCard.lean, 'card_holds'). Laid BY PROGRAM, IN A SANDBOX (cutbox-door.mjs). By AI agents, Wed Nov 11 2026. No macro, syntax, notation, axiom, sorry.
-/
import Derived.Test.YtihlllachfonoaaGreatDoorRows
import GoSem.ClaimSeven
namespace Go.Proofs.YtihlllachfonoaaGreatDoor
namespace Rows

/-- THE TIED CARD OF 'foreshorelaw05.SeatNames'. -/
def seatNamesCard : Claim7 := { stood := { row := seatNamesRow, standIns := [], harness := (true, "87013dc1541c0adc15167aabd1c14fe2ed3192df0fec4bc15bb9b8be9b9e8292"), looks := false }, kinds := [], alts := [], laidByText := true, laidKinds := [.data], laidTests := true, laidLooks := .later }
def SeatNamesCardSaid : Prop := Claim7.holds Tryz.pinned (.plain (OpenSpec.ofChange seatNamesSpec)) seatNamesCard

/-- THE SECOND FORM's CARD OF 'foreshorelaw05.SeatNames'. -/
def seatNamesUptoCard : Claim7 := { stood := { row := seatNamesUptoRow, standIns := [], harness := (true, "87013dc1541c0adc15167aabd1c14fe2ed3192df0fec4bc15bb9b8be9b9e8292"), looks := false }, kinds := [], alts := [], laidByText := true, laidKinds := [.data], laidTests := true, laidLooks := .later }
def SeatNamesUptoCardSaid : Prop := Claim7.holds Tryz.pinned (.plain (OpenSpec.upto seatNamesSpec)) seatNamesUptoCard
end Rows
end Go.Proofs.YtihlllachfonoaaGreatDoor
