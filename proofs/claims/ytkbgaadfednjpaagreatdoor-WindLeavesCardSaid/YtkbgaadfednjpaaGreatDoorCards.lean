/-
  DERIVED. GIVEN WITH THE SEED: THE CARDS: each row of YtkbgaadfednjpaaGreatDoorRows.lean that lists a variable, with what it lists TIED to the program's text (the seventh form; the later family's looks); each row that meets fmt, with fmt's text TOLD by the authors' own Lean function (tested against real Go, not proved from fmt's source: count such statements apart). THE CARD IS WHAT COUNTS. Prove the row's statement (the work); the ties are given (YtkbgaadfednjpaaGreatDoorTie.lean); close each card by the builder's one call (the guide's Derived/Test/ToyasCard.lean, 'card_holds'). Laid BY PROGRAM, IN A SANDBOX (cutbox-door.mjs). By AI agents, Wed Nov 11 2026. No macro, syntax, notation, axiom, sorry.
-/
import Derived.Test.YtkbgaadfednjpaaGreatDoorRows
import GoSem.ClaimSeven
namespace Go.Proofs.YtkbgaadfednjpaaGreatDoor
namespace Rows

/-- THE TIED CARD OF 'foreshorelaw04.WindPlays'. -/
def windPlaysCard : Claim7 := { stood := { row := windPlaysRow, standIns := [], harness := (true, "718be3a18d63acaf2c7eb2187410043196fa0c2e51c6552dc825b9438f65e7cb"), looks := false }, kinds := [], alts := [], laidByText := true, laidKinds := [.data], laidTests := true, laidLooks := .later }
def WindPlaysCardSaid : Prop := Claim7.holds Tryz.pinned (.plain (OpenSpec.ofChange windPlaysSpec)) windPlaysCard

/-- THE TIED CARD OF 'foreshorelaw04.WindBounds'. -/
def windBoundsCard : Claim7 := { stood := { row := windBoundsRow, standIns := [], harness := (true, "718be3a18d63acaf2c7eb2187410043196fa0c2e51c6552dc825b9438f65e7cb"), looks := false }, kinds := [], alts := [], laidByText := true, laidKinds := [.data], laidTests := true, laidLooks := .later }
def WindBoundsCardSaid : Prop := Claim7.holds Tryz.pinned (.plain (OpenSpec.ofChange windBoundsSpec)) windBoundsCard

/-- THE TIED CARD OF 'foreshorelaw04.WindCalms'. -/
def windCalmsCard : Claim7 := { stood := { row := windCalmsRow, standIns := [], harness := (true, "718be3a18d63acaf2c7eb2187410043196fa0c2e51c6552dc825b9438f65e7cb"), looks := false }, kinds := [], alts := [], laidByText := true, laidKinds := [.data], laidTests := true, laidLooks := .later }
def WindCalmsCardSaid : Prop := Claim7.holds Tryz.pinned (.plain (OpenSpec.ofChange windCalmsSpec)) windCalmsCard

/-- THE TIED CARD OF 'foreshorelaw04.WindBest'. -/
def windBestCard : Claim7 := { stood := { row := windBestRow, standIns := [], harness := (true, "718be3a18d63acaf2c7eb2187410043196fa0c2e51c6552dc825b9438f65e7cb"), looks := false }, kinds := [], alts := [], laidByText := true, laidKinds := [.data], laidTests := true, laidLooks := .later }
def WindBestCardSaid : Prop := Claim7.holds Tryz.pinned (.plain (OpenSpec.ofChange windBestSpec)) windBestCard

/-- THE TIED CARD OF 'foreshorelaw04.WindLeaves'. -/
def windLeavesCard : Claim7 := { stood := { row := windLeavesRow, standIns := [], harness := (true, "718be3a18d63acaf2c7eb2187410043196fa0c2e51c6552dc825b9438f65e7cb"), looks := false }, kinds := [], alts := [], laidByText := true, laidKinds := [.data], laidTests := true, laidLooks := .later }
def WindLeavesCardSaid : Prop := Claim7.holds Tryz.pinned (.plain (OpenSpec.ofChange windLeavesSpec)) windLeavesCard

/-- THE TIED CARD OF 'foreshorelaw04.WindTruth'. -/
def windTruthCard : Claim7 := { stood := { row := windTruthRow, standIns := [], harness := (true, "718be3a18d63acaf2c7eb2187410043196fa0c2e51c6552dc825b9438f65e7cb"), looks := false }, kinds := [], alts := [], laidByText := true, laidKinds := [.data], laidTests := true, laidLooks := .later }
def WindTruthCardSaid : Prop := Claim7.holds Tryz.pinned (.plain (OpenSpec.ofChange windTruthSpec)) windTruthCard

/-- THE TIED CARD OF 'foreshorelaw04.WindEnds'. -/
def windEndsCard : Claim7 := { stood := { row := windEndsRow, standIns := [], harness := (true, "718be3a18d63acaf2c7eb2187410043196fa0c2e51c6552dc825b9438f65e7cb"), looks := false }, kinds := [], alts := [], laidByText := true, laidKinds := [.data], laidTests := true, laidLooks := .later }
def WindEndsCardSaid : Prop := Claim7.holds Tryz.pinned (.plain (OpenSpec.ofChange windEndsSpec)) windEndsCard

/-- THE TIED CARD OF 'foreshorelaw04.WindHours'. -/
def windHoursCard : Claim7 := { stood := { row := windHoursRow, standIns := [], harness := (true, "718be3a18d63acaf2c7eb2187410043196fa0c2e51c6552dc825b9438f65e7cb"), looks := false }, kinds := [], alts := [], laidByText := true, laidKinds := [.data], laidTests := true, laidLooks := .later }
def WindHoursCardSaid : Prop := Claim7.holds Tryz.pinned (.plain (OpenSpec.ofChange windHoursSpec)) windHoursCard

/-- THE TIED CARD OF 'foreshorelaw04.WindNoBetter'. -/
def windNoBetterCard : Claim7 := { stood := { row := windNoBetterRow, standIns := [], harness := (true, "718be3a18d63acaf2c7eb2187410043196fa0c2e51c6552dc825b9438f65e7cb"), looks := false }, kinds := [], alts := [], laidByText := true, laidKinds := [.data], laidTests := true, laidLooks := .later }
def WindNoBetterCardSaid : Prop := Claim7.holds Tryz.pinned (.plain (OpenSpec.ofChange windNoBetterSpec)) windNoBetterCard

/-- THE TIED CARD OF 'foreshorelaw04.WindBreak'. -/
def windBreakCard : Claim7 := { stood := { row := windBreakRow, standIns := [], harness := (true, "718be3a18d63acaf2c7eb2187410043196fa0c2e51c6552dc825b9438f65e7cb"), looks := false }, kinds := [], alts := [], laidByText := true, laidKinds := [.data], laidTests := true, laidLooks := .later }
def WindBreakCardSaid : Prop := Claim7.holds Tryz.pinned (.plain (OpenSpec.ofChange windBreakSpec)) windBreakCard

/-- THE TIED CARD OF 'foreshorelaw04.WindBack'. -/
def windBackCard : Claim7 := { stood := { row := windBackRow, standIns := [], harness := (true, "718be3a18d63acaf2c7eb2187410043196fa0c2e51c6552dc825b9438f65e7cb"), looks := false }, kinds := [], alts := [], laidByText := true, laidKinds := [.data], laidTests := true, laidLooks := .later }
def WindBackCardSaid : Prop := Claim7.holds Tryz.pinned (.plain (OpenSpec.ofChange windBackSpec)) windBackCard

/-- THE TIED CARD OF 'foreshorelaw04.WindMore'. -/
def windMoreCard : Claim7 := { stood := { row := windMoreRow, standIns := [], harness := (true, "718be3a18d63acaf2c7eb2187410043196fa0c2e51c6552dc825b9438f65e7cb"), looks := false }, kinds := [], alts := [], laidByText := true, laidKinds := [.data], laidTests := true, laidLooks := .later }
def WindMoreCardSaid : Prop := Claim7.holds Tryz.pinned (.plain (OpenSpec.ofChange windMoreSpec)) windMoreCard

/-- THE TIED CARD OF 'foreshorelaw04.WindWider'. -/
def windWiderCard : Claim7 := { stood := { row := windWiderRow, standIns := [], harness := (true, "718be3a18d63acaf2c7eb2187410043196fa0c2e51c6552dc825b9438f65e7cb"), looks := false }, kinds := [], alts := [], laidByText := true, laidKinds := [.data], laidTests := true, laidLooks := .later }
def WindWiderCardSaid : Prop := Claim7.holds Tryz.pinned (.plain (OpenSpec.ofChange windWiderSpec)) windWiderCard

/-- THE TIED CARD OF 'foreshorelaw04.WindMirror'. -/
def windMirrorCard : Claim7 := { stood := { row := windMirrorRow, standIns := [], harness := (true, "718be3a18d63acaf2c7eb2187410043196fa0c2e51c6552dc825b9438f65e7cb"), looks := false }, kinds := [], alts := [], laidByText := true, laidKinds := [.data], laidTests := true, laidLooks := .later }
def WindMirrorCardSaid : Prop := Claim7.holds Tryz.pinned (.plain (OpenSpec.ofChange windMirrorSpec)) windMirrorCard

/-- THE TIED CARD OF 'foreshorelaw04.WindFirst'. -/
def windFirstCard : Claim7 := { stood := { row := windFirstRow, standIns := [], harness := (true, "718be3a18d63acaf2c7eb2187410043196fa0c2e51c6552dc825b9438f65e7cb"), looks := false }, kinds := [], alts := [], laidByText := true, laidKinds := [.data], laidTests := true, laidLooks := .later }
def WindFirstCardSaid : Prop := Claim7.holds Tryz.pinned (.plain (OpenSpec.ofChange windFirstSpec)) windFirstCard

/-- THE TIED CARD OF 'foreshorelaw04.WindLeft'. -/
def windLeftCard : Claim7 := { stood := { row := windLeftRow, standIns := [], harness := (true, "718be3a18d63acaf2c7eb2187410043196fa0c2e51c6552dc825b9438f65e7cb"), looks := false }, kinds := [], alts := [], laidByText := true, laidKinds := [.data], laidTests := true, laidLooks := .later }
def WindLeftCardSaid : Prop := Claim7.holds Tryz.pinned (.plain (OpenSpec.ofChange windLeftSpec)) windLeftCard

/-- THE SECOND FORM's CARD OF 'foreshorelaw04.WindPlays'. -/
def windPlaysUptoCard : Claim7 := { stood := { row := windPlaysUptoRow, standIns := [], harness := (true, "718be3a18d63acaf2c7eb2187410043196fa0c2e51c6552dc825b9438f65e7cb"), looks := false }, kinds := [], alts := [], laidByText := true, laidKinds := [.data], laidTests := true, laidLooks := .later }
def WindPlaysUptoCardSaid : Prop := Claim7.holds Tryz.pinned (.plain (OpenSpec.upto windPlaysSpec)) windPlaysUptoCard

/-- THE SECOND FORM's CARD OF 'foreshorelaw04.WindBounds'. -/
def windBoundsUptoCard : Claim7 := { stood := { row := windBoundsUptoRow, standIns := [], harness := (true, "718be3a18d63acaf2c7eb2187410043196fa0c2e51c6552dc825b9438f65e7cb"), looks := false }, kinds := [], alts := [], laidByText := true, laidKinds := [.data], laidTests := true, laidLooks := .later }
def WindBoundsUptoCardSaid : Prop := Claim7.holds Tryz.pinned (.plain (OpenSpec.upto windBoundsSpec)) windBoundsUptoCard

/-- THE SECOND FORM's CARD OF 'foreshorelaw04.WindCalms'. -/
def windCalmsUptoCard : Claim7 := { stood := { row := windCalmsUptoRow, standIns := [], harness := (true, "718be3a18d63acaf2c7eb2187410043196fa0c2e51c6552dc825b9438f65e7cb"), looks := false }, kinds := [], alts := [], laidByText := true, laidKinds := [.data], laidTests := true, laidLooks := .later }
def WindCalmsUptoCardSaid : Prop := Claim7.holds Tryz.pinned (.plain (OpenSpec.upto windCalmsSpec)) windCalmsUptoCard

/-- THE SECOND FORM's CARD OF 'foreshorelaw04.WindBest'. -/
def windBestUptoCard : Claim7 := { stood := { row := windBestUptoRow, standIns := [], harness := (true, "718be3a18d63acaf2c7eb2187410043196fa0c2e51c6552dc825b9438f65e7cb"), looks := false }, kinds := [], alts := [], laidByText := true, laidKinds := [.data], laidTests := true, laidLooks := .later }
def WindBestUptoCardSaid : Prop := Claim7.holds Tryz.pinned (.plain (OpenSpec.upto windBestSpec)) windBestUptoCard

/-- THE SECOND FORM's CARD OF 'foreshorelaw04.WindLeaves'. -/
def windLeavesUptoCard : Claim7 := { stood := { row := windLeavesUptoRow, standIns := [], harness := (true, "718be3a18d63acaf2c7eb2187410043196fa0c2e51c6552dc825b9438f65e7cb"), looks := false }, kinds := [], alts := [], laidByText := true, laidKinds := [.data], laidTests := true, laidLooks := .later }
def WindLeavesUptoCardSaid : Prop := Claim7.holds Tryz.pinned (.plain (OpenSpec.upto windLeavesSpec)) windLeavesUptoCard

/-- THE SECOND FORM's CARD OF 'foreshorelaw04.WindTruth'. -/
def windTruthUptoCard : Claim7 := { stood := { row := windTruthUptoRow, standIns := [], harness := (true, "718be3a18d63acaf2c7eb2187410043196fa0c2e51c6552dc825b9438f65e7cb"), looks := false }, kinds := [], alts := [], laidByText := true, laidKinds := [.data], laidTests := true, laidLooks := .later }
def WindTruthUptoCardSaid : Prop := Claim7.holds Tryz.pinned (.plain (OpenSpec.upto windTruthSpec)) windTruthUptoCard

/-- THE SECOND FORM's CARD OF 'foreshorelaw04.WindEnds'. -/
def windEndsUptoCard : Claim7 := { stood := { row := windEndsUptoRow, standIns := [], harness := (true, "718be3a18d63acaf2c7eb2187410043196fa0c2e51c6552dc825b9438f65e7cb"), looks := false }, kinds := [], alts := [], laidByText := true, laidKinds := [.data], laidTests := true, laidLooks := .later }
def WindEndsUptoCardSaid : Prop := Claim7.holds Tryz.pinned (.plain (OpenSpec.upto windEndsSpec)) windEndsUptoCard

/-- THE SECOND FORM's CARD OF 'foreshorelaw04.WindHours'. -/
def windHoursUptoCard : Claim7 := { stood := { row := windHoursUptoRow, standIns := [], harness := (true, "718be3a18d63acaf2c7eb2187410043196fa0c2e51c6552dc825b9438f65e7cb"), looks := false }, kinds := [], alts := [], laidByText := true, laidKinds := [.data], laidTests := true, laidLooks := .later }
def WindHoursUptoCardSaid : Prop := Claim7.holds Tryz.pinned (.plain (OpenSpec.upto windHoursSpec)) windHoursUptoCard

/-- THE SECOND FORM's CARD OF 'foreshorelaw04.WindNoBetter'. -/
def windNoBetterUptoCard : Claim7 := { stood := { row := windNoBetterUptoRow, standIns := [], harness := (true, "718be3a18d63acaf2c7eb2187410043196fa0c2e51c6552dc825b9438f65e7cb"), looks := false }, kinds := [], alts := [], laidByText := true, laidKinds := [.data], laidTests := true, laidLooks := .later }
def WindNoBetterUptoCardSaid : Prop := Claim7.holds Tryz.pinned (.plain (OpenSpec.upto windNoBetterSpec)) windNoBetterUptoCard

/-- THE SECOND FORM's CARD OF 'foreshorelaw04.WindBreak'. -/
def windBreakUptoCard : Claim7 := { stood := { row := windBreakUptoRow, standIns := [], harness := (true, "718be3a18d63acaf2c7eb2187410043196fa0c2e51c6552dc825b9438f65e7cb"), looks := false }, kinds := [], alts := [], laidByText := true, laidKinds := [.data], laidTests := true, laidLooks := .later }
def WindBreakUptoCardSaid : Prop := Claim7.holds Tryz.pinned (.plain (OpenSpec.upto windBreakSpec)) windBreakUptoCard

/-- THE SECOND FORM's CARD OF 'foreshorelaw04.WindBack'. -/
def windBackUptoCard : Claim7 := { stood := { row := windBackUptoRow, standIns := [], harness := (true, "718be3a18d63acaf2c7eb2187410043196fa0c2e51c6552dc825b9438f65e7cb"), looks := false }, kinds := [], alts := [], laidByText := true, laidKinds := [.data], laidTests := true, laidLooks := .later }
def WindBackUptoCardSaid : Prop := Claim7.holds Tryz.pinned (.plain (OpenSpec.upto windBackSpec)) windBackUptoCard

/-- THE SECOND FORM's CARD OF 'foreshorelaw04.WindMore'. -/
def windMoreUptoCard : Claim7 := { stood := { row := windMoreUptoRow, standIns := [], harness := (true, "718be3a18d63acaf2c7eb2187410043196fa0c2e51c6552dc825b9438f65e7cb"), looks := false }, kinds := [], alts := [], laidByText := true, laidKinds := [.data], laidTests := true, laidLooks := .later }
def WindMoreUptoCardSaid : Prop := Claim7.holds Tryz.pinned (.plain (OpenSpec.upto windMoreSpec)) windMoreUptoCard

/-- THE SECOND FORM's CARD OF 'foreshorelaw04.WindWider'. -/
def windWiderUptoCard : Claim7 := { stood := { row := windWiderUptoRow, standIns := [], harness := (true, "718be3a18d63acaf2c7eb2187410043196fa0c2e51c6552dc825b9438f65e7cb"), looks := false }, kinds := [], alts := [], laidByText := true, laidKinds := [.data], laidTests := true, laidLooks := .later }
def WindWiderUptoCardSaid : Prop := Claim7.holds Tryz.pinned (.plain (OpenSpec.upto windWiderSpec)) windWiderUptoCard

/-- THE SECOND FORM's CARD OF 'foreshorelaw04.WindMirror'. -/
def windMirrorUptoCard : Claim7 := { stood := { row := windMirrorUptoRow, standIns := [], harness := (true, "718be3a18d63acaf2c7eb2187410043196fa0c2e51c6552dc825b9438f65e7cb"), looks := false }, kinds := [], alts := [], laidByText := true, laidKinds := [.data], laidTests := true, laidLooks := .later }
def WindMirrorUptoCardSaid : Prop := Claim7.holds Tryz.pinned (.plain (OpenSpec.upto windMirrorSpec)) windMirrorUptoCard

/-- THE SECOND FORM's CARD OF 'foreshorelaw04.WindFirst'. -/
def windFirstUptoCard : Claim7 := { stood := { row := windFirstUptoRow, standIns := [], harness := (true, "718be3a18d63acaf2c7eb2187410043196fa0c2e51c6552dc825b9438f65e7cb"), looks := false }, kinds := [], alts := [], laidByText := true, laidKinds := [.data], laidTests := true, laidLooks := .later }
def WindFirstUptoCardSaid : Prop := Claim7.holds Tryz.pinned (.plain (OpenSpec.upto windFirstSpec)) windFirstUptoCard

/-- THE SECOND FORM's CARD OF 'foreshorelaw04.WindLeft'. -/
def windLeftUptoCard : Claim7 := { stood := { row := windLeftUptoRow, standIns := [], harness := (true, "718be3a18d63acaf2c7eb2187410043196fa0c2e51c6552dc825b9438f65e7cb"), looks := false }, kinds := [], alts := [], laidByText := true, laidKinds := [.data], laidTests := true, laidLooks := .later }
def WindLeftUptoCardSaid : Prop := Claim7.holds Tryz.pinned (.plain (OpenSpec.upto windLeftSpec)) windLeftUptoCard
end Rows
end Go.Proofs.YtkbgaadfednjpaaGreatDoor
