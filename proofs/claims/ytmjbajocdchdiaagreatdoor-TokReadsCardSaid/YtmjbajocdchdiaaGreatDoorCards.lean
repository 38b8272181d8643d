/-
  DERIVED. GIVEN WITH THE SEED: THE CARDS: each row of YtmjbajocdchdiaaGreatDoorRows.lean that lists a variable, with what it lists TIED to the program's text (the seventh form; the later family's looks); each row that meets fmt, with fmt's text TOLD by the authors' own Lean function (tested against real Go, not proved from fmt's source: count such statements apart). THE CARD IS WHAT COUNTS. Prove the row's statement (the work); the ties are given (YtmjbajocdchdiaaGreatDoorTie.lean); close each card by the builder's one call (the guide's Derived/Test/ToyasCard.lean, 'card_holds'). Laid BY PROGRAM, IN A SANDBOX (cutbox-door.mjs). By AI agents, Wed Nov 11 2026. No macro, syntax, notation, axiom, sorry.
-/
import Derived.Test.YtmjbajocdchdiaaGreatDoorRows
import GoSem.ClaimSeven
namespace Go.Proofs.YtmjbajocdchdiaaGreatDoor
namespace Rows

/-- THE TIED CARD OF 'tapestrierlaw4.TokReads'. -/
def tokReadsCard : Claim7 := { stood := { row := tokReadsRow, standIns := [], harness := (true, "5c9b30e555daa9931e6175d6f30a4968c13e6f32a19211bcc2d09b05f83d1a56"), looks := false }, kinds := [], alts := [], laidByText := true, laidKinds := [.data, .data, .data, .data, .data, .pinned], laidTests := true, laidLooks := .later }
def TokReadsCardSaid : Prop := Claim7.holds Tryz.pinned (.plain (OpenSpec.ofChange tokReadsSpec)) tokReadsCard

/-- THE TIED CARD OF 'tapestrierlaw4.TokPoints'. -/
def tokPointsCard : Claim7 := { stood := { row := tokPointsRow, standIns := [], harness := (true, "5c9b30e555daa9931e6175d6f30a4968c13e6f32a19211bcc2d09b05f83d1a56"), looks := false }, kinds := [], alts := [], laidByText := true, laidKinds := [.data, .data, .data, .data, .data, .pinned], laidTests := true, laidLooks := .later }
def TokPointsCardSaid : Prop := Claim7.holds Tryz.pinned (.plain (OpenSpec.ofChange tokPointsSpec)) tokPointsCard

/-- THE SECOND FORM's CARD OF 'tapestrierlaw4.TokReads'. -/
def tokReadsUptoCard : Claim7 := { stood := { row := tokReadsUptoRow, standIns := [], harness := (true, "5c9b30e555daa9931e6175d6f30a4968c13e6f32a19211bcc2d09b05f83d1a56"), looks := false }, kinds := [], alts := [], laidByText := true, laidKinds := [.data, .data, .data, .data, .data, .pinned], laidTests := true, laidLooks := .later }
def TokReadsUptoCardSaid : Prop := Claim7.holds Tryz.pinned (.plain (OpenSpec.upto tokReadsSpec)) tokReadsUptoCard

/-- THE SECOND FORM's CARD OF 'tapestrierlaw4.TokPoints'. -/
def tokPointsUptoCard : Claim7 := { stood := { row := tokPointsUptoRow, standIns := [], harness := (true, "5c9b30e555daa9931e6175d6f30a4968c13e6f32a19211bcc2d09b05f83d1a56"), looks := false }, kinds := [], alts := [], laidByText := true, laidKinds := [.data, .data, .data, .data, .data, .pinned], laidTests := true, laidLooks := .later }
def TokPointsUptoCardSaid : Prop := Claim7.holds Tryz.pinned (.plain (OpenSpec.upto tokPointsSpec)) tokPointsUptoCard
end Rows
end Go.Proofs.YtmjbajocdchdiaaGreatDoor
