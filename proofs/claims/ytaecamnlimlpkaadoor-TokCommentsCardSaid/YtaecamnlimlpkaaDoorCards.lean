/-
  DERIVED. GIVEN WITH THE SEED: THE CARDS: each row of YtaecamnlimlpkaaDoorRows.lean that lists a variable, with what it lists TIED to the program's text (the seventh form; the later family's looks); each row that meets fmt, with fmt's text TOLD by the authors' own Lean function (tested against real Go, not proved from fmt's source: count such statements apart). THE CARD IS WHAT COUNTS. Prove the row's statement (the work); the ties are given (YtaecamnlimlpkaaDoorTie.lean); close each card by the builder's one call (the guide's Derived/Test/ToyasCard.lean, 'card_holds'). Laid BY PROGRAM, IN A SANDBOX (cutbox-door.mjs). By AI agents, Wed Nov 11 2026. No macro, syntax, notation, axiom, sorry.
-/
import Derived.Test.YtaecamnlimlpkaaDoorRows
import GoSem.ClaimSeven
namespace Go.Proofs.YtaecamnlimlpkaaDoor
namespace Rows

/-- THE TIED CARD OF 'tapestrierlaw4.TokNames'. -/
def tokNamesCard : Claim7 := { stood := { row := tokNamesRow, standIns := [], harness := (true, "15b8874f1b9958cfdb1d73faa28dd374479856e79aa816ea74964be94a8bab2d"), looks := false }, kinds := [], alts := [], laidByText := true, laidKinds := [.data, .data, .pinned], laidTests := true, laidLooks := .later }
def TokNamesCardSaid : Prop := Claim7.holds Tryd.pinned (.plain (OpenSpec.ofChange tokNamesSpec)) tokNamesCard

/-- THE TIED CARD OF 'tapestrierlaw4.TokStrings'. -/
def tokStringsCard : Claim7 := { stood := { row := tokStringsRow, standIns := [], harness := (true, "15b8874f1b9958cfdb1d73faa28dd374479856e79aa816ea74964be94a8bab2d"), looks := false }, kinds := [], alts := [], laidByText := true, laidKinds := [.data, .data, .pinned], laidTests := true, laidLooks := .later }
def TokStringsCardSaid : Prop := Claim7.holds Tryd.pinned (.plain (OpenSpec.ofChange tokStringsSpec)) tokStringsCard

/-- THE TIED CARD OF 'tapestrierlaw4.TokNumbers'. -/
def tokNumbersCard : Claim7 := { stood := { row := tokNumbersRow, standIns := [], harness := (true, "15b8874f1b9958cfdb1d73faa28dd374479856e79aa816ea74964be94a8bab2d"), looks := false }, kinds := [], alts := [], laidByText := true, laidKinds := [.data, .data, .pinned], laidTests := true, laidLooks := .later }
def TokNumbersCardSaid : Prop := Claim7.holds Tryd.pinned (.plain (OpenSpec.ofChange tokNumbersSpec)) tokNumbersCard

/-- THE TIED CARD OF 'tapestrierlaw4.TokComments'. -/
def tokCommentsCard : Claim7 := { stood := { row := tokCommentsRow, standIns := [], harness := (true, "15b8874f1b9958cfdb1d73faa28dd374479856e79aa816ea74964be94a8bab2d"), looks := false }, kinds := [], alts := [], laidByText := true, laidKinds := [.data, .data, .pinned], laidTests := true, laidLooks := .later }
def TokCommentsCardSaid : Prop := Claim7.holds Tryd.pinned (.plain (OpenSpec.ofChange tokCommentsSpec)) tokCommentsCard

/-- THE SECOND FORM's CARD OF 'tapestrierlaw4.TokNames'. -/
def tokNamesUptoCard : Claim7 := { stood := { row := tokNamesUptoRow, standIns := [], harness := (true, "15b8874f1b9958cfdb1d73faa28dd374479856e79aa816ea74964be94a8bab2d"), looks := false }, kinds := [], alts := [], laidByText := true, laidKinds := [.data, .data, .pinned], laidTests := true, laidLooks := .later }
def TokNamesUptoCardSaid : Prop := Claim7.holds Tryd.pinned (.plain (OpenSpec.upto tokNamesSpec)) tokNamesUptoCard

/-- THE SECOND FORM's CARD OF 'tapestrierlaw4.TokStrings'. -/
def tokStringsUptoCard : Claim7 := { stood := { row := tokStringsUptoRow, standIns := [], harness := (true, "15b8874f1b9958cfdb1d73faa28dd374479856e79aa816ea74964be94a8bab2d"), looks := false }, kinds := [], alts := [], laidByText := true, laidKinds := [.data, .data, .pinned], laidTests := true, laidLooks := .later }
def TokStringsUptoCardSaid : Prop := Claim7.holds Tryd.pinned (.plain (OpenSpec.upto tokStringsSpec)) tokStringsUptoCard

/-- THE SECOND FORM's CARD OF 'tapestrierlaw4.TokNumbers'. -/
def tokNumbersUptoCard : Claim7 := { stood := { row := tokNumbersUptoRow, standIns := [], harness := (true, "15b8874f1b9958cfdb1d73faa28dd374479856e79aa816ea74964be94a8bab2d"), looks := false }, kinds := [], alts := [], laidByText := true, laidKinds := [.data, .data, .pinned], laidTests := true, laidLooks := .later }
def TokNumbersUptoCardSaid : Prop := Claim7.holds Tryd.pinned (.plain (OpenSpec.upto tokNumbersSpec)) tokNumbersUptoCard

/-- THE SECOND FORM's CARD OF 'tapestrierlaw4.TokComments'. -/
def tokCommentsUptoCard : Claim7 := { stood := { row := tokCommentsUptoRow, standIns := [], harness := (true, "15b8874f1b9958cfdb1d73faa28dd374479856e79aa816ea74964be94a8bab2d"), looks := false }, kinds := [], alts := [], laidByText := true, laidKinds := [.data, .data, .pinned], laidTests := true, laidLooks := .later }
def TokCommentsUptoCardSaid : Prop := Claim7.holds Tryd.pinned (.plain (OpenSpec.upto tokCommentsSpec)) tokCommentsUptoCard
end Rows
end Go.Proofs.YtaecamnlimlpkaaDoor
