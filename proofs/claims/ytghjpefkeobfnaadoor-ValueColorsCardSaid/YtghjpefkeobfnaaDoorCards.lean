/-
  DERIVED. GIVEN WITH THE SEED: THE CARDS: each row of YtghjpefkeobfnaaDoorRows.lean that lists a variable, with what it lists TIED to the program's text (the seventh form; the later family's looks); each row that meets fmt, with fmt's text TOLD by the authors' own Lean function (tested against real Go, not proved from fmt's source: count such statements apart). THE CARD IS WHAT COUNTS. Prove the row's statement (the work); the ties are given (YtghjpefkeobfnaaDoorTie.lean); close each card by the builder's one call (the guide's Derived/Test/ToyasCard.lean, 'card_holds'). Laid BY PROGRAM, IN A SANDBOX (cutbox-door.mjs). By AI agents, Wed Nov 11 2026. No macro, syntax, notation, axiom, sorry.
-/
import Derived.Test.YtghjpefkeobfnaaDoorRows
import GoSem.ClaimSeven
namespace Go.Proofs.YtghjpefkeobfnaaDoor
namespace Rows

/-- THE TIED CARD OF 'tapestrierlaw7.ValueParse'. -/
def valueParseCard : Claim7 := { stood := { row := valueParseRow, standIns := [], harness := (true, "e920d03edae449d1ccbbbd5dcfcdf2f1f62a089fbd66ad8663697833616f5c2a"), looks := false }, kinds := [], alts := [], laidByText := true, laidKinds := [.data], laidTests := true, laidLooks := .later }
def ValueParseCardSaid : Prop := Claim7.holds Tryd.pinned (.plain (OpenSpec.ofChange valueParseSpec)) valueParseCard

/-- THE TIED CARD OF 'tapestrierlaw7.ValueProps'. -/
def valuePropsCard : Claim7 := { stood := { row := valuePropsRow, standIns := [], harness := (true, "e920d03edae449d1ccbbbd5dcfcdf2f1f62a089fbd66ad8663697833616f5c2a"), looks := false }, kinds := [], alts := [], laidByText := true, laidKinds := [.data, .data], laidTests := true, laidLooks := .later }
def ValuePropsCardSaid : Prop := Claim7.holds Tryd.pinned (.plain (OpenSpec.ofChange valuePropsSpec)) valuePropsCard

/-- THE TIED CARD OF 'tapestrierlaw7.ValueSets'. -/
def valueSetsCard : Claim7 := { stood := { row := valueSetsRow, standIns := [], harness := (true, "e920d03edae449d1ccbbbd5dcfcdf2f1f62a089fbd66ad8663697833616f5c2a"), looks := false }, kinds := [], alts := [], laidByText := true, laidKinds := [.data, .data], laidTests := true, laidLooks := .later }
def ValueSetsCardSaid : Prop := Claim7.holds Tryd.pinned (.plain (OpenSpec.ofChange valueSetsSpec)) valueSetsCard

/-- THE TIED CARD OF 'tapestrierlaw7.ValueColors'. -/
def valueColorsCard : Claim7 := { stood := { row := valueColorsRow, standIns := [], harness := (true, "e920d03edae449d1ccbbbd5dcfcdf2f1f62a089fbd66ad8663697833616f5c2a"), looks := false }, kinds := [], alts := [], laidByText := true, laidKinds := [.data], laidTests := true, laidLooks := .later }
def ValueColorsCardSaid : Prop := Claim7.holds Tryd.pinned (.plain (OpenSpec.ofChange valueColorsSpec)) valueColorsCard

/-- THE TIED CARD OF 'tapestrierlaw7.ValueWide'. -/
def valueWideCard : Claim7 := { stood := { row := valueWideRow, standIns := [], harness := (true, "e920d03edae449d1ccbbbd5dcfcdf2f1f62a089fbd66ad8663697833616f5c2a"), looks := false }, kinds := [], alts := [], laidByText := true, laidKinds := [.data], laidTests := true, laidLooks := .later }
def ValueWideCardSaid : Prop := Claim7.holds Tryd.pinned (.plain (OpenSpec.ofChange valueWideSpec)) valueWideCard

/-- THE TIED CARD OF 'tapestrierlaw7.ValueLengths'. -/
def valueLengthsCard : Claim7 := { stood := { row := valueLengthsRow, standIns := [], harness := (true, "e920d03edae449d1ccbbbd5dcfcdf2f1f62a089fbd66ad8663697833616f5c2a"), looks := false }, kinds := [], alts := [], laidByText := true, laidKinds := [.data], laidTests := true, laidLooks := .later }
def ValueLengthsCardSaid : Prop := Claim7.holds Tryd.pinned (.plain (OpenSpec.ofChange valueLengthsSpec)) valueLengthsCard

/-- THE SECOND FORM's CARD OF 'tapestrierlaw7.ValueParse'. -/
def valueParseUptoCard : Claim7 := { stood := { row := valueParseUptoRow, standIns := [], harness := (true, "e920d03edae449d1ccbbbd5dcfcdf2f1f62a089fbd66ad8663697833616f5c2a"), looks := false }, kinds := [], alts := [], laidByText := true, laidKinds := [.data], laidTests := true, laidLooks := .later }
def ValueParseUptoCardSaid : Prop := Claim7.holds Tryd.pinned (.plain (OpenSpec.upto valueParseSpec)) valueParseUptoCard

/-- THE SECOND FORM's CARD OF 'tapestrierlaw7.ValueProps'. -/
def valuePropsUptoCard : Claim7 := { stood := { row := valuePropsUptoRow, standIns := [], harness := (true, "e920d03edae449d1ccbbbd5dcfcdf2f1f62a089fbd66ad8663697833616f5c2a"), looks := false }, kinds := [], alts := [], laidByText := true, laidKinds := [.data, .data], laidTests := true, laidLooks := .later }
def ValuePropsUptoCardSaid : Prop := Claim7.holds Tryd.pinned (.plain (OpenSpec.upto valuePropsSpec)) valuePropsUptoCard

/-- THE SECOND FORM's CARD OF 'tapestrierlaw7.ValueSets'. -/
def valueSetsUptoCard : Claim7 := { stood := { row := valueSetsUptoRow, standIns := [], harness := (true, "e920d03edae449d1ccbbbd5dcfcdf2f1f62a089fbd66ad8663697833616f5c2a"), looks := false }, kinds := [], alts := [], laidByText := true, laidKinds := [.data, .data], laidTests := true, laidLooks := .later }
def ValueSetsUptoCardSaid : Prop := Claim7.holds Tryd.pinned (.plain (OpenSpec.upto valueSetsSpec)) valueSetsUptoCard

/-- THE SECOND FORM's CARD OF 'tapestrierlaw7.ValueColors'. -/
def valueColorsUptoCard : Claim7 := { stood := { row := valueColorsUptoRow, standIns := [], harness := (true, "e920d03edae449d1ccbbbd5dcfcdf2f1f62a089fbd66ad8663697833616f5c2a"), looks := false }, kinds := [], alts := [], laidByText := true, laidKinds := [.data], laidTests := true, laidLooks := .later }
def ValueColorsUptoCardSaid : Prop := Claim7.holds Tryd.pinned (.plain (OpenSpec.upto valueColorsSpec)) valueColorsUptoCard

/-- THE SECOND FORM's CARD OF 'tapestrierlaw7.ValueWide'. -/
def valueWideUptoCard : Claim7 := { stood := { row := valueWideUptoRow, standIns := [], harness := (true, "e920d03edae449d1ccbbbd5dcfcdf2f1f62a089fbd66ad8663697833616f5c2a"), looks := false }, kinds := [], alts := [], laidByText := true, laidKinds := [.data], laidTests := true, laidLooks := .later }
def ValueWideUptoCardSaid : Prop := Claim7.holds Tryd.pinned (.plain (OpenSpec.upto valueWideSpec)) valueWideUptoCard

/-- THE SECOND FORM's CARD OF 'tapestrierlaw7.ValueLengths'. -/
def valueLengthsUptoCard : Claim7 := { stood := { row := valueLengthsUptoRow, standIns := [], harness := (true, "e920d03edae449d1ccbbbd5dcfcdf2f1f62a089fbd66ad8663697833616f5c2a"), looks := false }, kinds := [], alts := [], laidByText := true, laidKinds := [.data], laidTests := true, laidLooks := .later }
def ValueLengthsUptoCardSaid : Prop := Claim7.holds Tryd.pinned (.plain (OpenSpec.upto valueLengthsSpec)) valueLengthsUptoCard
end Rows
end Go.Proofs.YtghjpefkeobfnaaDoor
