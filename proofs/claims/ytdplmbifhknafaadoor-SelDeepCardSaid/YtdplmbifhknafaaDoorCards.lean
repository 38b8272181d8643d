/-
  DERIVED. GIVEN WITH THE SEED: THE CARDS: each row of YtdplmbifhknafaaDoorRows.lean that lists a variable, with what it lists TIED to the program's text (the seventh form; the later family's looks); each row that meets fmt, with fmt's text TOLD by the authors' own Lean function (tested against real Go, not proved from fmt's source: count such statements apart). THE CARD IS WHAT COUNTS. Prove the row's statement (the work); the ties are given (YtdplmbifhknafaaDoorTie.lean); close each card by the builder's one call (the guide's Derived/Test/ToyasCard.lean, 'card_holds'). Laid BY PROGRAM, IN A SANDBOX (cutbox-door.mjs). By AI agents, Wed Nov 11 2026. No macro, syntax, notation, axiom, sorry.
-/
import Derived.Test.YtdplmbifhknafaaDoorRows
import GoSem.ClaimSeven
namespace Go.Proofs.YtdplmbifhknafaaDoor
namespace Rows

/-- THE TIED CARD OF 'tapestrierlaw8.SelParse'. -/
def selParseCard : Claim7 := { stood := { row := selParseRow, standIns := [], harness := (true, "94978019b6e69ff1b02fa34e30b1dfe46dd3f142b90ba9bae132e25253cbb1e9"), looks := false }, kinds := [], alts := [], laidByText := true, laidKinds := [.data], laidTests := true, laidLooks := .later }
def SelParseCardSaid : Prop := Claim7.holds Tryd.pinned (.plain (OpenSpec.ofChange selParseSpec)) selParseCard

/-- THE TIED CARD OF 'tapestrierlaw8.SelBytes'. -/
def selBytesCard : Claim7 := { stood := { row := selBytesRow, standIns := [], harness := (true, "94978019b6e69ff1b02fa34e30b1dfe46dd3f142b90ba9bae132e25253cbb1e9"), looks := false }, kinds := [], alts := [], laidByText := true, laidKinds := [.data], laidTests := true, laidLooks := .later }
def SelBytesCardSaid : Prop := Claim7.holds Tryd.pinned (.plain (OpenSpec.ofChange selBytesSpec)) selBytesCard

/-- THE TIED CARD OF 'tapestrierlaw8.SelDeep'. -/
def selDeepCard : Claim7 := { stood := { row := selDeepRow, standIns := [], harness := (true, "94978019b6e69ff1b02fa34e30b1dfe46dd3f142b90ba9bae132e25253cbb1e9"), looks := false }, kinds := [], alts := [], laidByText := true, laidKinds := [.data], laidTests := true, laidLooks := .later }
def SelDeepCardSaid : Prop := Claim7.holds Tryd.pinned (.plain (OpenSpec.ofChange selDeepSpec)) selDeepCard

/-- THE TIED CARD OF 'tapestrierlaw8.SelAttrs'. -/
def selAttrsCard : Claim7 := { stood := { row := selAttrsRow, standIns := [], harness := (true, "94978019b6e69ff1b02fa34e30b1dfe46dd3f142b90ba9bae132e25253cbb1e9"), looks := false }, kinds := [], alts := [], laidByText := true, laidKinds := [.data], laidTests := true, laidLooks := .later }
def SelAttrsCardSaid : Prop := Claim7.holds Tryd.pinned (.plain (OpenSpec.ofChange selAttrsSpec)) selAttrsCard

/-- THE TIED CARD OF 'tapestrierlaw8.SelNth'. -/
def selNthCard : Claim7 := { stood := { row := selNthRow, standIns := [], harness := (true, "94978019b6e69ff1b02fa34e30b1dfe46dd3f142b90ba9bae132e25253cbb1e9"), looks := false }, kinds := [], alts := [], laidByText := true, laidKinds := [.data], laidTests := true, laidLooks := .later }
def SelNthCardSaid : Prop := Claim7.holds Tryd.pinned (.plain (OpenSpec.ofChange selNthSpec)) selNthCard

/-- THE SECOND FORM's CARD OF 'tapestrierlaw8.SelParse'. -/
def selParseUptoCard : Claim7 := { stood := { row := selParseUptoRow, standIns := [], harness := (true, "94978019b6e69ff1b02fa34e30b1dfe46dd3f142b90ba9bae132e25253cbb1e9"), looks := false }, kinds := [], alts := [], laidByText := true, laidKinds := [.data], laidTests := true, laidLooks := .later }
def SelParseUptoCardSaid : Prop := Claim7.holds Tryd.pinned (.plain (OpenSpec.upto selParseSpec)) selParseUptoCard

/-- THE SECOND FORM's CARD OF 'tapestrierlaw8.SelBytes'. -/
def selBytesUptoCard : Claim7 := { stood := { row := selBytesUptoRow, standIns := [], harness := (true, "94978019b6e69ff1b02fa34e30b1dfe46dd3f142b90ba9bae132e25253cbb1e9"), looks := false }, kinds := [], alts := [], laidByText := true, laidKinds := [.data], laidTests := true, laidLooks := .later }
def SelBytesUptoCardSaid : Prop := Claim7.holds Tryd.pinned (.plain (OpenSpec.upto selBytesSpec)) selBytesUptoCard

/-- THE SECOND FORM's CARD OF 'tapestrierlaw8.SelDeep'. -/
def selDeepUptoCard : Claim7 := { stood := { row := selDeepUptoRow, standIns := [], harness := (true, "94978019b6e69ff1b02fa34e30b1dfe46dd3f142b90ba9bae132e25253cbb1e9"), looks := false }, kinds := [], alts := [], laidByText := true, laidKinds := [.data], laidTests := true, laidLooks := .later }
def SelDeepUptoCardSaid : Prop := Claim7.holds Tryd.pinned (.plain (OpenSpec.upto selDeepSpec)) selDeepUptoCard

/-- THE SECOND FORM's CARD OF 'tapestrierlaw8.SelAttrs'. -/
def selAttrsUptoCard : Claim7 := { stood := { row := selAttrsUptoRow, standIns := [], harness := (true, "94978019b6e69ff1b02fa34e30b1dfe46dd3f142b90ba9bae132e25253cbb1e9"), looks := false }, kinds := [], alts := [], laidByText := true, laidKinds := [.data], laidTests := true, laidLooks := .later }
def SelAttrsUptoCardSaid : Prop := Claim7.holds Tryd.pinned (.plain (OpenSpec.upto selAttrsSpec)) selAttrsUptoCard

/-- THE SECOND FORM's CARD OF 'tapestrierlaw8.SelNth'. -/
def selNthUptoCard : Claim7 := { stood := { row := selNthUptoRow, standIns := [], harness := (true, "94978019b6e69ff1b02fa34e30b1dfe46dd3f142b90ba9bae132e25253cbb1e9"), looks := false }, kinds := [], alts := [], laidByText := true, laidKinds := [.data], laidTests := true, laidLooks := .later }
def SelNthUptoCardSaid : Prop := Claim7.holds Tryd.pinned (.plain (OpenSpec.upto selNthSpec)) selNthUptoCard
end Rows
end Go.Proofs.YtdplmbifhknafaaDoor
