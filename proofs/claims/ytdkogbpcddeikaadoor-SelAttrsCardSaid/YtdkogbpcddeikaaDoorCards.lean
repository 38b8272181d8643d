/-
  DERIVED. GIVEN WITH THE SEED: THE CARDS: each row of YtdkogbpcddeikaaDoorRows.lean that lists a variable, with what it lists TIED to the program's text (the seventh form; the later family's looks); each row that meets fmt, with fmt's text TOLD by the authors' own Lean function (tested against real Go, not proved from fmt's source: count such statements apart). THE CARD IS WHAT COUNTS. Prove the row's statement (the work); the ties are given (YtdkogbpcddeikaaDoorTie.lean); close each card by the builder's one call (the guide's Derived/Test/ToyasCard.lean, 'card_holds'). Laid BY PROGRAM, IN A SANDBOX (cutbox-door.mjs). By AI agents, Wed Nov 11 2026. No macro, syntax, notation, axiom, sorry.
-/
import Derived.Test.YtdkogbpcddeikaaDoorRows
import GoSem.ClaimSeven
namespace Go.Proofs.YtdkogbpcddeikaaDoor
namespace Rows

/-- THE TIED CARD OF 'tapestrierlaw8.SelNth'. -/
def selNthCard : Claim7 := { stood := { row := selNthRow, standIns := [], harness := (true, "cf40a12b2d9d5429c5392fe94dc3054e85ebddb189853088d45719e82f3e84db"), looks := false }, kinds := [], alts := [], laidByText := true, laidKinds := [.data], laidTests := true, laidLooks := .later }
def SelNthCardSaid : Prop := Claim7.holds Tryd.pinned (.plain (OpenSpec.ofChange selNthSpec)) selNthCard

/-- THE TIED CARD OF 'tapestrierlaw8.SelAttrs'. -/
def selAttrsCard : Claim7 := { stood := { row := selAttrsRow, standIns := [], harness := (true, "cf40a12b2d9d5429c5392fe94dc3054e85ebddb189853088d45719e82f3e84db"), looks := false }, kinds := [], alts := [], laidByText := true, laidKinds := [.data], laidTests := true, laidLooks := .later }
def SelAttrsCardSaid : Prop := Claim7.holds Tryd.pinned (.plain (OpenSpec.ofChange selAttrsSpec)) selAttrsCard

/-- THE SECOND FORM's CARD OF 'tapestrierlaw8.SelNth'. -/
def selNthUptoCard : Claim7 := { stood := { row := selNthUptoRow, standIns := [], harness := (true, "cf40a12b2d9d5429c5392fe94dc3054e85ebddb189853088d45719e82f3e84db"), looks := false }, kinds := [], alts := [], laidByText := true, laidKinds := [.data], laidTests := true, laidLooks := .later }
def SelNthUptoCardSaid : Prop := Claim7.holds Tryd.pinned (.plain (OpenSpec.upto selNthSpec)) selNthUptoCard

/-- THE SECOND FORM's CARD OF 'tapestrierlaw8.SelAttrs'. -/
def selAttrsUptoCard : Claim7 := { stood := { row := selAttrsUptoRow, standIns := [], harness := (true, "cf40a12b2d9d5429c5392fe94dc3054e85ebddb189853088d45719e82f3e84db"), looks := false }, kinds := [], alts := [], laidByText := true, laidKinds := [.data], laidTests := true, laidLooks := .later }
def SelAttrsUptoCardSaid : Prop := Claim7.holds Tryd.pinned (.plain (OpenSpec.upto selAttrsSpec)) selAttrsUptoCard
end Rows
end Go.Proofs.YtdkogbpcddeikaaDoor
