/-
  DERIVED. GIVEN WITH THE SEED: THE CARDS: each row of YtkhgmobependiaaDoorRows.lean that lists a variable, with what it lists TIED to the program's text (the seventh form; the later family's looks); each row that meets fmt, with fmt's text TOLD by the authors' own Lean function (tested against real Go, not proved from fmt's source: count such statements apart). THE CARD IS WHAT COUNTS. Prove the row's statement (the work); the ties are given (YtkhgmobependiaaDoorTie.lean); close each card by the builder's one call (the guide's Derived/Test/ToyasCard.lean, 'card_holds'). Laid BY PROGRAM, IN A SANDBOX (cutbox-door.mjs). By AI agents, Wed Nov 11 2026. No macro, syntax, notation, axiom, sorry.
-/
import Derived.Test.YtkhgmobependiaaDoorRows
import GoSem.ClaimSeven
namespace Go.Proofs.YtkhgmobependiaaDoor
namespace Rows

/-- THE TIED CARD OF 'tapestrierlaw8.SelNth'. -/
def selNthCard : Claim7 := { stood := { row := selNthRow, standIns := [], harness := (true, "7dac4b189a80e16763abb0d6e18b1686665ca59f5f2f920d7ef2eb3d466891a2"), looks := false }, kinds := [], alts := [], laidByText := true, laidKinds := [.data], laidTests := true, laidLooks := .later }
def SelNthCardSaid : Prop := Claim7.holds Tryd.pinned (.plain (OpenSpec.ofChange selNthSpec)) selNthCard

/-- THE SECOND FORM's CARD OF 'tapestrierlaw8.SelNth'. -/
def selNthUptoCard : Claim7 := { stood := { row := selNthUptoRow, standIns := [], harness := (true, "7dac4b189a80e16763abb0d6e18b1686665ca59f5f2f920d7ef2eb3d466891a2"), looks := false }, kinds := [], alts := [], laidByText := true, laidKinds := [.data], laidTests := true, laidLooks := .later }
def SelNthUptoCardSaid : Prop := Claim7.holds Tryd.pinned (.plain (OpenSpec.upto selNthSpec)) selNthUptoCard
end Rows
end Go.Proofs.YtkhgmobependiaaDoor
