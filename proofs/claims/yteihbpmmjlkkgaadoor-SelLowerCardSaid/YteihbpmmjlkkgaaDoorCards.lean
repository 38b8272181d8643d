/-
  DERIVED. GIVEN WITH THE SEED: THE CARDS: each row of YteihbpmmjlkkgaaDoorRows.lean that lists a variable, with what it lists TIED to the program's text (the seventh form; the later family's looks); each row that meets fmt, with fmt's text TOLD by the authors' own Lean function (tested against real Go, not proved from fmt's source: count such statements apart). THE CARD IS WHAT COUNTS. Prove the row's statement (the work); the ties are given (YteihbpmmjlkkgaaDoorTie.lean); close each card by the builder's one call (the guide's Derived/Test/ToyasCard.lean, 'card_holds'). Laid BY PROGRAM, IN A SANDBOX (cutbox-door.mjs). By AI agents, Wed Nov 11 2026. No macro, syntax, notation, axiom, sorry.
-/
import Derived.Test.YteihbpmmjlkkgaaDoorRows
import GoSem.ClaimSeven
namespace Go.Proofs.YteihbpmmjlkkgaaDoor
namespace Rows

/-- THE TIED CARD OF 'tapestrierlaw8.SelLower'. -/
def selLowerCard : Claim7 := { stood := { row := selLowerRow, standIns := [], harness := (true, "96e2c7adc3a3700b4a638a8b30888232611637c2bfaea84a4e7aa55b820eff7e"), looks := false }, kinds := [], alts := [], laidByText := true, laidKinds := [.data], laidTests := true, laidLooks := .later }
def SelLowerCardSaid : Prop := Claim7.holds Tryd.pinned (.plain (OpenSpec.ofChange selLowerSpec)) selLowerCard

/-- THE SECOND FORM's CARD OF 'tapestrierlaw8.SelLower'. -/
def selLowerUptoCard : Claim7 := { stood := { row := selLowerUptoRow, standIns := [], harness := (true, "96e2c7adc3a3700b4a638a8b30888232611637c2bfaea84a4e7aa55b820eff7e"), looks := false }, kinds := [], alts := [], laidByText := true, laidKinds := [.data], laidTests := true, laidLooks := .later }
def SelLowerUptoCardSaid : Prop := Claim7.holds Tryd.pinned (.plain (OpenSpec.upto selLowerSpec)) selLowerUptoCard
end Rows
end Go.Proofs.YteihbpmmjlkkgaaDoor
