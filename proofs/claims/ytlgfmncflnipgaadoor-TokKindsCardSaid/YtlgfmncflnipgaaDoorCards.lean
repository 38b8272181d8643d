/-
  DERIVED. GIVEN WITH THE SEED: THE CARDS: each row of YtlgfmncflnipgaaDoorRows.lean that lists a variable, with what it lists TIED to the program's text (the seventh form; the later family's looks); each row that meets fmt, with fmt's text TOLD by the authors' own Lean function (tested against real Go, not proved from fmt's source: count such statements apart). THE CARD IS WHAT COUNTS. Prove the row's statement (the work); the ties are given (YtlgfmncflnipgaaDoorTie.lean); close each card by the builder's one call (the guide's Derived/Test/ToyasCard.lean, 'card_holds'). Laid BY PROGRAM, IN A SANDBOX (cutbox-door.mjs). By AI agents, Wed Nov 11 2026. No macro, syntax, notation, axiom, sorry.
-/
import Derived.Test.YtlgfmncflnipgaaDoorRows
import GoSem.ClaimSeven
namespace Go.Proofs.YtlgfmncflnipgaaDoor
namespace Rows

/-- THE TIED CARD OF 'tapestrierlaw4.TokKinds'. -/
def tokKindsCard : Claim7 := { stood := { row := tokKindsRow, standIns := [], harness := (true, "530adae6fdabc9cd2adb6404c31cea5003b3734c77006eb153e83fd7d1b2d384"), looks := false }, kinds := [], alts := [], laidByText := true, laidKinds := [.data, .data, .data, .data, .data, .pinned], laidTests := true, laidLooks := .later }
def TokKindsCardSaid : Prop := Claim7.holds Tryd.pinned (.plain (OpenSpec.ofChange tokKindsSpec)) tokKindsCard

/-- THE SECOND FORM's CARD OF 'tapestrierlaw4.TokKinds'. -/
def tokKindsUptoCard : Claim7 := { stood := { row := tokKindsUptoRow, standIns := [], harness := (true, "530adae6fdabc9cd2adb6404c31cea5003b3734c77006eb153e83fd7d1b2d384"), looks := false }, kinds := [], alts := [], laidByText := true, laidKinds := [.data, .data, .data, .data, .data, .pinned], laidTests := true, laidLooks := .later }
def TokKindsUptoCardSaid : Prop := Claim7.holds Tryd.pinned (.plain (OpenSpec.upto tokKindsSpec)) tokKindsUptoCard
end Rows
end Go.Proofs.YtlgfmncflnipgaaDoor
