/-
  DERIVED. GIVEN WITH THE SEED: THE CARDS: each row of YtacdgfjmmomkpaaDoorRows.lean that lists a variable, with what it lists TIED to the program's text (the seventh form; the later family's looks); each row that meets fmt, with fmt's text TOLD by the authors' own Lean function (tested against real Go, not proved from fmt's source: count such statements apart). THE CARD IS WHAT COUNTS. Prove the row's statement (the work); the ties are given (YtacdgfjmmomkpaaDoorTie.lean); close each card by the builder's one call (the guide's Derived/Test/ToyasCard.lean, 'card_holds'). Laid BY PROGRAM, IN A SANDBOX (cutbox-door.mjs). By AI agents, Wed Nov 11 2026. No macro, syntax, notation, axiom, sorry.
-/
import Derived.Test.YtacdgfjmmomkpaaDoorRows
import GoSem.ClaimSeven
namespace Go.Proofs.YtacdgfjmmomkpaaDoor
namespace Rows

/-- THE TIED CARD OF 'tapestrierlaw16.ComputeOf'. -/
def computeOfCard : Claim7 := { stood := { row := computeOfRow, standIns := [], harness := (true, "2f94c488ed68279b1d5329bbdc93bafa7cad4cb9842f4c3986d7649e0dc70688"), looks := false }, kinds := [], alts := [], laidByText := true, laidKinds := [.data], laidTests := true, laidLooks := .later }
def ComputeOfCardSaid : Prop := Claim7.holds Tryd.pinned (.plain (OpenSpec.ofChange computeOfSpec)) computeOfCard

/-- THE TIED CARD OF 'tapestrierlaw16.ComputeNone'. -/
def computeNoneCard : Claim7 := { stood := { row := computeNoneRow, standIns := [], harness := (true, "2f94c488ed68279b1d5329bbdc93bafa7cad4cb9842f4c3986d7649e0dc70688"), looks := false }, kinds := [], alts := [], laidByText := true, laidKinds := [.data], laidTests := true, laidLooks := .later }
def ComputeNoneCardSaid : Prop := Claim7.holds Tryd.pinned (.plain (OpenSpec.ofChange computeNoneSpec)) computeNoneCard

/-- THE TIED CARD OF 'tapestrierlaw16.ComputeEms'. -/
def computeEmsCard : Claim7 := { stood := { row := computeEmsRow, standIns := [], harness := (true, "2f94c488ed68279b1d5329bbdc93bafa7cad4cb9842f4c3986d7649e0dc70688"), looks := false }, kinds := [], alts := [], laidByText := true, laidKinds := [.data], laidTests := true, laidLooks := .later }
def ComputeEmsCardSaid : Prop := Claim7.holds Tryd.pinned (.plain (OpenSpec.ofChange computeEmsSpec)) computeEmsCard

/-- THE TIED CARD OF 'tapestrierlaw16.ComputeApart'. -/
def computeApartCard : Claim7 := { stood := { row := computeApartRow, standIns := [], harness := (true, "2f94c488ed68279b1d5329bbdc93bafa7cad4cb9842f4c3986d7649e0dc70688"), looks := false }, kinds := [], alts := [], laidByText := true, laidKinds := [.data], laidTests := true, laidLooks := .later }
def ComputeApartCardSaid : Prop := Claim7.holds Tryd.pinned (.plain (OpenSpec.ofChange computeApartSpec)) computeApartCard

/-- THE TIED CARD OF 'tapestrierlaw16.ComputeKinds'. -/
def computeKindsCard : Claim7 := { stood := { row := computeKindsRow, standIns := [], harness := (true, "2f94c488ed68279b1d5329bbdc93bafa7cad4cb9842f4c3986d7649e0dc70688"), looks := false }, kinds := [], alts := [], laidByText := true, laidKinds := [.data], laidTests := true, laidLooks := .later }
def ComputeKindsCardSaid : Prop := Claim7.holds Tryd.pinned (.plain (OpenSpec.ofChange computeKindsSpec)) computeKindsCard

/-- THE SECOND FORM's CARD OF 'tapestrierlaw16.ComputeOf'. -/
def computeOfUptoCard : Claim7 := { stood := { row := computeOfUptoRow, standIns := [], harness := (true, "2f94c488ed68279b1d5329bbdc93bafa7cad4cb9842f4c3986d7649e0dc70688"), looks := false }, kinds := [], alts := [], laidByText := true, laidKinds := [.data], laidTests := true, laidLooks := .later }
def ComputeOfUptoCardSaid : Prop := Claim7.holds Tryd.pinned (.plain (OpenSpec.upto computeOfSpec)) computeOfUptoCard

/-- THE SECOND FORM's CARD OF 'tapestrierlaw16.ComputeNone'. -/
def computeNoneUptoCard : Claim7 := { stood := { row := computeNoneUptoRow, standIns := [], harness := (true, "2f94c488ed68279b1d5329bbdc93bafa7cad4cb9842f4c3986d7649e0dc70688"), looks := false }, kinds := [], alts := [], laidByText := true, laidKinds := [.data], laidTests := true, laidLooks := .later }
def ComputeNoneUptoCardSaid : Prop := Claim7.holds Tryd.pinned (.plain (OpenSpec.upto computeNoneSpec)) computeNoneUptoCard

/-- THE SECOND FORM's CARD OF 'tapestrierlaw16.ComputeEms'. -/
def computeEmsUptoCard : Claim7 := { stood := { row := computeEmsUptoRow, standIns := [], harness := (true, "2f94c488ed68279b1d5329bbdc93bafa7cad4cb9842f4c3986d7649e0dc70688"), looks := false }, kinds := [], alts := [], laidByText := true, laidKinds := [.data], laidTests := true, laidLooks := .later }
def ComputeEmsUptoCardSaid : Prop := Claim7.holds Tryd.pinned (.plain (OpenSpec.upto computeEmsSpec)) computeEmsUptoCard

/-- THE SECOND FORM's CARD OF 'tapestrierlaw16.ComputeApart'. -/
def computeApartUptoCard : Claim7 := { stood := { row := computeApartUptoRow, standIns := [], harness := (true, "2f94c488ed68279b1d5329bbdc93bafa7cad4cb9842f4c3986d7649e0dc70688"), looks := false }, kinds := [], alts := [], laidByText := true, laidKinds := [.data], laidTests := true, laidLooks := .later }
def ComputeApartUptoCardSaid : Prop := Claim7.holds Tryd.pinned (.plain (OpenSpec.upto computeApartSpec)) computeApartUptoCard

/-- THE SECOND FORM's CARD OF 'tapestrierlaw16.ComputeKinds'. -/
def computeKindsUptoCard : Claim7 := { stood := { row := computeKindsUptoRow, standIns := [], harness := (true, "2f94c488ed68279b1d5329bbdc93bafa7cad4cb9842f4c3986d7649e0dc70688"), looks := false }, kinds := [], alts := [], laidByText := true, laidKinds := [.data], laidTests := true, laidLooks := .later }
def ComputeKindsUptoCardSaid : Prop := Claim7.holds Tryd.pinned (.plain (OpenSpec.upto computeKindsSpec)) computeKindsUptoCard
end Rows
end Go.Proofs.YtacdgfjmmomkpaaDoor
