/-
  DERIVED. GIVEN WITH THE SEED: THE CARDS: each row of YtaecamnlimlpkabDoorRows.lean that lists a variable, with what it lists TIED to the program's text (the seventh form; the later family's looks); each row that meets fmt, with fmt's text TOLD by the authors' own Lean function (tested against real Go, not proved from fmt's source: count such statements apart). THE CARD IS WHAT COUNTS. Prove the row's statement (the work); the ties are given (YtaecamnlimlpkabDoorTie.lean); close each card by the builder's one call (the guide's Derived/Test/ToyasCard.lean, 'card_holds'). Laid BY PROGRAM, IN A SANDBOX (cutbox-door.mjs). By AI agents, Wed Nov 11 2026. No macro, syntax, notation, axiom, sorry.
-/
import Derived.Test.YtaecamnlimlpkabDoorRows
import GoSem.ClaimSeven
namespace Go.Proofs.YtaecamnlimlpkabDoor
namespace Rows

/-- THE TIED CARD OF 'tapestrierlaw4.TokEscapes'. -/
def tokEscapesCard : Claim7 := { stood := { row := tokEscapesRow, standIns := [], harness := (true, "d308f3db04f158f594c466d83aa6aaa4ee45044b46d77c0995b1d8866ae73dd4"), looks := false }, kinds := [], alts := [], laidByText := true, laidKinds := [.data, .data, .pinned], laidTests := true, laidLooks := .later }
def TokEscapesCardSaid : Prop := Claim7.holds Tryd.pinned (.plain (OpenSpec.ofChange tokEscapesSpec)) tokEscapesCard

/-- THE TIED CARD OF 'tapestrierlaw4.TokSigns'. -/
def tokSignsCard : Claim7 := { stood := { row := tokSignsRow, standIns := [], harness := (true, "d308f3db04f158f594c466d83aa6aaa4ee45044b46d77c0995b1d8866ae73dd4"), looks := false }, kinds := [], alts := [], laidByText := true, laidKinds := [.data, .data, .pinned], laidTests := true, laidLooks := .later }
def TokSignsCardSaid : Prop := Claim7.holds Tryd.pinned (.plain (OpenSpec.ofChange tokSignsSpec)) tokSignsCard

/-- THE TIED CARD OF 'tapestrierlaw4.TokParts'. -/
def tokPartsCard : Claim7 := { stood := { row := tokPartsRow, standIns := [], harness := (true, "d308f3db04f158f594c466d83aa6aaa4ee45044b46d77c0995b1d8866ae73dd4"), looks := false }, kinds := [], alts := [], laidByText := true, laidKinds := [.data, .data, .pinned], laidTests := true, laidLooks := .later }
def TokPartsCardSaid : Prop := Claim7.holds Tryd.pinned (.plain (OpenSpec.ofChange tokPartsSpec)) tokPartsCard

/-- THE TIED CARD OF 'tapestrierlaw4.TokKinds'. -/
def tokKindsCard : Claim7 := { stood := { row := tokKindsRow, standIns := [], harness := (true, "d308f3db04f158f594c466d83aa6aaa4ee45044b46d77c0995b1d8866ae73dd4"), looks := false }, kinds := [], alts := [], laidByText := true, laidKinds := [.data, .data, .data, .data, .data, .pinned], laidTests := true, laidLooks := .later }
def TokKindsCardSaid : Prop := Claim7.holds Tryd.pinned (.plain (OpenSpec.ofChange tokKindsSpec)) tokKindsCard

/-- THE TIED CARD OF 'tapestrierlaw4.TokWhite'. -/
def tokWhiteCard : Claim7 := { stood := { row := tokWhiteRow, standIns := [], harness := (true, "d308f3db04f158f594c466d83aa6aaa4ee45044b46d77c0995b1d8866ae73dd4"), looks := false }, kinds := [], alts := [], laidByText := true, laidKinds := [.data, .data, .pinned], laidTests := true, laidLooks := .later }
def TokWhiteCardSaid : Prop := Claim7.holds Tryd.pinned (.plain (OpenSpec.ofChange tokWhiteSpec)) tokWhiteCard

/-- THE SECOND FORM's CARD OF 'tapestrierlaw4.TokEscapes'. -/
def tokEscapesUptoCard : Claim7 := { stood := { row := tokEscapesUptoRow, standIns := [], harness := (true, "d308f3db04f158f594c466d83aa6aaa4ee45044b46d77c0995b1d8866ae73dd4"), looks := false }, kinds := [], alts := [], laidByText := true, laidKinds := [.data, .data, .pinned], laidTests := true, laidLooks := .later }
def TokEscapesUptoCardSaid : Prop := Claim7.holds Tryd.pinned (.plain (OpenSpec.upto tokEscapesSpec)) tokEscapesUptoCard

/-- THE SECOND FORM's CARD OF 'tapestrierlaw4.TokSigns'. -/
def tokSignsUptoCard : Claim7 := { stood := { row := tokSignsUptoRow, standIns := [], harness := (true, "d308f3db04f158f594c466d83aa6aaa4ee45044b46d77c0995b1d8866ae73dd4"), looks := false }, kinds := [], alts := [], laidByText := true, laidKinds := [.data, .data, .pinned], laidTests := true, laidLooks := .later }
def TokSignsUptoCardSaid : Prop := Claim7.holds Tryd.pinned (.plain (OpenSpec.upto tokSignsSpec)) tokSignsUptoCard

/-- THE SECOND FORM's CARD OF 'tapestrierlaw4.TokParts'. -/
def tokPartsUptoCard : Claim7 := { stood := { row := tokPartsUptoRow, standIns := [], harness := (true, "d308f3db04f158f594c466d83aa6aaa4ee45044b46d77c0995b1d8866ae73dd4"), looks := false }, kinds := [], alts := [], laidByText := true, laidKinds := [.data, .data, .pinned], laidTests := true, laidLooks := .later }
def TokPartsUptoCardSaid : Prop := Claim7.holds Tryd.pinned (.plain (OpenSpec.upto tokPartsSpec)) tokPartsUptoCard

/-- THE SECOND FORM's CARD OF 'tapestrierlaw4.TokKinds'. -/
def tokKindsUptoCard : Claim7 := { stood := { row := tokKindsUptoRow, standIns := [], harness := (true, "d308f3db04f158f594c466d83aa6aaa4ee45044b46d77c0995b1d8866ae73dd4"), looks := false }, kinds := [], alts := [], laidByText := true, laidKinds := [.data, .data, .data, .data, .data, .pinned], laidTests := true, laidLooks := .later }
def TokKindsUptoCardSaid : Prop := Claim7.holds Tryd.pinned (.plain (OpenSpec.upto tokKindsSpec)) tokKindsUptoCard

/-- THE SECOND FORM's CARD OF 'tapestrierlaw4.TokWhite'. -/
def tokWhiteUptoCard : Claim7 := { stood := { row := tokWhiteUptoRow, standIns := [], harness := (true, "d308f3db04f158f594c466d83aa6aaa4ee45044b46d77c0995b1d8866ae73dd4"), looks := false }, kinds := [], alts := [], laidByText := true, laidKinds := [.data, .data, .pinned], laidTests := true, laidLooks := .later }
def TokWhiteUptoCardSaid : Prop := Claim7.holds Tryd.pinned (.plain (OpenSpec.upto tokWhiteSpec)) tokWhiteUptoCard
end Rows
end Go.Proofs.YtaecamnlimlpkabDoor
