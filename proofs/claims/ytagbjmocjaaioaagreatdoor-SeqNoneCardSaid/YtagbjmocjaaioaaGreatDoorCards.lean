/-
  DERIVED. GIVEN WITH THE SEED: THE CARDS: each row of YtagbjmocjaaioaaGreatDoorRows.lean that lists a variable, with what it lists TIED to the program's text (the seventh form; the later family's looks); each row that meets fmt, with fmt's text TOLD by the authors' own Lean function (tested against real Go, not proved from fmt's source: count such statements apart). THE CARD IS WHAT COUNTS. Prove the row's statement (the work); the ties are given (YtagbjmocjaaioaaGreatDoorTie.lean); close each card by the builder's one call (the guide's Derived/Test/ToyasCard.lean, 'card_holds'). Laid BY PROGRAM, IN A SANDBOX (cutbox-door.mjs). By AI agents, Wed Nov 11 2026. No macro, syntax, notation, axiom, sorry.
-/
import Derived.Test.YtagbjmocjaaioaaGreatDoorRows
import GoSem.ClaimSeven
namespace Go.Proofs.YtagbjmocjaaioaaGreatDoor
namespace Rows

/-- THE TIED CARD OF 'tapestrierlaw17.SeqSpec'. -/
def seqSpecCard : Claim7 := { stood := { row := seqSpecRow, standIns := [], harness := (true, "aededa30ae8f9d5128893240a5caaada581f7fb03ffd99b0ae4b356f0530f00e"), looks := false }, kinds := [], alts := [], laidByText := true, laidKinds := [.data, .data, .data, .data, .data, .pinned], laidTests := true, laidLooks := .later }
def SeqSpecCardSaid : Prop := Claim7.holds Tryz.pinned (.plain (OpenSpec.ofChange seqSpecSpec)) seqSpecCard

/-- THE TIED CARD OF 'tapestrierlaw17.SeqRun'. -/
def seqRunCard : Claim7 := { stood := { row := seqRunRow, standIns := [], harness := (true, "aededa30ae8f9d5128893240a5caaada581f7fb03ffd99b0ae4b356f0530f00e"), looks := false }, kinds := [], alts := [], laidByText := true, laidKinds := [.data, .data, .data, .data, .data, .pinned], laidTests := true, laidLooks := .later }
def SeqRunCardSaid : Prop := Claim7.holds Tryz.pinned (.plain (OpenSpec.ofChange seqRunSpec)) seqRunCard

/-- THE TIED CARD OF 'tapestrierlaw17.SeqParent'. -/
def seqParentCard : Claim7 := { stood := { row := seqParentRow, standIns := [], harness := (true, "aededa30ae8f9d5128893240a5caaada581f7fb03ffd99b0ae4b356f0530f00e"), looks := false }, kinds := [], alts := [], laidByText := true, laidKinds := [.data, .data, .data, .data, .data, .pinned], laidTests := true, laidLooks := .later }
def SeqParentCardSaid : Prop := Claim7.holds Tryz.pinned (.plain (OpenSpec.ofChange seqParentSpec)) seqParentCard

/-- THE TIED CARD OF 'tapestrierlaw17.SeqMore'. -/
def seqMoreCard : Claim7 := { stood := { row := seqMoreRow, standIns := [], harness := (true, "aededa30ae8f9d5128893240a5caaada581f7fb03ffd99b0ae4b356f0530f00e"), looks := false }, kinds := [], alts := [], laidByText := true, laidKinds := [.data, .data, .data, .data, .data, .pinned], laidTests := true, laidLooks := .later }
def SeqMoreCardSaid : Prop := Claim7.holds Tryz.pinned (.plain (OpenSpec.ofChange seqMoreSpec)) seqMoreCard

/-- THE TIED CARD OF 'tapestrierlaw17.SeqNone'. -/
def seqNoneCard : Claim7 := { stood := { row := seqNoneRow, standIns := [], harness := (true, "aededa30ae8f9d5128893240a5caaada581f7fb03ffd99b0ae4b356f0530f00e"), looks := false }, kinds := [], alts := [], laidByText := true, laidKinds := [.data, .data, .data, .data, .data, .pinned], laidTests := true, laidLooks := .later }
def SeqNoneCardSaid : Prop := Claim7.holds Tryz.pinned (.plain (OpenSpec.ofChange seqNoneSpec)) seqNoneCard

/-- THE SECOND FORM's CARD OF 'tapestrierlaw17.SeqSpec'. -/
def seqSpecUptoCard : Claim7 := { stood := { row := seqSpecUptoRow, standIns := [], harness := (true, "aededa30ae8f9d5128893240a5caaada581f7fb03ffd99b0ae4b356f0530f00e"), looks := false }, kinds := [], alts := [], laidByText := true, laidKinds := [.data, .data, .data, .data, .data, .pinned], laidTests := true, laidLooks := .later }
def SeqSpecUptoCardSaid : Prop := Claim7.holds Tryz.pinned (.plain (OpenSpec.upto seqSpecSpec)) seqSpecUptoCard

/-- THE SECOND FORM's CARD OF 'tapestrierlaw17.SeqRun'. -/
def seqRunUptoCard : Claim7 := { stood := { row := seqRunUptoRow, standIns := [], harness := (true, "aededa30ae8f9d5128893240a5caaada581f7fb03ffd99b0ae4b356f0530f00e"), looks := false }, kinds := [], alts := [], laidByText := true, laidKinds := [.data, .data, .data, .data, .data, .pinned], laidTests := true, laidLooks := .later }
def SeqRunUptoCardSaid : Prop := Claim7.holds Tryz.pinned (.plain (OpenSpec.upto seqRunSpec)) seqRunUptoCard

/-- THE SECOND FORM's CARD OF 'tapestrierlaw17.SeqParent'. -/
def seqParentUptoCard : Claim7 := { stood := { row := seqParentUptoRow, standIns := [], harness := (true, "aededa30ae8f9d5128893240a5caaada581f7fb03ffd99b0ae4b356f0530f00e"), looks := false }, kinds := [], alts := [], laidByText := true, laidKinds := [.data, .data, .data, .data, .data, .pinned], laidTests := true, laidLooks := .later }
def SeqParentUptoCardSaid : Prop := Claim7.holds Tryz.pinned (.plain (OpenSpec.upto seqParentSpec)) seqParentUptoCard

/-- THE SECOND FORM's CARD OF 'tapestrierlaw17.SeqMore'. -/
def seqMoreUptoCard : Claim7 := { stood := { row := seqMoreUptoRow, standIns := [], harness := (true, "aededa30ae8f9d5128893240a5caaada581f7fb03ffd99b0ae4b356f0530f00e"), looks := false }, kinds := [], alts := [], laidByText := true, laidKinds := [.data, .data, .data, .data, .data, .pinned], laidTests := true, laidLooks := .later }
def SeqMoreUptoCardSaid : Prop := Claim7.holds Tryz.pinned (.plain (OpenSpec.upto seqMoreSpec)) seqMoreUptoCard

/-- THE SECOND FORM's CARD OF 'tapestrierlaw17.SeqNone'. -/
def seqNoneUptoCard : Claim7 := { stood := { row := seqNoneUptoRow, standIns := [], harness := (true, "aededa30ae8f9d5128893240a5caaada581f7fb03ffd99b0ae4b356f0530f00e"), looks := false }, kinds := [], alts := [], laidByText := true, laidKinds := [.data, .data, .data, .data, .data, .pinned], laidTests := true, laidLooks := .later }
def SeqNoneUptoCardSaid : Prop := Claim7.holds Tryz.pinned (.plain (OpenSpec.upto seqNoneSpec)) seqNoneUptoCard
end Rows
end Go.Proofs.YtagbjmocjaaioaaGreatDoor
