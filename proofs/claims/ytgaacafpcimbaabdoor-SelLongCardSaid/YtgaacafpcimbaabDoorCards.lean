/-
  DERIVED. GIVEN WITH THE SEED: THE CARDS: each row of YtgaacafpcimbaabDoorRows.lean that lists a variable, with what it lists TIED to the program's text (the seventh form; the later family's looks); each row that meets fmt, with fmt's text TOLD by the authors' own Lean function (tested against real Go, not proved from fmt's source: count such statements apart). THE CARD IS WHAT COUNTS. Prove the row's statement (the work); the ties are given (YtgaacafpcimbaabDoorTie.lean); close each card by the builder's one call (the guide's Derived/Test/ToyasCard.lean, 'card_holds'). Laid BY PROGRAM, IN A SANDBOX (cutbox-door.mjs). By AI agents, Wed Nov 11 2026. No macro, syntax, notation, axiom, sorry.
-/
import Derived.Test.YtgaacafpcimbaabDoorRows
import GoSem.ClaimSeven
namespace Go.Proofs.YtgaacafpcimbaabDoor
namespace Rows

/-- THE TIED CARD OF 'tapestrierlaw8.SelNth'. -/
def selNthCard : Claim7 := { stood := { row := selNthRow, standIns := [], harness := (true, "6d6216a63d9bd057f8bcf90e25697e2289d9fc8b48a07be62184a3a2ab83540d"), looks := false }, kinds := [], alts := [], laidByText := true, laidKinds := [.data], laidTests := true, laidLooks := .later }
def SelNthCardSaid : Prop := Claim7.holds Tryd.pinned (.plain (OpenSpec.ofChange selNthSpec)) selNthCard

/-- THE TIED CARD OF 'tapestrierlaw8.SelCombs'. -/
def selCombsCard : Claim7 := { stood := { row := selCombsRow, standIns := [], harness := (true, "6d6216a63d9bd057f8bcf90e25697e2289d9fc8b48a07be62184a3a2ab83540d"), looks := false }, kinds := [], alts := [], laidByText := true, laidKinds := [.data], laidTests := true, laidLooks := .later }
def SelCombsCardSaid : Prop := Claim7.holds Tryd.pinned (.plain (OpenSpec.ofChange selCombsSpec)) selCombsCard

/-- THE TIED CARD OF 'tapestrierlaw8.SelNone'. -/
def selNoneCard : Claim7 := { stood := { row := selNoneRow, standIns := [], harness := (true, "6d6216a63d9bd057f8bcf90e25697e2289d9fc8b48a07be62184a3a2ab83540d"), looks := false }, kinds := [], alts := [], laidByText := true, laidKinds := [.data], laidTests := true, laidLooks := .later }
def SelNoneCardSaid : Prop := Claim7.holds Tryd.pinned (.plain (OpenSpec.ofChange selNoneSpec)) selNoneCard

/-- THE TIED CARD OF 'tapestrierlaw8.SelSome'. -/
def selSomeCard : Claim7 := { stood := { row := selSomeRow, standIns := [], harness := (true, "6d6216a63d9bd057f8bcf90e25697e2289d9fc8b48a07be62184a3a2ab83540d"), looks := false }, kinds := [], alts := [], laidByText := true, laidKinds := [.data], laidTests := true, laidLooks := .later }
def SelSomeCardSaid : Prop := Claim7.holds Tryd.pinned (.plain (OpenSpec.ofChange selSomeSpec)) selSomeCard

/-- THE TIED CARD OF 'tapestrierlaw8.SelLong'. -/
def selLongCard : Claim7 := { stood := { row := selLongRow, standIns := [], harness := (true, "6d6216a63d9bd057f8bcf90e25697e2289d9fc8b48a07be62184a3a2ab83540d"), looks := false }, kinds := [], alts := [], laidByText := true, laidKinds := [.data], laidTests := true, laidLooks := .later }
def SelLongCardSaid : Prop := Claim7.holds Tryd.pinned (.plain (OpenSpec.ofChange selLongSpec)) selLongCard

/-- THE SECOND FORM's CARD OF 'tapestrierlaw8.SelNth'. -/
def selNthUptoCard : Claim7 := { stood := { row := selNthUptoRow, standIns := [], harness := (true, "6d6216a63d9bd057f8bcf90e25697e2289d9fc8b48a07be62184a3a2ab83540d"), looks := false }, kinds := [], alts := [], laidByText := true, laidKinds := [.data], laidTests := true, laidLooks := .later }
def SelNthUptoCardSaid : Prop := Claim7.holds Tryd.pinned (.plain (OpenSpec.upto selNthSpec)) selNthUptoCard

/-- THE SECOND FORM's CARD OF 'tapestrierlaw8.SelCombs'. -/
def selCombsUptoCard : Claim7 := { stood := { row := selCombsUptoRow, standIns := [], harness := (true, "6d6216a63d9bd057f8bcf90e25697e2289d9fc8b48a07be62184a3a2ab83540d"), looks := false }, kinds := [], alts := [], laidByText := true, laidKinds := [.data], laidTests := true, laidLooks := .later }
def SelCombsUptoCardSaid : Prop := Claim7.holds Tryd.pinned (.plain (OpenSpec.upto selCombsSpec)) selCombsUptoCard

/-- THE SECOND FORM's CARD OF 'tapestrierlaw8.SelNone'. -/
def selNoneUptoCard : Claim7 := { stood := { row := selNoneUptoRow, standIns := [], harness := (true, "6d6216a63d9bd057f8bcf90e25697e2289d9fc8b48a07be62184a3a2ab83540d"), looks := false }, kinds := [], alts := [], laidByText := true, laidKinds := [.data], laidTests := true, laidLooks := .later }
def SelNoneUptoCardSaid : Prop := Claim7.holds Tryd.pinned (.plain (OpenSpec.upto selNoneSpec)) selNoneUptoCard

/-- THE SECOND FORM's CARD OF 'tapestrierlaw8.SelSome'. -/
def selSomeUptoCard : Claim7 := { stood := { row := selSomeUptoRow, standIns := [], harness := (true, "6d6216a63d9bd057f8bcf90e25697e2289d9fc8b48a07be62184a3a2ab83540d"), looks := false }, kinds := [], alts := [], laidByText := true, laidKinds := [.data], laidTests := true, laidLooks := .later }
def SelSomeUptoCardSaid : Prop := Claim7.holds Tryd.pinned (.plain (OpenSpec.upto selSomeSpec)) selSomeUptoCard

/-- THE SECOND FORM's CARD OF 'tapestrierlaw8.SelLong'. -/
def selLongUptoCard : Claim7 := { stood := { row := selLongUptoRow, standIns := [], harness := (true, "6d6216a63d9bd057f8bcf90e25697e2289d9fc8b48a07be62184a3a2ab83540d"), looks := false }, kinds := [], alts := [], laidByText := true, laidKinds := [.data], laidTests := true, laidLooks := .later }
def SelLongUptoCardSaid : Prop := Claim7.holds Tryd.pinned (.plain (OpenSpec.upto selLongSpec)) selLongUptoCard
end Rows
end Go.Proofs.YtgaacafpcimbaabDoor
