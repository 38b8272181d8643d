/- From what the row lists of the library's two tables to what the walk asks of the world; and a world that holds them, for the witness. -/
import Derived.Test.YtpbgefgoccmncabDoorCards
import Derived.Test.YtpbgefgoccmncabDoorTie
import Derived.WalkKit
import Derived.ProofKit
import Derived.OpenShut
import Derived.ShutString
import Derived.ChangeOld
import Derived.Below
import Derived.Deep.DeepHandedRow
import Derived.Lib.LaidTab
import Derived.Lib.LaidU8T
import Derived.Test.YtpbgefgoccmncabDoorDec
namespace Go.Proofs.YtpbgefgoccmncabDoor
open Go Go.RowKit Go.Shelf Go.Lib

theorem ownNone : ownKnob Tryd.prog.godebug = none := by kernel_rfl
theorem laidOut : laidOutB Tryd.prog = true := by kernel_rfl
def u8ren : Go.Shelf.Ren := ⟨fun n => n, fun | 5 => 5 | 119 => 45 | 138 => 47 | 139 => 48 | n => n, fun | 3 => 0 | 4 => 1 | n => n⟩
theorem u8types : U8Types Tryd.prog u8ren := ⟨Tryd.underlying5, Tryd.underlying45, Tryd.underlying47, Tryd.underlying48⟩
theorem u8extra : U8Extra Tryd.prog u8ren := ⟨by kernel_rfl, by kernel_rfl, by kernel_rfl, by kernel_rfl, by kernel_rfl, by kernel_rfl, by kernel_rfl⟩
theorem laid_first_eq : Rows.laid_unicode_utf8_first = firstData := by kernel_rfl
theorem laid_accept_eq : (Rows.laid_unicode_utf8_acceptRanges : DataW Unit) = acceptData := by kernel_rfl

/-- The two tables as every row of this seat lists them. -/
def laidTwo : List (String × DataW Unit) := [("unicode/utf8.acceptRanges", Rows.laid_unicode_utf8_acceptRanges), ("unicode/utf8.first", Rows.laid_unicode_utf8_first)]

theorem tabs_of_laid {W : World} (h : laidMetH Tryd.prog laidTwo W) : Tabs W.heap.size W := by
  have hT : Lib.Utf8Tabs 0 1 W := utf8Tabs_of_readsT u8types u8extra
    (by rw [← laid_first_eq]; exact Lib.laidMet.reads h (by unfold laidTwo; exact List.mem_cons_of_mem _ (List.mem_cons_self ..)))
    (by rw [← laid_accept_eq]; exact Lib.laidMet.reads h (by unfold laidTwo; exact List.mem_cons_self ..))
  exact ⟨World.block_lt_of_cell? W ⟨_, 0, none⟩ (hT.1 0 (by omega)), World.block_lt_of_cell? W ⟨_, 2 * 0, none⟩ (hT.2 0 (by omega)).1, hT⟩

def firstCells : Array Value := (firstTab.map fun z => Value.int .u8 z).toArray
def acceptCells : Array Value := ((List.range 16).flatMap fun i => [Value.int .u8 (accLo i), Value.int .u8 (accHi i)]).toArray

/-- The cells of a block changed for others. -/
def newCells (cs : Array Value) : Obj → Obj
  | .cells _ t frozen => .cells cs t frozen
  | o => o

/-- A WORLD FOR THE WITNESS: the two tables hold what their initialisers lay. -/
def laidIn (w : World) : World :=
  { w with heap := (w.heap.modify 0 (newCells firstCells)).modify 1 (newCells acceptCells) }

end Go.Proofs.YtpbgefgoccmncabDoor
