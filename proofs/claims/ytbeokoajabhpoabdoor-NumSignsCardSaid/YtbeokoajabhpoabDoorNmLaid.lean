/- From what the row lists of the library's tables to what the walk asks of the world; and a world that holds them, for the witness. -/
import Derived.Test.YtbeokoajabhpoabDoorCards
import Derived.Test.YtbeokoajabhpoabDoorTie
import Derived.WalkKit
import Derived.ProofKit
import Derived.OpenShut
import Derived.ShutString
import Derived.ChangeOld
import Derived.Below
import Derived.Deep.DeepHandedRow
import Derived.Lib.LaidTab
import Derived.Test.YtbeokoajabhpoabDoorNmOf
namespace Go.Proofs.YtbeokoajabhpoabDoor
open Go Go.RowKit Go.Shelf Go.Lib

theorem ownNone : ownKnob Tryd.prog.godebug = none := by kernel_rfl
theorem laidOut : laidOutB Tryd.prog = true := by kernel_rfl
theorem laid_pow_eq : (Rows.laid_internal_strconv_uint64pow10 : DataW Unit) = tabData .u64 pow10Tab := by kernel_rfl

/-- The three tables as every row of this seat lists them. -/
def laidThree : List (String × DataW Unit) := [("math/bits.deBruijn32tab", Rows.laid_math_bits_deBruijn32tab), ("math/bits.deBruijn64tab", Rows.laid_math_bits_deBruijn64tab), ("internal/strconv.uint64pow10", Rows.laid_internal_strconv_uint64pow10)]

theorem pow_of_laid {W : World} (h : laidMetH Tryd.prog laidThree W) : TabIs Tryd.prog W "internal/strconv.uint64pow10" .u64 pow10Tab := by
  unfold laidThree at h
  rw [laid_pow_eq] at h
  obtain ⟨ps, ⟨_, _, _, _, _, _, _, _, _, _, ⟨_, _, _, _, _, _, _, _, _, _, ⟨g', t', cs, fuel, p, q, hg', ht', hvar, hd, _, _⟩, _⟩, _⟩, _⟩ := h
  have hg : Tryd.prog.globalNamed "internal/strconv.uint64pow10" = some 1 := by kernel_rfl
  obtain rfl := Option.some.inj (hg.symm.trans hg')
  have hty : (Tryd.prog.globals[1]?).map (·.type) = some 56 := by kernel_rfl
  obtain rfl := Option.some.inj (hty.symm.trans ht')
  unfold TabIs
  rw [hvar, ← cells_of_tab Tryd.underlying56 Tryd.underlying46 (by kernel_rfl) (by kernel_rfl) hd]

theorem tabs_of_laid {W : World} (h : laidMetH Tryd.prog laidThree W) (hS : W.ShapedOpen Tryd.prog) : Tabs W.heap.size W := by
  obtain ⟨m, hm⟩ := Tryd.laysM145.s1_3 W hS
  exact ⟨World.block_lt_of_cell? W ⟨_, 0, none⟩ hm, ⟨m, hm⟩, tabBelow_of_tabIs (pow_of_laid h)⟩

/-- The cells that a listed table's datum tells. -/
def cellsIn : DataW Unit → Array Value
  | .agg parts => (parts.map fun d => match d with
    | .lit (.int k z) => Value.int k z
    | _ => .bool false).toArray
  | _ => #[]
/-- The cells of a block changed for others. -/
def newCells (cs : Array Value) : Obj → Obj
  | .cells _ t frozen => .cells cs t frozen
  | o => o

/-- A WORLD FOR THE WITNESS: the three tables hold what their initialisers lay. -/
def laidIn (w : World) : World :=
  { w with heap := ((w.heap.modify 2 (newCells (cellsIn Rows.laid_math_bits_deBruijn32tab))).modify 3 (newCells (cellsIn Rows.laid_math_bits_deBruijn64tab))).modify 1 (newCells (cellsIn Rows.laid_internal_strconv_uint64pow10)) }

end Go.Proofs.YtbeokoajabhpoabDoor
