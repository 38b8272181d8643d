/- From what the row lists of the tables to what the walk asks of the world; and a world that holds them, for the witness. -/
import Derived.Test.YtlgfmncflnipgaaDoorCards
import Derived.Test.YtlgfmncflnipgaaDoorTie
import Derived.WalkKit
import Derived.ProofKit
import Derived.OpenShut
import Derived.ShutString
import Derived.ChangeOld
import Derived.Below
import Derived.Deep.DeepHandedRow
import Derived.Lib.LaidTab
import Derived.Lib.LaidU8T
import Derived.Test.YtlgfmncflnipgaaDoorTkOf
namespace Go.Proofs.YtlgfmncflnipgaaDoor
open Go Go.RowKit Go.Shelf Go.Lib

theorem ownNone : ownKnob Tryd.prog.godebug = none := by kernel_rfl
theorem laidOut : laidOutB Tryd.prog = true := by kernel_rfl
def u8ren : Go.Shelf.Ren := ⟨fun n => n, fun | 5 => 5 | 119 => 74 | 138 => 77 | 139 => 78 | n => n, fun | 3 => 1 | 4 => 2 | n => n⟩
theorem u8types : U8Types Tryd.prog u8ren := ⟨Tryd.underlying5, Tryd.underlying74, Tryd.underlying77, Tryd.underlying78⟩
theorem u8extra : U8Extra Tryd.prog u8ren := ⟨by kernel_rfl, by kernel_rfl, by kernel_rfl, by kernel_rfl, by kernel_rfl, by kernel_rfl, by kernel_rfl⟩
theorem laid_first_eq : Rows.laid_unicode_utf8_first = firstData := by kernel_rfl
theorem laid_accept_eq : (Rows.laid_unicode_utf8_acceptRanges : DataW Unit) = acceptData := by kernel_rfl

/-! ### the table of signs -/
def signNums : List (Int × Int) := [(58, 11), (59, 12), (44, 13), (123, 14), (125, 15), (40, 16), (41, 17), (91, 18), (93, 19)]
def signData : DataW Unit := .agg (signNums.map fun x => .agg ([x.1, x.2].map fun z => .lit (.int .i64 z)))
theorem laid_signs_eq : (Rows.laid_tapestrier_tok_signs : DataW Unit) = signData := by kernel_rfl
theorem cells2 : Tryd.prog.cellsOf 64 = 2 := by kernel_rfl
theorem cells1 : Tryd.prog.cellsOf 3 = 1 := by kernel_rfl
theorem signs_len {W : World} {fuel : Nat} {cs : List Value} {p : List MemPlace} (h : DataW.trod (fun _ => ()) Tryd.prog W 0 (fun _ => true) false fuel 65 cs = some (signData, p)) : cs.length = 18 := by
  have hc : Tryd.prog.cellsOf 65 = 18 := by kernel_rfl
  cases fuel with
  | zero => simp [DataW.trod] at h
  | succ fuel =>
    simp only [DataW.trod, Tryd.underlying65, hc, cells2] at h
    split at h
    · rename_i hl
      simpa using hl
    · cases h
theorem signs_at {W : World} {fuel : Nat} {cs : List Value} {p : List MemPlace} (h : DataW.trod (fun _ => ()) Tryd.prog W 0 (fun _ => true) false fuel 65 cs = some (signData, p)) (i : Nat) (hi : i < 9) :
    ∃ x, signNums[i]? = some x ∧ cs[i * 2]? = some (.int .i64 x.1) ∧ cs[i * 2 + 1]? = some (.int .i64 x.2) := by
  obtain ⟨fuel', d, q, hdi, he⟩ := array_elem Tryd.underlying65 h i hi
  rw [List.getElem?_map] at hdi
  obtain ⟨x, hx, rfl⟩ := Option.map_eq_some_iff.1 hdi
  rw [cells2] at he
  have hcs := ints_of_struct Tryd.underlying64 (fun j f hj => by
    match j, hj with
    | 0, hj => simp at hj; subst hj; exact ⟨Tryd.underlying3, rfl, cells1⟩
    | 1, hj => simp at hj; subst hj; exact ⟨Tryd.underlying3, rfl, cells1⟩
    | j + 2, hj => simp at hj) (by rw [cells2]; rfl) he
  have e0 := congrArg (·[0]?) hcs
  have e1 := congrArg (·[1]?) hcs
  simp only [List.getElem?_take, List.getElem?_drop] at e0 e1
  exact ⟨x, hx, by simpa using e0, by simpa using e1⟩
theorem signs_row {W : World} {fuel : Nat} {cs : List Value} {p : List MemPlace} (h : DataW.trod (fun _ => ()) Tryd.prog W 0 (fun _ => true) false fuel 65 cs = some (signData, p)) : cs = signRow.toList := by
  have hl := signs_len h
  apply List.ext_getElem?
  intro j
  by_cases hj : j < 18
  · obtain ⟨x, hx, h0, h1⟩ := signs_at h (j / 2) (by omega)
    obtain e | e : j = j / 2 * 2 ∨ j = j / 2 * 2 + 1 := by omega
    all_goals
      have hk : j / 2 < 9 := by omega
      generalize j / 2 = i at *
      subst e
      obtain rfl | rfl | rfl | rfl | rfl | rfl | rfl | rfl | rfl : i = 0 ∨ i = 1 ∨ i = 2 ∨ i = 3 ∨ i = 4 ∨ i = 5 ∨ i = 6 ∨ i = 7 ∨ i = 8 := by omega
      all_goals (cases hx; first | exact h0 | exact h1)
  · rw [List.getElem?_eq_none (by omega), List.getElem?_eq_none (by show 18 ≤ j; omega)]
theorem signs_of {W : World} (h : VarReads Tryd.prog W "tapestrier/tok.signs" signData) : SignsAt W.heap.size W := by
  obtain ⟨g, t, cs, fuel, p, hg, hty, hvar, hd⟩ := h
  have hg' : Tryd.prog.globalNamed "tapestrier/tok.signs" = some 0 := by kernel_rfl
  obtain rfl := Option.some.inj (hg'.symm.trans hg)
  have hty' : (Tryd.prog.globals[0]?).map (·.type) = some 65 := by kernel_rfl
  obtain rfl := Option.some.inj (hty'.symm.trans hty)
  have hcs : cs = signRow := Array.toList_inj.1 (signs_row hd)
  subst hcs
  unfold World.var? at hvar
  rw [hg] at hvar
  simp only [Option.bind_some] at hvar
  split at hvar
  · rename_i cs' t' fr' he
    have hc : cs' = signRow := Option.some.inj hvar
    subst hc
    exact ⟨(Array.getElem?_eq_some_iff.1 he).1, _, _, he⟩
  · cases hvar

/-! ### the lists of the rows -/
theorem laid_pow_eq : (Rows.laid_internal_strconv_uint64pow10 : DataW Unit) = tabData .u64 pow10Tab := by kernel_rfl
theorem pow_of {W : World} (h : VarReads Tryd.prog W "internal/strconv.uint64pow10" (tabData .u64 pow10Tab)) : TabIs Tryd.prog W "internal/strconv.uint64pow10" .u64 pow10Tab := by
  obtain ⟨g', t', cs, fuel, p, hg', ht', hvar, hd⟩ := h
  have hg : Tryd.prog.globalNamed "internal/strconv.uint64pow10" = some 3 := by kernel_rfl
  obtain rfl := Option.some.inj (hg.symm.trans hg')
  have hty : (Tryd.prog.globals[3]?).map (·.type) = some 97 := by kernel_rfl
  obtain rfl := Option.some.inj (hty.symm.trans ht')
  unfold TabIs
  rw [hvar, ← cells_of_tab Tryd.underlying97 Tryd.underlying84 (by kernel_rfl) (by kernel_rfl) hd]
/-- The six tables as the rows list them. -/
def laidThree : List (String × DataW Unit) := [("math/bits.deBruijn32tab", Rows.laid_math_bits_deBruijn32tab), ("math/bits.deBruijn64tab", Rows.laid_math_bits_deBruijn64tab), ("internal/strconv.uint64pow10", Rows.laid_internal_strconv_uint64pow10), ("unicode/utf8.acceptRanges", Rows.laid_unicode_utf8_acceptRanges), ("tapestrier/tok.signs", Rows.laid_tapestrier_tok_signs), ("unicode/utf8.first", Rows.laid_unicode_utf8_first)]
theorem tabs_of_reads {W : World} {L : List (String × DataW Unit)} (h : laidMet Tryd.prog L W) (hS : W.ShapedOpen Tryd.prog) (m1 : ("unicode/utf8.first", Rows.laid_unicode_utf8_first) ∈ L) (m2 : ("unicode/utf8.acceptRanges", Rows.laid_unicode_utf8_acceptRanges) ∈ L) (m3 : ("tapestrier/tok.signs", Rows.laid_tapestrier_tok_signs) ∈ L) (m4 : ("internal/strconv.uint64pow10", Rows.laid_internal_strconv_uint64pow10) ∈ L) : LTabs W.heap.size W := by
  have hT : Lib.Utf8Tabs 1 2 W := utf8Tabs_of_readsT u8types u8extra
    (by rw [← laid_first_eq]; exact Lib.laidMet.reads h m1) (by rw [← laid_accept_eq]; exact Lib.laidMet.reads h m2)
  obtain ⟨m, hm⟩ := Tryd.laysM145.s1_3 W hS
  exact ⟨⟨World.block_lt_of_cell? W ⟨_, 0, none⟩ (hT.1 0 (by omega)), World.block_lt_of_cell? W ⟨_, 2 * 0, none⟩ (hT.2 0 (by omega)).1, hT⟩, signs_of (by rw [← laid_signs_eq]; exact Lib.laidMet.reads h m3), World.block_lt_of_cell? W ⟨_, 0, none⟩ hm, ⟨m, hm⟩, tabBelow_of_tabIs (pow_of (by rw [← laid_pow_eq]; exact Lib.laidMet.reads h m4))⟩
theorem tabs_of_laid {W : World} (h : laidMetH Tryd.prog laidThree W) (hS : W.ShapedOpen Tryd.prog) : LTabs W.heap.size W :=
  tabs_of_reads h hS (by simp [laidThree]) (by simp [laidThree]) (by simp [laidThree]) (by simp [laidThree])

def firstCells : Array Value := (firstTab.map fun z => Value.int .u8 z).toArray
def acceptCells : Array Value := ((List.range 16).flatMap fun i => [Value.int .u8 (accLo i), Value.int .u8 (accHi i)]).toArray
/-- The cells of a block changed for others. -/
def newCells (cs : Array Value) : Obj → Obj
  | .cells _ t frozen => .cells cs t frozen
  | o => o
/-- The cells that a listed table's datum tells. -/
def cellsIn : DataW Unit → Array Value
  | .agg parts => (parts.map fun d => match d with
    | .lit (.int k z) => Value.int k z
    | _ => .bool false).toArray
  | _ => #[]
/-- A WORLD FOR THE WITNESS: the six tables hold what their initialisers lay. -/
def laidIn (w : World) : World :=
  { w with heap := (((((w.heap.modify 1 (newCells firstCells)).modify 2 (newCells acceptCells)).modify 0 (newCells signRow)).modify 4 (newCells (cellsIn Rows.laid_math_bits_deBruijn32tab))).modify 5 (newCells (cellsIn Rows.laid_math_bits_deBruijn64tab))).modify 3 (newCells (cellsIn Rows.laid_internal_strconv_uint64pow10)) }

end Go.Proofs.YtlgfmncflnipgaaDoor
