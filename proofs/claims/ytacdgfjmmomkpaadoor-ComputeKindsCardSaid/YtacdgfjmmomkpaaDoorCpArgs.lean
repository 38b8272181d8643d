/- From what the rows list of the table of properties to what the walks ask of the world; a world that holds it, for the witness; styles and values as arguments. -/
import Derived.Test.YtacdgfjmmomkpaaDoorCards
import Derived.Test.YtacdgfjmmomkpaaDoorTie
import Derived.WalkKit
import Derived.ProofKit
import Derived.OpenShut
import Derived.ShutString
import Derived.ChangeOld
import Derived.Below
import Derived.Deep.Strs
import Derived.Deep.Slices
import Derived.Deep.DeepHandedRow
import Derived.Lib.LaidTab
import Derived.Lib.LaidU8
import Derived.Test.YtacdgfjmmomkpaaDoorCpOfB
namespace Go.Proofs.YtacdgfjmmomkpaaDoor.Cp
open Go Go.RowKit Go.Lib Go.ChangeShapes Go.WideShapes Go.ChangeAt Vl

theorem ownNone : ownKnob Tryd.prog.godebug = none := by kernel_rfl
theorem laidOut : laidOutB Tryd.prog = true := by kernel_rfl
theorem cells_int : Tryd.prog.cellsOf 3 = 1 := by kernel_rfl
theorem cells_str : Tryd.prog.cellsOf 9 = 1 := by kernel_rfl
theorem cells_bool : Tryd.prog.cellsOf 4 = 1 := by kernel_rfl
theorem cells_val : Tryd.prog.cellsOf 25 = 2 := by kernel_rfl
theorem cells_sty : Tryd.prog.cellsOf 23 = 8 := by kernel_rfl
theorem cells_vals : Tryd.prog.cellsOf 26 = 16 := by kernel_rfl

/-! ### the properties -/
def propData : DataW Unit := .agg (propsT.map fun r => .agg [.lit (.string r.1), .lit (.bool r.2.1), .lit (.int .i64 r.2.2)])
theorem laid_props_eq : (Rows.laid_tapestrier_value_properties : DataW Unit) = propData := by kernel_rfl
theorem cells_prop : Tryd.prog.cellsOf 45 = 3 := by kernel_rfl
theorem cells_props : Tryd.prog.cellsOf 51 = 24 := by kernel_rfl
theorem props_len {W : World} {fuel : Nat} {cs : List Value} {p : List MemPlace} (h : DataW.trod (fun _ => ()) Tryd.prog W 0 (fun _ => true) false fuel 51 cs = some (propData, p)) : cs.length = 24 := by
  cases fuel with
  | zero => simp [DataW.trod] at h
  | succ fuel =>
    simp only [DataW.trod, Tryd.underlying51, cells_props, cells_prop] at h
    split at h
    · rename_i hl
      simpa using hl
    · cases h
theorem prop_cells {W : World} {fuel : Nat} {cs : List Value} {p : List MemPlace} {r : List UInt8 × Bool × Int}
    (h : DataW.trod (fun _ => ()) Tryd.prog W 0 (fun _ => true) false fuel 45 cs = some ((.agg [.lit (.string r.1), .lit (.bool r.2.1), .lit (.int .i64 r.2.2)] : DataW Unit), p)) : cs = propCells r := by
  obtain ⟨y0, y1, y2, n, hx, hl, g0, g1, g2⟩ := Deep.trod_struct3 Tryd.underlying45 h
  rw [cells_prop] at hl
  match cs, hl with
  | [a, b, c], _ =>
    simp only [cells_int, cells_str, cells_bool] at g0 g1 g2
    obtain ⟨n0, q0, e0, _⟩ := DataW.trod_string Tryd.underlying9 g0
    obtain ⟨s1, q1, e1⟩ := DataW.trod_bool Tryd.underlying4 g1
    obtain ⟨n2, q2, e2, _⟩ := DataW.trod_int Tryd.underlying3 g2
    subst e0 e1 e2
    simp only [Prod.mk.injEq, DataW.agg.injEq, List.cons.injEq, DataW.lit.injEq, Lit.int.injEq, Lit.string.injEq, Lit.bool.injEq, true_and, and_true] at hx
    obtain ⟨⟨h0, h1, h2⟩, _⟩ := hx
    simp only [List.drop_zero, List.drop_succ_cons, List.take_succ_cons, List.take_zero, List.cons.injEq, and_true, List.take_nil] at q0 q1 q2
    subst q0 q1 q2
    unfold propCells
    rw [h0, h1, h2]
theorem props_row {W : World} {fuel : Nat} {cs : List Value} {p : List MemPlace} (h : DataW.trod (fun _ => ()) Tryd.prog W 0 (fun _ => true) false fuel 51 cs = some (propData, p)) : cs = propRow.toList := by
  have hl := props_len h
  apply List.ext_getElem?
  intro j
  by_cases hj : j < 24
  · obtain ⟨fuel', d, q, hdi, he⟩ := array_elem Tryd.underlying51 h (j / 3) (by omega)
    rw [List.getElem?_map] at hdi
    obtain ⟨r, hr, rfl⟩ := Option.map_eq_some_iff.1 hdi
    rw [cells_prop] at he
    have hc := prop_cells he
    have e1 : cs[j]? = (propCells r)[j % 3]? := by
      rw [← hc, List.getElem?_take_of_lt (by omega), List.getElem?_drop]
      congr 1
      omega
    have e2 : propRow.toList[j]? = (propCells r)[j % 3]? := by
      have hk : j / 3 < 8 := by omega
      have hm : j % 3 < 3 := by omega
      have hjj : j = j / 3 * 3 + j % 3 := by omega
      rw [hjj]
      rw [show (j / 3 * 3 + j % 3) % 3 = j % 3 by omega]
      generalize j / 3 = i at *
      generalize j % 3 = m at *
      obtain rfl | rfl | rfl | rfl | rfl | rfl | rfl | rfl : i = 0 ∨ i = 1 ∨ i = 2 ∨ i = 3 ∨ i = 4 ∨ i = 5 ∨ i = 6 ∨ i = 7 := by omega
      all_goals (cases hr; obtain rfl | rfl | rfl : m = 0 ∨ m = 1 ∨ m = 2 := by omega)
      all_goals rfl
    rw [e1, e2]
  · rw [List.getElem?_eq_none (by omega), List.getElem?_eq_none (by show 24 ≤ j; omega)]
theorem props_of {W : World} (h : VarReads Tryd.prog W "tapestrier/value.properties" propData) : PropsAt W.heap.size W := by
  obtain ⟨g, t, cs, fuel, p, hg, hty, hvar, hd⟩ := h
  have hg' : Tryd.prog.globalNamed "tapestrier/value.properties" = some 0 := by kernel_rfl
  obtain rfl := Option.some.inj (hg'.symm.trans hg)
  have hty' : (Tryd.prog.globals[0]?).map (·.type) = some 51 := by kernel_rfl
  obtain rfl := Option.some.inj (hty'.symm.trans hty)
  have hcs : cs = propRow := Array.toList_inj.1 (props_row hd)
  subst hcs
  unfold World.var? at hvar
  rw [hg] at hvar
  simp only [Option.bind_some] at hvar
  split at hvar
  · rename_i cs' t' fr' he
    have hc : cs' = propRow := Option.some.inj hvar
    subst hc
    exact ⟨(Array.getElem?_eq_some_iff.1 he).1, _, _, he⟩
  · cases hvar

/-! ### the list of the rows -/
def laidProps : List (String × DataW Unit) := [("tapestrier/value.properties", Rows.laid_tapestrier_value_properties)]
theorem tabs_of_laid {W : World} (h : laidMetH Tryd.prog laidProps W) (_hS : W.ShapedOpen Tryd.prog) : PropsAt W.heap.size W :=
  props_of (by rw [← laid_props_eq]; exact Lib.laidMet.reads h (by simp [laidProps]))
/-- The cells of a block changed for others. -/
def newCells (cs : Array Value) : Obj → Obj
  | .cells _ t frozen => .cells cs t frozen
  | o => o
/-- A WORLD FOR THE WITNESS: the table holds what its initialiser lays. -/
def laidIn (w : World) : World :=
  { w with heap := w.heap.modify 0 (newCells propRow) }

/-! ### arrays as arguments -/
theorem okWide_array {P : Program} {w : World} {r : Reach} {base : Nat} {t e : TypeId} {n : Nat} {v : Value} (ht : P.underlying t = some (.array n e)) (h : Value.okWide P w r base t v) : ∃ cs, v = .agg cs ∧ cs.size = P.cellsOf t := by
  simp only [Value.okWide, ht] at h
  obtain ⟨cs, h1, h2, _⟩ := h
  exact ⟨cs, h1, h2⟩
theorem trod_array {H : Type} {enc : TypeId × Value → H} {P : Program} {w : World} {base : Nat} {sp : TypeId → Bool} {held : Bool} {fuel : Nat} {t e : TypeId} {n : Nat} {cs : List Value} {x : DataW H × List MemPlace} (ht : P.underlying t = some (.array n e))
    (h : DataW.trod enc P w base sp held fuel t cs = some x) : ∃ ds, x = (.agg ds, x.2) := by
  cases fuel with
  | zero => simp [DataW.trod] at h
  | succ fuel =>
    simp only [DataW.trod, ht] at h
    split at h
    · obtain ⟨xs, hm, hx⟩ := Option.map_eq_some_iff.1 h
      exact ⟨_, by rw [← hx]⟩
    · cases h
theorem style_of_reads {H : Type} {enc : TypeId × Value → H} {W : World} {base : Nat} {v : Value} {d : DataW H} {p : List MemPlace}
    (h : DataW.Trod enc Tryd.prog W 0 (fun _ => true) true 23 v d p) (hv : Value.okWide Tryd.prog W .any base 23 v) : ∃ s : Nat → Int, v = sty s := by
  obtain ⟨cs, rfl, hl⟩ := okWide_array Tryd.underlying23 hv
  rw [cells_sty] at hl
  obtain ⟨fuel, hf⟩ := h
  obtain ⟨ds, hx⟩ := trod_array Tryd.underlying23 hf
  rw [hx] at hf
  have key : ∀ i, i < 8 → ∃ z : Int, cs[i]? = some (.int .i64 z) := fun i hi => by
    obtain ⟨f', d', q, _, he⟩ := array_elem Tryd.underlying23 hf i hi
    rw [cells_int] at he
    obtain ⟨z, hz, _⟩ := DataW.trod_int Tryd.underlying3 he
    refine ⟨z, ?_⟩
    have := congrArg (·[0]?) hz
    simpa [Value.cells, List.getElem?_take, List.getElem?_drop] using this
  obtain ⟨F, hF⟩ : ∃ F : Nat → Int, ∀ i, i < 8 → cs[i]? = some (.int .i64 (F i)) := Deep.choose_lt key
  refine ⟨F, ?_⟩
  unfold sty
  congr 1
  apply Array.ext_getElem?
  intro i
  by_cases hi : i < 8
  · rw [hF i hi, styL_at F hi]
  · rw [Array.getElem?_eq_none (by omega), Array.getElem?_eq_none (by show 8 ≤ i; omega)]
theorem value_in {H : Type} {enc : TypeId × Value → H} {W : World} {fuel : Nat} {cs : List Value} {x : DataW H × List MemPlace}
    (h : DataW.trod enc Tryd.prog W 0 (fun _ => true) true fuel 25 cs = some x) : ∃ k n : Int, cs = [.int .i64 k, .int .i64 n] := by
  obtain ⟨z0, z1, m, ez, hl, k0, k1⟩ := trod_struct2 Tryd.underlying25 h
  rw [cells_val] at hl
  match cs, hl with
  | [a, b], _ =>
    simp only [cells_int] at k0 k1
    obtain ⟨n2, q2, e2, _⟩ := DataW.trod_int Tryd.underlying3 k0
    obtain ⟨n3, q3, e3, _⟩ := DataW.trod_int Tryd.underlying3 k1
    simp only [List.drop_zero, List.drop_succ_cons, List.take_succ_cons, List.take_zero, List.cons.injEq, and_true, List.take_nil] at q2 q3
    subst q2 q3
    exact ⟨_, _, rfl⟩
theorem value_of_reads {H : Type} {enc : TypeId × Value → H} {W : World} {base : Nat} {v : Value} {d : DataW H} {p : List MemPlace}
    (h : DataW.Trod enc Tryd.prog W 0 (fun _ => true) true 25 v d p) (hv : Value.okWide Tryd.prog W .any base 25 v) : ∃ z : Int × Int, v = .agg #[.int .i64 z.1, .int .i64 z.2] := by
  obtain ⟨cs, rfl, hl⟩ := okWide_struct Tryd.underlying25 hv
  obtain ⟨fuel, hf⟩ := h
  obtain ⟨k, n, e⟩ := value_in hf
  have e2 : cs.toList = [.int .i64 k, .int .i64 n] := e
  exact ⟨(k, n), by rw [show cs = cs.toList.toArray from rfl, e2]⟩
theorem vals_of_reads {H : Type} {enc : TypeId × Value → H} {W : World} {base : Nat} {v : Value} {d : DataW H} {p : List MemPlace}
    (h : DataW.Trod enc Tryd.prog W 0 (fun _ => true) true 26 v d p) (hv : Value.okWide Tryd.prog W .any base 26 v) : ∃ z : (Nat → Int) × (Nat → Int), v = vls z.1 z.2 := by
  obtain ⟨cs, rfl, hl⟩ := okWide_array Tryd.underlying26 hv
  rw [cells_vals] at hl
  obtain ⟨fuel, hf⟩ := h
  obtain ⟨ds, hx⟩ := trod_array Tryd.underlying26 hf
  rw [hx] at hf
  have key : ∀ i, i < 8 → ∃ z : Int × Int, cs[i * 2]? = some (.int .i64 z.1) ∧ cs[i * 2 + 1]? = some (.int .i64 z.2) := fun i hi => by
    obtain ⟨f', d', q, _, he⟩ := array_elem Tryd.underlying26 hf i hi
    rw [cells_val] at he
    obtain ⟨k, n, hz⟩ := value_in he
    refine ⟨(k, n), ?_, ?_⟩
    · have := congrArg (·[0]?) hz
      simpa [Value.cells, List.getElem?_take, List.getElem?_drop] using this
    · have := congrArg (·[1]?) hz
      simpa [Value.cells, List.getElem?_take, List.getElem?_drop] using this
  obtain ⟨F, hF⟩ : ∃ F : Nat → Int × Int, ∀ i, i < 8 → cs[i * 2]? = some (.int .i64 (F i).1) ∧ cs[i * 2 + 1]? = some (.int .i64 (F i).2) := Deep.choose_lt key
  refine ⟨(fun i => (F i).1, fun i => (F i).2), ?_⟩
  unfold vls
  congr 1
  apply Array.ext_getElem?
  intro i
  by_cases hi : i < 16
  · obtain ⟨h1, h2⟩ := hF (i / 2) (by omega)
    obtain ⟨g1, g2⟩ := valL_at (fun i => (F i).1) (fun i => (F i).2) (show i / 2 < 8 by omega)
    rcases Nat.mod_two_eq_zero_or_one i with hm | hm
    · rw [show i / 2 * 2 = i by omega] at h1 g1
      rw [h1, g1]
    · rw [show i / 2 * 2 + 1 = i by omega] at h2 g2
      rw [h2, g2]
  · rw [Array.getElem?_eq_none (by omega), Array.getElem?_eq_none (by show 16 ≤ i; omega)]

end Go.Proofs.YtacdgfjmmomkpaaDoor.Cp
