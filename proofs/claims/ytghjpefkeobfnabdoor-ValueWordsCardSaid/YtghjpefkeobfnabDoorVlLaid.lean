/- From what the rows list of the tables of package value to what the walks ask of the world; and a world that holds them, for the witness; slices of tokens as arguments. -/
import Derived.Test.YtghjpefkeobfnabDoorCards
import Derived.Test.YtghjpefkeobfnabDoorTie
import Derived.WalkKit
import Derived.ProofKit
import Derived.OpenShut
import Derived.ShutString
import Derived.ChangeOld
import Derived.Below
import Derived.Deep.Strs
import Derived.Deep.Slices
import Derived.Deep.DeepHandedRow
import Derived.Lib.LaidTab
import Derived.Lib.LaidU8
import Derived.Test.YtghjpefkeobfnabDoorVlWord
namespace Go.Proofs.YtghjpefkeobfnabDoor.Vl
open Go Go.RowKit Go.Lib Go.ChangeShapes Go.WideShapes Go.ChangeAt

theorem ownNone : ownKnob Tryd.prog.godebug = none := by kernel_rfl
theorem laidOut : laidOutB Tryd.prog = true := by kernel_rfl
theorem cells_int : Tryd.prog.cellsOf 3 = 1 := by kernel_rfl
theorem cells_str : Tryd.prog.cellsOf 9 = 1 := by kernel_rfl
theorem cells_bool : Tryd.prog.cellsOf 4 = 1 := by kernel_rfl
theorem cells_val : Tryd.prog.cellsOf 26 = 2 := by kernel_rfl

/-! ### the words -/
def wordData : DataW Unit := .agg (wordsT.map fun r => .agg [.lit (.int .i64 r.1), .lit (.string r.2.1), .agg [.lit (.int .i64 r.2.2.1), .lit (.int .i64 r.2.2.2)]])
theorem laid_words_eq : (Rows.laid_tapestrier_value_words : DataW Unit) = wordData := by kernel_rfl
theorem cells_word : Tryd.prog.cellsOf 54 = 4 := by kernel_rfl
theorem cells_words : Tryd.prog.cellsOf 55 = 64 := by kernel_rfl
theorem words_len {W : World} {fuel : Nat} {cs : List Value} {p : List MemPlace} (h : DataW.trod (fun _ => ()) Tryd.prog W 0 (fun _ => true) false fuel 55 cs = some (wordData, p)) : cs.length = 64 := by
  cases fuel with
  | zero => simp [DataW.trod] at h
  | succ fuel =>
    simp only [DataW.trod, Tryd.underlying55, cells_words, cells_word] at h
    split at h
    · rename_i hl
      simpa using hl
    · cases h
theorem word_cells {W : World} {fuel : Nat} {cs : List Value} {p : List MemPlace} {r : Int × List UInt8 × Int × Int}
    (h : DataW.trod (fun _ => ()) Tryd.prog W 0 (fun _ => true) false fuel 54 cs = some ((.agg [.lit (.int .i64 r.1), .lit (.string r.2.1), .agg [.lit (.int .i64 r.2.2.1), .lit (.int .i64 r.2.2.2)]] : DataW Unit), p)) : cs = wordCells r := by
  obtain ⟨y0, y1, y2, n, hx, hl, g0, g1, g2⟩ := Deep.trod_struct3 Tryd.underlying54 h
  rw [cells_word] at hl
  match cs, hl with
  | [a, b, c, d], _ =>
    simp only [cells_int, cells_str, cells_val] at g0 g1 g2
    obtain ⟨n0, q0, e0, _⟩ := DataW.trod_int Tryd.underlying3 g0
    obtain ⟨s1, q1, e1, _⟩ := DataW.trod_string Tryd.underlying9 g1
    obtain ⟨z0, z1, m, ez, _, k0, k1⟩ := trod_struct2 Tryd.underlying26 g2
    simp only [cells_int] at k0 k1
    obtain ⟨n2, q2, e2, _⟩ := DataW.trod_int Tryd.underlying3 k0
    obtain ⟨n3, q3, e3, _⟩ := DataW.trod_int Tryd.underlying3 k1
    subst e0 e1 e2 e3 ez
    simp only [Prod.mk.injEq, DataW.agg.injEq, List.cons.injEq, DataW.lit.injEq, Lit.int.injEq, Lit.string.injEq, true_and, and_true] at hx
    obtain ⟨⟨h0, h1, h2, h3⟩, _⟩ := hx
    simp only [List.drop_zero, List.drop_succ_cons, List.take_succ_cons, List.take_zero, List.cons.injEq, and_true, List.take_nil] at q0 q1 q2 q3
    subst q0 q1 q2 q3
    unfold wordCells
    rw [h0, h1, h2, h3]
theorem words_row {W : World} {fuel : Nat} {cs : List Value} {p : List MemPlace} (h : DataW.trod (fun _ => ()) Tryd.prog W 0 (fun _ => true) false fuel 55 cs = some (wordData, p)) : cs = wordRow.toList := by
  have hl := words_len h
  apply List.ext_getElem?
  intro j
  by_cases hj : j < 64
  · obtain ⟨fuel', d, q, hdi, he⟩ := array_elem Tryd.underlying55 h (j / 4) (by omega)
    rw [List.getElem?_map] at hdi
    obtain ⟨r, hr, rfl⟩ := Option.map_eq_some_iff.1 hdi
    rw [cells_word] at he
    have hc := word_cells he
    have e1 : cs[j]? = (wordCells r)[j % 4]? := by
      rw [← hc, List.getElem?_take_of_lt (by omega), List.getElem?_drop]
      congr 1
      omega
    have e2 : wordRow.toList[j]? = (wordCells r)[j % 4]? := by
      have hk : j / 4 < 16 := by omega
      have hm : j % 4 < 4 := by omega
      have hjj : j = j / 4 * 4 + j % 4 := by omega
      rw [hjj]
      rw [show (j / 4 * 4 + j % 4) % 4 = j % 4 by omega]
      generalize j / 4 = i at *
      generalize j % 4 = m at *
      obtain rfl | rfl | rfl | rfl | rfl | rfl | rfl | rfl | rfl | rfl | rfl | rfl | rfl | rfl | rfl | rfl : i = 0 ∨ i = 1 ∨ i = 2 ∨ i = 3 ∨ i = 4 ∨ i = 5 ∨ i = 6 ∨ i = 7 ∨ i = 8 ∨ i = 9 ∨ i = 10 ∨ i = 11 ∨ i = 12 ∨ i = 13 ∨ i = 14 ∨ i = 15 := by omega
      all_goals (cases hr; obtain rfl | rfl | rfl | rfl : m = 0 ∨ m = 1 ∨ m = 2 ∨ m = 3 := by omega)
      all_goals rfl
    rw [e1, e2]
  · rw [List.getElem?_eq_none (by omega), List.getElem?_eq_none (by show 64 ≤ j; omega)]
theorem words_of {W : World} (h : VarReads Tryd.prog W "tapestrier/value.words" wordData) : WordsAt W.heap.size W := by
  obtain ⟨g, t, cs, fuel, p, hg, hty, hvar, hd⟩ := h
  have hg' : Tryd.prog.globalNamed "tapestrier/value.words" = some 1 := by kernel_rfl
  obtain rfl := Option.some.inj (hg'.symm.trans hg)
  have hty' : (Tryd.prog.globals[1]?).map (·.type) = some 55 := by kernel_rfl
  obtain rfl := Option.some.inj (hty'.symm.trans hty)
  have hcs : cs = wordRow := Array.toList_inj.1 (words_row hd)
  subst hcs
  unfold World.var? at hvar
  rw [hg] at hvar
  simp only [Option.bind_some] at hvar
  split at hvar
  · rename_i cs' t' fr' he
    have hc : cs' = wordRow := Option.some.inj hvar
    subst hc
    exact ⟨(Array.getElem?_eq_some_iff.1 he).1, _, _, he⟩
  · cases hvar

/-! ### the properties -/
def propData : DataW Unit := .agg (propsT.map fun r => .agg [.lit (.string r.1), .lit (.bool r.2.1), .lit (.int .i64 r.2.2)])
theorem laid_props_eq : (Rows.laid_tapestrier_value_properties : DataW Unit) = propData := by kernel_rfl
theorem cells_prop : Tryd.prog.cellsOf 46 = 3 := by kernel_rfl
theorem cells_props : Tryd.prog.cellsOf 47 = 24 := by kernel_rfl
theorem props_len {W : World} {fuel : Nat} {cs : List Value} {p : List MemPlace} (h : DataW.trod (fun _ => ()) Tryd.prog W 0 (fun _ => true) false fuel 47 cs = some (propData, p)) : cs.length = 24 := by
  cases fuel with
  | zero => simp [DataW.trod] at h
  | succ fuel =>
    simp only [DataW.trod, Tryd.underlying47, cells_props, cells_prop] at h
    split at h
    · rename_i hl
      simpa using hl
    · cases h
theorem prop_cells {W : World} {fuel : Nat} {cs : List Value} {p : List MemPlace} {r : List UInt8 × Bool × Int}
    (h : DataW.trod (fun _ => ()) Tryd.prog W 0 (fun _ => true) false fuel 46 cs = some ((.agg [.lit (.string r.1), .lit (.bool r.2.1), .lit (.int .i64 r.2.2)] : DataW Unit), p)) : cs = propCells r := by
  obtain ⟨y0, y1, y2, n, hx, hl, g0, g1, g2⟩ := Deep.trod_struct3 Tryd.underlying46 h
  rw [cells_prop] at hl
  match cs, hl with
  | [a, b, c], _ =>
    simp only [cells_int, cells_str, cells_bool] at g0 g1 g2
    obtain ⟨n0, q0, e0, _⟩ := DataW.trod_string Tryd.underlying9 g0
    obtain ⟨s1, q1, e1⟩ := DataW.trod_bool Tryd.underlying4 g1
    obtain ⟨n2, q2, e2, _⟩ := DataW.trod_int Tryd.underlying3 g2
    subst e0 e1 e2
    simp only [Prod.mk.injEq, DataW.agg.injEq, List.cons.injEq, DataW.lit.injEq, Lit.int.injEq, Lit.string.injEq, Lit.bool.injEq, true_and, and_true] at hx
    obtain ⟨⟨h0, h1, h2⟩, _⟩ := hx
    simp only [List.drop_zero, List.drop_succ_cons, List.take_succ_cons, List.take_zero, List.cons.injEq, and_true, List.take_nil] at q0 q1 q2
    subst q0 q1 q2
    unfold propCells
    rw [h0, h1, h2]
theorem props_row {W : World} {fuel : Nat} {cs : List Value} {p : List MemPlace} (h : DataW.trod (fun _ => ()) Tryd.prog W 0 (fun _ => true) false fuel 47 cs = some (propData, p)) : cs = propRow.toList := by
  have hl := props_len h
  apply List.ext_getElem?
  intro j
  by_cases hj : j < 24
  · obtain ⟨fuel', d, q, hdi, he⟩ := array_elem Tryd.underlying47 h (j / 3) (by omega)
    rw [List.getElem?_map] at hdi
    obtain ⟨r, hr, rfl⟩ := Option.map_eq_some_iff.1 hdi
    rw [cells_prop] at he
    have hc := prop_cells he
    have e1 : cs[j]? = (propCells r)[j % 3]? := by
      rw [← hc, List.getElem?_take_of_lt (by omega), List.getElem?_drop]
      congr 1
      omega
    have e2 : propRow.toList[j]? = (propCells r)[j % 3]? := by
      have hk : j / 3 < 8 := by omega
      have hm : j % 3 < 3 := by omega
      have hjj : j = j / 3 * 3 + j % 3 := by omega
      rw [hjj]
      rw [show (j / 3 * 3 + j % 3) % 3 = j % 3 by omega]
      generalize j / 3 = i at *
      generalize j % 3 = m at *
      obtain rfl | rfl | rfl | rfl | rfl | rfl | rfl | rfl : i = 0 ∨ i = 1 ∨ i = 2 ∨ i = 3 ∨ i = 4 ∨ i = 5 ∨ i = 6 ∨ i = 7 := by omega
      all_goals (cases hr; obtain rfl | rfl | rfl : m = 0 ∨ m = 1 ∨ m = 2 := by omega)
      all_goals rfl
    rw [e1, e2]
  · rw [List.getElem?_eq_none (by omega), List.getElem?_eq_none (by show 24 ≤ j; omega)]
theorem props_of {W : World} (h : VarReads Tryd.prog W "tapestrier/value.properties" propData) : PropsAt W.heap.size W := by
  obtain ⟨g, t, cs, fuel, p, hg, hty, hvar, hd⟩ := h
  have hg' : Tryd.prog.globalNamed "tapestrier/value.properties" = some 0 := by kernel_rfl
  obtain rfl := Option.some.inj (hg'.symm.trans hg)
  have hty' : (Tryd.prog.globals[0]?).map (·.type) = some 47 := by kernel_rfl
  obtain rfl := Option.some.inj (hty'.symm.trans hty)
  have hcs : cs = propRow := Array.toList_inj.1 (props_row hd)
  subst hcs
  unfold World.var? at hvar
  rw [hg] at hvar
  simp only [Option.bind_some] at hvar
  split at hvar
  · rename_i cs' t' fr' he
    have hc : cs' = propRow := Option.some.inj hvar
    subst hc
    exact ⟨(Array.getElem?_eq_some_iff.1 he).1, _, _, he⟩
  · cases hvar

/-! ### the lists of the rows -/
def laidOne : List (String × DataW Unit) := [("tapestrier/value.words", Rows.laid_tapestrier_value_words)]
def laidTwo : List (String × DataW Unit) := [("tapestrier/value.words", Rows.laid_tapestrier_value_words), ("tapestrier/value.properties", Rows.laid_tapestrier_value_properties)]
theorem tabs_of_laid {W : World} (h : laidMetH Tryd.prog laidOne W) (_hS : W.ShapedOpen Tryd.prog) : WordsAt W.heap.size W :=
  words_of (by rw [← laid_words_eq]; exact Lib.laidMet.reads h (by simp [laidOne]))
theorem tabs_of_laid2 {W : World} (h : laidMetH Tryd.prog laidTwo W) (_hS : W.ShapedOpen Tryd.prog) : Tabs7 W.heap.size W :=
  ⟨words_of (by rw [← laid_words_eq]; exact Lib.laidMet.reads h (by simp [laidTwo])), props_of (by rw [← laid_props_eq]; exact Lib.laidMet.reads h (by simp [laidTwo]))⟩
/-- The cells of a block changed for others. -/
def newCells (cs : Array Value) : Obj → Obj
  | .cells _ t frozen => .cells cs t frozen
  | o => o
/-- A WORLD FOR THE WITNESS: the tables hold what their initialisers lay. -/
def laidIn (w : World) : World :=
  { w with heap := (w.heap.modify 1 (newCells wordRow)).modify 0 (newCells propRow) }

/-! ### slices of tokens as arguments -/
theorem cells_tk : Tryd.prog.cellsOf 30 = 5 := by kernel_rfl
theorem tokens_in {H : Type} {enc : TypeId × Value → H} {W : World} {base fuel : Nat} {v : Value} {x : DataW H × List MemPlace}
    (hf : DataW.trod enc Tryd.prog W base (fun _ => true) true fuel 31 [v] = some x) : ∃ ts : List Bt, BtsAt W.heap.size W v ts ∧ ∀ t ∈ ts, t.text.size ≤ maxLen := by
  rcases Deep.open_slice Tryd.underlying31 hf with ⟨hcs, _⟩ | ⟨x, len, cap, m, n, D, Pl, hcs, _, hl, hm, hmm, _, hel⟩
  · cases hcs
    exact ⟨[], .inl ⟨rfl, .inl rfl⟩, by simp⟩
  · cases hcs
    simp at hmm
    rw [hmm, cells_tk] at hel
    clear hmm
    have each : ∀ i, i < cap → ∃ t : Bt, t.text.size ≤ maxLen ∧ ∀ j u, (btCells t)[j]? = some u → W.cell? ((x.add (i * 5)).add j) = some u := fun i hi => by
      obtain ⟨cs', hcs, htr⟩ := hel i hi
      obtain ⟨xs, n', _, _, hlen, hxl, hf⟩ := DataW.trod_struct Tryd.underlying30 htr
      rw [cells_tk] at hlen
      obtain ⟨_, hcl, hcc⟩ := World.cells?_some hcs
      match cs', hlen with
      | [c0, c1, c2, c3, c4], _ =>
        match xs, hxl with
        | [y0, y1, y2, y3, y4], _ =>
          have f0 := hf 0 _ rfl
          have f1 := hf 1 _ rfl
          have f2 := hf 2 _ rfl
          have f3 := hf 3 _ rfl
          have f4 := hf 4 _ rfl
          simp only [List.getElem?_cons_zero, List.getElem?_cons_succ] at f0 f1 f2 f3 f4
          obtain ⟨k0, g0, _⟩ := DataW.trod_int Tryd.underlying3 f0
          obtain ⟨k1, g1, _, hz⟩ := DataW.trod_string Tryd.underlying9 f1
          obtain ⟨k2, g2, _⟩ := DataW.trod_int Tryd.underlying3 f2
          obtain ⟨k3, g3, _⟩ := DataW.trod_bool Tryd.underlying4 f3
          obtain ⟨k4, g4, _⟩ := DataW.trod_int Tryd.underlying3 f4
          cases g0
          cases g1
          cases g2
          cases g3
          cases g4
          refine ⟨⟨k0, k1, k2, k3, k4⟩, hz, fun j u hj => ?_⟩
          have hjl : j < 5 := (List.getElem?_eq_some_iff.1 hj).1
          rw [hcc j hjl, ← hj]
          rfl
    obtain ⟨F, hF⟩ : ∃ F : Nat → Bt, ∀ i, i < cap → (F i).text.size ≤ maxLen ∧ ∀ j u, (btCells (F i))[j]? = some u → W.cell? ((x.add (i * 5)).add j) = some u := by
      have : Inhabited Bt := ⟨⟨0, ⟨#[]⟩, 0, false, 0⟩⟩
      exact Deep.choose_lt each
    refine ⟨(List.range len).map F, ?_, fun t ht => ?_⟩
    · by_cases h0 : len = 0
      · exact .inl ⟨by simp [h0], .inr ⟨_, _, by rw [h0], hm⟩⟩
      · obtain ⟨b, off, spot⟩ := x
        have hc0 := (hF 0 (by omega)).2 0 _ rfl
        have hspot : spot = none := by simpa [Addr.add] using World.cell?_spot hc0
        subst hspot
        have key : ∀ i j, (((⟨b, off, none⟩ : Addr).add (i * 5)).add j) = ⟨b, off + i * 5 + j, none⟩ := fun i j => by rw [addr_add, addr_add]
        refine .inr ⟨b, off, cap, by simp, by simpa using hl, hm, World.block_lt_of_cell? W ⟨b, off, none⟩ (by rw [key] at hc0; simpa using hc0), fun j t hj => ?_⟩
        rw [List.getElem?_map] at hj
        obtain ⟨i, hi, rfl⟩ := Option.map_eq_some_iff.1 hj
        obtain ⟨h1, h2⟩ := List.getElem?_eq_some_iff.1 hi
        simp at h1 h2
        subst h2
        have hh := fun q u hq => (key j q ▸ (hF j (by omega)).2 q u hq : W.cell? ⟨b, off + j * 5 + q, none⟩ = some u)
        exact ⟨hh 0 _ rfl, hh 1 _ rfl, hh 2 _ rfl, hh 3 _ rfl, hh 4 _ rfl⟩
    · obtain ⟨i, hi, rfl⟩ := List.mem_map.1 ht
      have := List.mem_range.1 hi
      exact (hF i (by omega)).1
theorem tokensAt_of_reads {H : Type} {enc : TypeId × Value → H} {W : World} {a : Option Addr} {len cap : Nat} {d : DataW H} {p : List MemPlace}
    (h : DataW.Trod enc Tryd.prog W 0 (fun _ => true) true 31 (.slice a len cap) d p) : ∃ ts : List Bt, BtsAt W.heap.size W (.slice a len cap) ts ∧ ∀ t ∈ ts, t.text.size ≤ maxLen := by
  obtain ⟨fuel, hf⟩ := h
  exact tokens_in hf

end Go.Proofs.YtghjpefkeobfnabDoor.Vl
