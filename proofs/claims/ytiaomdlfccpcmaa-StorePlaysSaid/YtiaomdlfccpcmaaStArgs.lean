/- Styles and rows of chapter 19's calls that came in as arguments. -/
import Derived.Test.YtiaomdlfccpcmaaStSpec
import Derived.Test.YtiaomdlfccpcmaaSelArgs
import Derived.Lib.LaidU8
import Derived.Deep.Slices
namespace Go.Proofs.Ytiaomdlfccpcmaa
open Go.Proofs.Ytiaomdlfccpcmaa.Tre
open Go Go.ChangeShapes Go.WideShapes Go.ChangeAt Go.RowKit Go.Lib Wg

theorem cellsOf_sty : Try.prog.cellsOf 35 = 8 := by kernel_rfl
theorem cellsOf_int : Try.prog.cellsOf 3 = 1 := by kernel_rfl
theorem styleL_at (s : Nat → Int) {p : Nat} (hp : p < 8) : (Sto.styL s)[p]? = some (.int .i64 (s p)) := by
  obtain rfl | rfl | rfl | rfl | rfl | rfl | rfl | rfl : p = 0 ∨ p = 1 ∨ p = 2 ∨ p = 3 ∨ p = 4 ∨ p = 5 ∨ p = 6 ∨ p = 7 := by omega
  all_goals rfl
theorem trod_arrayS {H : Type} {enc : TypeId × Value → H} {P : Program} {w : World} {base : Nat} {sp : TypeId → Bool} {held : Bool} {fuel : Nat} {t e : TypeId} {n : Nat} {cs : List Value} {x : DataW H × List MemPlace} (ht : P.underlying t = some (.array n e))
    (h : DataW.trod enc P w base sp held fuel t cs = some x) : ∃ ds, x = (.agg ds, x.2) := by
  cases fuel with
  | zero => simp [DataW.trod] at h
  | succ fuel =>
    simp only [DataW.trod, ht] at h
    split at h
    · obtain ⟨xs, hm, hx⟩ := Option.map_eq_some_iff.1 h
      exact ⟨_, by rw [← hx]⟩
    · cases h
theorem style_in {H : Type} {enc : TypeId × Value → H} {W : World} {base fuel : Nat} {cs : List Value} {x : DataW H × List MemPlace}
    (hl : cs.length = 8) (h : DataW.trod enc Try.prog W base (fun _ => true) true fuel 35 cs = some x) : ∃ s : Nat → Int, cs = Sto.styL s := by
  obtain ⟨ds, hx⟩ := trod_arrayS Try.underlying35 h
  rw [hx] at h
  have key : ∀ i, i < 8 → ∃ z : Int, cs[i]? = some (.int .i64 z) := fun i hi => by
    obtain ⟨f', d', q, _, he⟩ := array_elem Try.underlying35 h i hi
    rw [cellsOf_int] at he
    obtain ⟨z, hz, _⟩ := DataW.trod_int Try.underlying3 he
    refine ⟨z, ?_⟩
    have := congrArg (·[0]?) hz
    simpa [Value.cells, List.getElem?_take, List.getElem?_drop] using this
  obtain ⟨F, hF⟩ : ∃ F : Nat → Int, ∀ i, i < 8 → cs[i]? = some (.int .i64 (F i)) := Deep.choose_lt key
  refine ⟨F, List.ext_getElem? fun i => ?_⟩
  by_cases hi : i < 8
  · rw [hF i hi, styleL_at F hi]
  · rw [List.getElem?_eq_none (by omega), List.getElem?_eq_none (by show 8 ≤ i; omega)]
theorem okWide_arrayS {P : Program} {w : World} {r : Reach} {base : Nat} {t e : TypeId} {n : Nat} {v : Value} (ht : P.underlying t = some (.array n e)) (h : Value.okWide P w r base t v) : ∃ cs, v = .agg cs ∧ cs.size = P.cellsOf t := by
  simp only [Value.okWide, ht] at h
  obtain ⟨cs, h1, h2, _⟩ := h
  exact ⟨cs, h1, h2⟩
theorem style_of_reads {H : Type} {enc : TypeId × Value → H} {W : World} {base : Nat} {v : Value} {d : DataW H} {p : List MemPlace}
    (h : DataW.Trod enc Try.prog W 0 (fun _ => true) true 35 v d p) (hv : Value.okWide Try.prog W .any base 35 v) : ∃ s : Nat → Int, v = Sto.sty s := by
  obtain ⟨cs, rfl, hl⟩ := okWide_arrayS Try.underlying35 hv
  rw [cellsOf_sty] at hl
  obtain ⟨fuel, hf⟩ := h
  obtain ⟨s, hs⟩ := style_in (by simpa [Value.cells] using hl) hf
  refine ⟨s, ?_⟩
  have hc : cs.toList = Sto.styL s := hs
  rw [show cs = cs.toList.toArray from rfl, hc]

/-- A call: its way, its number, its style. -/
abbrev Ca := Int × Int × (Nat → Int)
def Calls19R (W : World) (v : Value) (l : List Ca) : Prop := RowT 10 (fun c r => c = .int .i64 r.1 :: .int .i64 r.2.1 :: Sto.styL r.2.2) W.heap.size W v l ∧ ∀ r ∈ l, r.2.1 ≤ 9223372036854775807
set_option maxRecDepth 100000 in
theorem calls19At_of_reads {H : Type} {enc : TypeId × Value → H} {W : World} {a : Option Addr} {len cap : Nat} {d : DataW H} {p : List MemPlace}
    (h : DataW.Trod enc Try.prog W 0 (fun _ => true) true 22 (.slice a len cap) d p) (hw : ∀ n ∈ d.weights Try.prog 22, n ≤ reachBytes) :
    ∃ l : List Ca, Calls19R W (.slice a len cap) l := by
  obtain ⟨fuel, hf⟩ := h
  obtain ⟨l, h1, h2, _⟩ := row_in 10 (by decide) (fun c (r : Ca) => c = .int .i64 r.1 :: .int .i64 r.2.1 :: Sto.styL r.2.2) (fun r => r.2.1 ≤ 9223372036854775807) Try.underlying22 (by kernel_rfl) (v := .slice a len cap) hf hw (fun n cs y hy _ hl => by
    obtain ⟨xs, n', _, rfl, _, hxl, hf⟩ := DataW.trod_struct Try.underlying37 hy
    match cs, hl with
    | [c0, c1, c2, c3, c4, c5, c6, c7, c8, c9], _ =>
      match xs, hxl with
      | [y0, y1, y2], _ =>
        have f0 := hf 0 _ rfl
        have f1 := hf 1 _ rfl
        have f2 := hf 2 _ rfl
        simp only [List.getElem?_cons_zero, List.getElem?_cons_succ] at f0 f1 f2
        have f0' : DataW.trod enc Try.prog W 0 (fun _ => true) true n' 3 [c0] = some y0 := f0
        have f1' : DataW.trod enc Try.prog W 0 (fun _ => true) true n' 3 [c1] = some y1 := f1
        have f2' : DataW.trod enc Try.prog W 0 (fun _ => true) true n' 35 [c2, c3, c4, c5, c6, c7, c8, c9] = some y2 := f2
        obtain ⟨k0, e0, _, _⟩ := DataW.trod_int Try.underlying3 f0'
        obtain ⟨k1, e1, _, z1⟩ := DataW.trod_int Try.underlying3 f1'
        obtain ⟨s, hs⟩ := style_in rfl f2'
        cases e0
        cases e1
        exact ⟨(_, _, s), by rw [hs], by simp [Lit.wf] at z1; exact z1.2⟩)
  exact ⟨l, h1, h2⟩
theorem Calls19R.get {w : World} {p : Option Addr} {m cap : Nat} {l : List Ca} (h : Calls19R w (.slice p m cap) l) {i : Nat} {r : Ca} (hi : l[i]? = some r) :
    ∃ b off, p = some ⟨b, off, none⟩ ∧ r.2.1 ≤ 9223372036854775807 ∧ ∀ X, Below w.heap.size w X → ∀ j u, (.int .i64 r.1 :: .int .i64 r.2.1 :: Sto.styL r.2.2 : List Value)[j]? = some u → X.cell? ⟨b, off + i * 10 + j, none⟩ = some u := by
  obtain ⟨b, off, c, e, hlt, _, _, _, rfl, hc⟩ := RowT.get h.1 hi
  exact ⟨b, off, e, h.2 r (List.mem_of_getElem? hi), fun X hb j u hj => (hb.cell (p := ⟨b, off + i * 10 + j, none⟩) hlt).trans (hc j _ hj)⟩

end Go.Proofs.Ytiaomdlfccpcmaa
