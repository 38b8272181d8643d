/- A node, and selectors, that came in as arguments: what the walk is told of them (a seat without buckets). -/
import Derived.Test.YtiaikkbmgnaikaaSelArgs
import Derived.Test.YtiaikkbmgnaikaaRows
namespace Go.Proofs.Ytiaikkbmgnaikaa.Bk
open Go.Proofs.Ytiaikkbmgnaikaa.Tre
open Go Go.RowKit Go.ChangeShapes Go.WideShapes Go.ChangeAt Sl Wg

structure Nn where
  tag : ByteArray
  id : ByteArray
  cls : List ByteArray
def NodeAt (n : Nn) (W : World) (v : Value) : Prop := ∃ par cv av, v = .agg #[.int .i64 par, .string n.tag, .string n.id, cv, av] ∧ RowT 1 StrC W.heap.size W cv n.cls ∧ ∃ p m c, av = .slice p m c
theorem NodeAt.next {n : Nn} {W X : World} {v : Value} (h : NodeAt n W v) (hb : Below W.heap.size W X) : NodeAt n X v := by
  obtain ⟨par, cv, av, e, h1, h2⟩ := h
  exact ⟨par, cv, av, e, (h1.below hb (fun _ _ h => h)).mono hb.size (fun _ _ h => h), h2⟩
set_option maxRecDepth 100000 in
theorem cells_node : Try.prog.cellsOf 25 = 5 := by kernel_rfl
def NnOk (n : Nn) : Prop := n.tag.size ≤ 281474976710656 ∧ n.id.size ≤ 281474976710656 ∧ NsOk n.cls
set_option maxRecDepth 100000 in
theorem node_in {H : Type} {enc : TypeId × Value → H} {W : World} {fuel : Nat} {cs : Array Value} {y : DataW H × List MemPlace}
    (hy : DataW.trod enc Try.prog W 0 (fun _ => true) true fuel 25 cs.toList = some y) (hw : ∀ n ∈ y.1.weights Try.prog 25, n ≤ reachBytes) :
    ∃ n : Nn, NodeAt n W (.agg cs) ∧ NnOk n := by
  obtain ⟨xs, n', _, rfl, hl, hxl, hf⟩ := DataW.trod_struct Try.underlying25 hy
  rw [cells_node] at hl
  have hcs : ∃ c0 c1 c2 c3 c4, cs = #[c0, c1, c2, c3, c4] := by
    obtain ⟨l⟩ := cs
    match l, hl with
    | [c0, c1, c2, c3, c4], _ => exact ⟨_, _, _, _, _, rfl⟩
  obtain ⟨c0, c1, c2, c3, c4, rfl⟩ := hcs
  match xs, hxl with
  | [y0, y1, y2, y3, y4], _ =>
    have f0 := hf 0 _ rfl
    have f1 := hf 1 _ rfl
    have f2 := hf 2 _ rfl
    have f3 := hf 3 _ rfl
    have f4 := hf 4 _ rfl
    simp only [List.getElem?_cons_zero, List.getElem?_cons_succ] at f0 f1 f2 f3 f4
    obtain ⟨k0, g0, e0, w0⟩ := DataW.trod_int Try.underlying3 f0
    obtain ⟨k1, g1, e1, _⟩ := DataW.trod_string Try.underlying9 f1
    obtain ⟨k2, g2, e2, _⟩ := DataW.trod_string Try.underlying9 f2
    simp only [DataW.weights, Try.underlying25] at hw
    have f3' : DataW.trod enc Try.prog W 0 (fun _ => true) true n' 22 [c3] = some y3 := f3
    have f4' : DataW.trod enc Try.prog W 0 (fun _ => true) true n' 23 [c4] = some y4 := f4
    obtain ⟨l3, a3, b3⟩ := names_in f3' (fun m hm => hw m (DataW.weights_mem_each (j := 3) rfl rfl m hm))
    have hc4 : ∃ p m k, c4 = .slice p m k := by
      rcases Deep.open_slice Try.underlying23 f4' with ⟨hcs, _⟩ | ⟨x, len, cap, m, n, D, Pl, hcs, _⟩
      · cases hcs; exact ⟨_, _, _, rfl⟩
      · cases hcs; exact ⟨_, _, _, rfl⟩
    cases g0
    cases g1
    cases g2
    refine ⟨⟨k1, k2, l3⟩, ⟨k0, c3, c4, rfl, a3, hc4⟩, short_lit (H := H) (fun m hm => hw m (DataW.weights_mem_each (j := 1) rfl rfl m ?_)), short_lit (H := H) (fun m hm => hw m (DataW.weights_mem_each (j := 2) rfl rfl m ?_)), b3⟩
    · rw [e1]; exact hm
    · rw [e2]; exact hm
set_option maxRecDepth 100000 in
theorem nodeAt_of_reads {H : Type} {enc : TypeId × Value → H} {W : World} {base : Nat} {v : Value} {d : DataW H} {p : List MemPlace}
    (h : DataW.Trod enc Try.prog W 0 (fun _ => true) true 25 v d p) (hv : Value.okWide Try.prog W .any base 25 v) (hw : ∀ n ∈ d.weights Try.prog 25, n ≤ reachBytes) :
    ∃ n : Nn, NodeAt n W v ∧ NnOk n := by
  obtain ⟨cs, rfl, _⟩ := okWide_struct Try.underlying25 hv
  obtain ⟨fuel, hf⟩ := h
  exact node_in (y := (d, p)) hf hw

end Go.Proofs.Ytiaikkbmgnaikaa.Bk
