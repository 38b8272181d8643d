/- Numbers and rows of chapter 18's calls that came in as arguments. -/
import Derived.Test.YtamcomlnfdfmeaaLrMem
import Derived.Test.YtamcomlnfdfmeaaBlArgs
namespace Go.Proofs.Ytamcomlnfdfmeaa
open Go.Proofs.Ytamcomlnfdfmeaa.Tre
open Go Go.ChangeShapes Go.WideShapes Go.ChangeAt Go.RowKit Bl Wg

theorem intsAt_of_reads {H : Type} {enc : TypeId × Value → H} {W : World} {a : Option Addr} {len cap : Nat} {d : DataW H} {p : List MemPlace}
    (h : DataW.Trod enc Try.prog W 0 (fun _ => true) true 33 (.slice a len cap) d p) : ∃ l : List Int, IntsR W (.slice a len cap) l := by
  obtain ⟨fuel, hf⟩ := h
  obtain ⟨l, hl, _⟩ := ints_in hf
  exact ⟨l, hl⟩
theorem IntsR.below {w X : World} {v : Value} {l : List Int} (hl : IntsR w v l) (hb : Below w.heap.size w X) : IntsR X v l := by
  by_cases h0 : l = []
  · subst h0; obtain ⟨p, c, rfl⟩ := hl.len; exact .inl ⟨rfl, _, _, rfl⟩
  · exact hl.kept (fun r hr => hb.block r (hl.lt h0 hr))

/-- A call: a Put (or else a Get) of a key, and a value. -/
abbrev Ac := Bool × Int × Int
def Acts18R (W : World) (v : Value) (l : List Ac) : Prop := RowT 3 (fun c r => c = [.bool r.1, .int .i64 r.2.1, .int .i64 r.2.2]) W.heap.size W v l
set_option maxRecDepth 100000 in
theorem acts18At_of_reads {H : Type} {enc : TypeId × Value → H} {W : World} {a : Option Addr} {len cap : Nat} {d : DataW H} {p : List MemPlace}
    (h : DataW.Trod enc Try.prog W 0 (fun _ => true) true 22 (.slice a len cap) d p) (hw : ∀ n ∈ d.weights Try.prog 22, n ≤ reachBytes) :
    ∃ l : List Ac, Acts18R W (.slice a len cap) l := by
  obtain ⟨fuel, hf⟩ := h
  obtain ⟨l, h1, _, _⟩ := row_in 3 (by decide) (fun c (r : Ac) => c = [.bool r.1, .int .i64 r.2.1, .int .i64 r.2.2]) (fun _ => True) Try.underlying22 (by kernel_rfl) (v := .slice a len cap) hf hw (fun n cs y hy _ hl => by
    obtain ⟨xs, n', _, rfl, _, hxl, hf⟩ := DataW.trod_struct Try.underlying31 hy
    match cs, hl with
    | [c0, c1, c2], _ =>
      match xs, hxl with
      | [y0, y1, y2], _ =>
        have f0 := hf 0 _ rfl
        have f1 := hf 1 _ rfl
        have f2 := hf 2 _ rfl
        simp only [List.getElem?_cons_zero, List.getElem?_cons_succ] at f0 f1 f2
        have f0' : DataW.trod enc Try.prog W 0 (fun _ => true) true n' 4 [c0] = some y0 := f0
        have f1' : DataW.trod enc Try.prog W 0 (fun _ => true) true n' 3 [c1] = some y1 := f1
        have f2' : DataW.trod enc Try.prog W 0 (fun _ => true) true n' 3 [c2] = some y2 := f2
        obtain ⟨b, e, _⟩ := DataW.trod_bool Try.underlying4 f0'
        obtain ⟨k1, e1, _, _⟩ := DataW.trod_int Try.underlying3 f1'
        obtain ⟨k2, e2, _, _⟩ := DataW.trod_int Try.underlying3 f2'
        cases e
        cases e1
        cases e2
        exact ⟨(b, _, _), rfl, trivial⟩)
  exact ⟨l, h1⟩
theorem Acts18R.get {w : World} {p : Option Addr} {m cap : Nat} {l : List Ac} (h : Acts18R w (.slice p m cap) l) {i : Nat} {r : Ac} (hi : l[i]? = some r) :
    ∃ b off, p = some ⟨b, off, none⟩ ∧ ∀ X, Below w.heap.size w X → X.cell? ⟨b, off + i * 3, none⟩ = some (.bool r.1) ∧ X.cell? ⟨b, off + i * 3 + 1, none⟩ = some (.int .i64 r.2.1) ∧ X.cell? ⟨b, off + i * 3 + 2, none⟩ = some (.int .i64 r.2.2) := by
  obtain ⟨b, off, c, e, hlt, _, _, _, rfl, hc⟩ := RowT.get h hi
  exact ⟨b, off, e, fun X hb => ⟨(hb.cell (p := ⟨b, off + i * 3, none⟩) hlt).trans (hc 0 _ rfl), (hb.cell (p := ⟨b, off + i * 3 + 1, none⟩) hlt).trans (hc 1 _ rfl), (hb.cell (p := ⟨b, off + i * 3 + 2, none⟩) hlt).trans (hc 2 _ rfl)⟩⟩

end Go.Proofs.Ytamcomlnfdfmeaa
