/- Numbers, rows of numbers and rows of calls that came in as arguments: what the walk is told of them. -/
import Derived.Test.YteklgelmakbmcaaBlMem
import Derived.Test.YteklgelmakbmcaaSelArgs
import Derived.Deep.Slices
namespace Go.Proofs.Yteklgelmakbmcaa
open Go.Proofs.Yteklgelmakbmcaa.Tre
open Go Go.ChangeShapes Go.WideShapes Go.ChangeAt Go.RowKit Bl Wg

theorem ints_in {H : Type} {enc : TypeId × Value → H} {W : World} {base fuel : Nat} {v : Value} {x : DataW H × List MemPlace} (h : DataW.trod enc Try.prog W base (fun _ => true) true fuel 30 [v] = some x) : ∃ l : List Int, IntsR W v l ∧ ∀ r, l ≠ [] → v.ownBlock = some r → r < W.heap.size := by
  suffices hs : ∃ l : List Int, IntsR W v l by
    obtain ⟨l, hl⟩ := hs
    exact ⟨l, hl, fun r h0 hr => hl.lt h0 hr⟩
  rcases open_ints Try.underlying30 Try.underlying3 (by kernel_rfl) h with ⟨hcs, _⟩ | ⟨x, len, cap, zs, hcs, _, hl, hm, hz, _, hcell, hwz⟩
  · cases hcs
    exact ⟨[], .inl ⟨rfl, _, _, rfl⟩⟩
  · cases hcs
    have hzl : zs.length = cap := by simpa using hz
    refine ⟨zs.take len, ?_⟩
    by_cases h0 : len = 0
    · subst h0; exact .inl ⟨by simp, _, _, rfl⟩
    · obtain ⟨b, off, spot⟩ := x
      have hc0 := hcell 0 (by omega)
      have hspot : spot = none := by simpa [Addr.add] using World.cell?_spot hc0
      subst hspot
      have hlen : (zs.take len).length = len := by simp; omega
      refine .inr ⟨b, off, cap, by rw [hlen], by rw [hlen]; exact hl, hm, fun j u hj => ?_⟩
      have hjl : j < len := by
        have := (List.getElem?_eq_some_iff.1 hj).1
        omega
      rw [List.getElem?_take_of_lt hjl] at hj
      have := hcell j (by omega)
      rw [List.getD_eq_getElem?_getD, hj, addr_add'] at this
      exact this

/-- The slice v has the rows l of numbers. -/
def RowsR (W : World) (v : Value) (l : List (List Int)) : Prop := RowT 1 (fun c r => ∃ x, c = [x] ∧ IntsR W x r) W.heap.size W v l
theorem introwsAt_of_reads {H : Type} {enc : TypeId × Value → H} {W : World} {a : Option Addr} {len cap : Nat} {d : DataW H} {p : List MemPlace}
    (h : DataW.Trod enc Try.prog W 0 (fun _ => true) true 52 (.slice a len cap) d p) (hw : ∀ n ∈ d.weights Try.prog 52, n ≤ reachBytes) :
    ∃ l : List (List Int), RowsR W (.slice a len cap) l := by
  obtain ⟨fuel, hf⟩ := h
  obtain ⟨l, h1, _, _⟩ := row_in 1 (by decide) (fun c (r : List Int) => ∃ x, c = [x] ∧ IntsR W x r) (fun _ => True) Try.underlying52 (by kernel_rfl) (v := .slice a len cap) hf hw (fun n cs y hy _ hl => by
    match cs, hl with
    | [c0], _ =>
      obtain ⟨r, hr, _⟩ := ints_in hy
      exact ⟨r, ⟨c0, rfl, hr⟩, trivial⟩)
  exact ⟨l, h1⟩
/-- The slice v has the calls l. -/
def ActsR (W : World) (v : Value) (l : List (Bool × List Int)) : Prop := RowT 2 (fun c r => ∃ x, c = [.bool r.1, x] ∧ IntsR W x r.2) W.heap.size W v l
set_option maxRecDepth 100000 in
theorem actsAt_of_reads {H : Type} {enc : TypeId × Value → H} {W : World} {a : Option Addr} {len cap : Nat} {d : DataW H} {p : List MemPlace}
    (h : DataW.Trod enc Try.prog W 0 (fun _ => true) true 38 (.slice a len cap) d p) (hw : ∀ n ∈ d.weights Try.prog 38, n ≤ reachBytes) :
    ∃ l : List (Bool × List Int), ActsR W (.slice a len cap) l := by
  obtain ⟨fuel, hf⟩ := h
  obtain ⟨l, h1, _, _⟩ := row_in 2 (by decide) (fun c (r : Bool × List Int) => ∃ x, c = [.bool r.1, x] ∧ IntsR W x r.2) (fun _ => True) Try.underlying38 (by kernel_rfl) (v := .slice a len cap) hf hw (fun n cs y hy _ hl => by
    obtain ⟨xs, n', _, rfl, _, hxl, hf⟩ := DataW.trod_struct Try.underlying47 hy
    match cs, hl with
    | [c0, c1], _ =>
      match xs, hxl with
      | [y0, y1], _ =>
        have f0 := hf 0 _ rfl
        have f1 := hf 1 _ rfl
        simp only [List.getElem?_cons_zero, List.getElem?_cons_succ] at f0 f1
        have f0' : DataW.trod enc Try.prog W 0 (fun _ => true) true n' 4 [c0] = some y0 := f0
        have f1' : DataW.trod enc Try.prog W 0 (fun _ => true) true n' 30 [c1] = some y1 := f1
        obtain ⟨b, e, _⟩ := DataW.trod_bool Try.underlying4 f0'
        cases e
        obtain ⟨r, hr, _⟩ := ints_in f1'
        exact ⟨(b, r), ⟨c1, rfl, hr⟩, trivial⟩)
  exact ⟨l, h1⟩

end Go.Proofs.Yteklgelmakbmcaa
