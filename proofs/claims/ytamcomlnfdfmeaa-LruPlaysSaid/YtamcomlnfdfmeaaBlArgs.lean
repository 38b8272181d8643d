/- Numbers, rows of numbers and rows of calls that came in as arguments: what the walk is told of them. -/
import Derived.Test.YtamcomlnfdfmeaaBlMem
import Derived.Test.YtamcomlnfdfmeaaSelArgs
import Derived.Deep.Slices
namespace Go.Proofs.Ytamcomlnfdfmeaa
open Go.Proofs.Ytamcomlnfdfmeaa.Tre
open Go Go.ChangeShapes Go.WideShapes Go.ChangeAt Go.RowKit Bl Wg

theorem ints_in {H : Type} {enc : TypeId × Value → H} {W : World} {base fuel : Nat} {v : Value} {x : DataW H × List MemPlace} (h : DataW.trod enc Try.prog W base (fun _ => true) true fuel 33 [v] = some x) : ∃ l : List Int, IntsR W v l ∧ ∀ r, l ≠ [] → v.ownBlock = some r → r < W.heap.size := by
  suffices hs : ∃ l : List Int, IntsR W v l by
    obtain ⟨l, hl⟩ := hs
    exact ⟨l, hl, fun r h0 hr => hl.lt h0 hr⟩
  rcases open_ints Try.underlying33 Try.underlying3 (by kernel_rfl) h with ⟨hcs, _⟩ | ⟨x, len, cap, zs, hcs, _, hl, hm, hz, _, hcell, hwz⟩
  · cases hcs
    exact ⟨[], .inl ⟨rfl, _, _, rfl⟩⟩
  · cases hcs
    have hzl : zs.length = cap := by simpa using hz
    refine ⟨zs.take len, ?_⟩
    by_cases h0 : len = 0
    · subst h0; exact .inl ⟨by simp, _, _, rfl⟩
    · obtain ⟨b, off, spot⟩ := x
      have hc0 := hcell 0 (by omega)
      have hspot : spot = none := by simpa [Addr.add] using World.cell?_spot hc0
      subst hspot
      have hlen : (zs.take len).length = len := by simp; omega
      refine .inr ⟨b, off, cap, by rw [hlen], by rw [hlen]; exact hl, hm, fun j u hj => ?_⟩
      have hjl : j < len := by
        have := (List.getElem?_eq_some_iff.1 hj).1
        omega
      rw [List.getElem?_take_of_lt hjl] at hj
      have := hcell j (by omega)
      rw [List.getD_eq_getElem?_getD, hj, addr_add'] at this
      exact this

/-- The slice v has the rows l of numbers. -/
def RowsR (W : World) (v : Value) (l : List (List Int)) : Prop := RowT 1 (fun c r => ∃ x, c = [x] ∧ IntsR W x r) W.heap.size W v l
/-- The slice v has the calls l. -/
def ActsR (W : World) (v : Value) (l : List (Bool × List Int)) : Prop := RowT 2 (fun c r => ∃ x, c = [.bool r.1, x] ∧ IntsR W x r.2) W.heap.size W v l
end Go.Proofs.Ytamcomlnfdfmeaa
