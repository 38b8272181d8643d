/- Slices of truth values that came in as arguments. -/
import Derived.Test.YteihbpmmjlkkgaaDoorSlLaid
import Derived.Deep.Grids
namespace Go.Proofs.YteihbpmmjlkkgaaDoor.Sl
open Go.Proofs.YteihbpmmjlkkgaaDoor.Tre
open Go Go.ChangeShapes Go.WideShapes Go.ChangeAt Go.RowKit

/-- THE SLICE VALUE v HOLDS the bools l. -/
def BoolsAt (n₀ : Nat) (W : World) (v : Value) (l : List Bool) : Prop :=
  (l = [] ∧ ∃ p cap, v = .slice p 0 cap) ∨ ∃ bk off cap, v = .slice (some ⟨bk, off, none⟩) l.length cap ∧ l.length ≤ cap ∧ cap ≤ maxLen ∧ bk < n₀ ∧ ∀ j u, l[j]? = some u → W.cell? ⟨bk, off + j, none⟩ = some (.bool u)
theorem BoolsAt.below {n₀ : Nat} {X Y : World} {v : Value} {l : List Bool} (h : BoolsAt n₀ X v l) (hb : Below n₀ X Y) : BoolsAt n₀ Y v l := by
  rcases h with h | ⟨bk, off, cap, rfl, hc, hm, hbk, h⟩
  · exact .inl h
  · exact .inr ⟨bk, off, cap, rfl, hc, hm, hbk, fun j u hj => (hb.cell (p := ⟨bk, off + j, none⟩) hbk).trans (h j u hj)⟩
theorem BoolsAt.len {n₀ : Nat} {X : World} {v : Value} {l : List Bool} (h : BoolsAt n₀ X v l) : ∃ p cap, v = .slice p l.length cap := by
  rcases h with ⟨rfl, p, cap, rfl⟩ | ⟨bk, off, cap, rfl, _⟩
  · exact ⟨_, _, rfl⟩
  · exact ⟨_, _, rfl⟩
theorem BoolsAt.get {n₀ : Nat} {X : World} {p : Option Addr} {n cap : Nat} {l : List Bool} (h : BoolsAt n₀ X (.slice p n cap) l) {k : Nat} (hk : k < l.length) : ∃ bk off u, p = some ⟨bk, off, none⟩ ∧ l[k]? = some u ∧ X.cell? ⟨bk, off + k, none⟩ = some (.bool u) ∧ bk < n₀ := by
  rcases h with ⟨rfl, _⟩ | ⟨bk, off, cap, e, _, _, hb, h⟩
  · simp at hk
  · cases e
    exact ⟨bk, off, l[k], rfl, List.getElem?_eq_getElem hk, h k _ (List.getElem?_eq_getElem hk), hb⟩
theorem boolsAt_of_reads {H : Type} {enc : TypeId × Value → H} {W : World} {a : Option Addr} {len cap : Nat} {d : DataW H} {p : List MemPlace}
    (h : DataW.Trod enc Tryd.prog W 0 (fun _ => true) true 22 (.slice a len cap) d p) : ∃ l : List Bool, BoolsAt W.heap.size W (.slice a len cap) l := by
  obtain ⟨fuel, hf⟩ := h
  rcases Deep.open_bools Tryd.underlying22 Tryd.underlying4 (by kernel_rfl) hf with ⟨hcs, _⟩ | ⟨x, l, c, Sx, hcs, _, hl, hm, _, hcell⟩
  · simp [Value.cells] at hcs
    obtain ⟨rfl, rfl, rfl⟩ := hcs
    exact ⟨[], .inl ⟨rfl, _, _, rfl⟩⟩
  · simp [Value.cells] at hcs
    obtain ⟨rfl, rfl, rfl⟩ := hcs
    refine ⟨(List.range len).map Sx, ?_⟩
    by_cases h0 : len = 0
    · exact .inl ⟨by simp [h0], _, _, by rw [h0]⟩
    · obtain ⟨b, off, spot⟩ := x
      have hc0 := hcell 0 (by omega)
      have hspot : spot = none := by simpa [Addr.add] using World.cell?_spot hc0
      subst hspot
      refine .inr ⟨b, off, cap, by simp, by simpa using hl, hm, World.block_lt_of_cell? W ⟨b, off, none⟩ (by simpa [Addr.add] using hc0), fun j u hj => ?_⟩
      rw [List.getElem?_map] at hj
      obtain ⟨i, hi, rfl⟩ := Option.map_eq_some_iff.1 hj
      obtain ⟨h1, h2⟩ := List.getElem?_eq_some_iff.1 hi
      simp at h1 h2
      subst h2
      have := hcell j (by omega)
      rw [show (⟨b, off + j, none⟩ : Addr) = (⟨b, off, none⟩ : Addr).add j from by
        cases j with
        | zero => rfl
        | succ j => simp [Addr.add]]
      exact this

end Go.Proofs.YteihbpmmjlkkgaaDoor.Sl
