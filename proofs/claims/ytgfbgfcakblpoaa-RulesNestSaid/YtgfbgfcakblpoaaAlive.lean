/- The document's example: text.Prepare of the bytes 13, 10, 65 is 10, 65 (the laws' own 'alive'), in every world that holds the library's tables. -/
import Derived.Test.YtgfbgfcakblpoaaGath
namespace Go.Proofs.Ytgfbgfcakblpoaa
open Go Go.RowKit Go.Shelf

/-- A slice that owns xs (elements of one cell): its cells hold xs. -/
theorem owns_cells {X : World} {b : Nat} {e : TypeId} {v : Value} {m : Nat} {xs : List Value} (h : X.ownsRow b e 1 v m xs) :
    (v = .slice none 0 0 ∧ m = 0 ∧ xs = []) ∨ ∃ g cap, v = .slice (some ⟨g, 0, none⟩) m cap ∧ m ≤ cap ∧ cap ≤ maxLen ∧ b ≤ g ∧ g < X.heap.size ∧ ∀ j u, xs[j]? = some u → X.cell? ⟨g, 0 + j, none⟩ = some u := by
  rcases h.2 with ⟨hv, hm⟩ | ⟨g, cap, cur, hv, hg, hb, h1, h2, h3, h4⟩
  · exact .inl ⟨hv, hm, List.length_eq_zero_iff.1 (by rw [h.1, hm])⟩
  · refine .inr ⟨g, cap, hv, h1, h2, hg, (Array.getElem?_eq_some_iff.1 hb).1, fun j u hj => ?_⟩
    rw [← h4, Nat.mul_one, List.getElem?_take] at hj
    split at hj
    · simp only [World.cell?, hb, Nat.zero_add]
      simpa using hj
    · cases hj

theorem cell_of_block {X : World} {g : Nat} {cur : Array Value} {t : TypeId} {fz : Nat × Nat} (h : X.heap[g]? = some (.cells cur t fz)) (j : Nat) : X.cell? ⟨g, j, none⟩ = cur[j]? := by
  unfold World.cell?
  rw [h]
  rfl

end Go.Proofs.Ytgfbgfcakblpoaa
