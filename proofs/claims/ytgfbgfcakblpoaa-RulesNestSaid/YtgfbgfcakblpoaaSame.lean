/- tapestrierref9.SameInts at two slices of integers; the document's own Points and Prepare at every slice of bytes. -/
import Derived.Test.YtgfbgfcakblpoaaAlive
import Derived.Test.YtgfbgfcakblpoaaFix
import Derived.OwnWalk
import Derived.Deep.QuietTactic
import Derived.BigQuiet
namespace Go.Proofs.Ytgfbgfcakblpoaa
open Go Go.RowKit Go.Shelf

/-- A row that the call owns holds its integers. -/
theorem IntsAt.of_owns {X : World} {b : Nat} {e : TypeId} {v : Value} {l : List Int} {m : Nat} (h : X.ownsRow b e 1 v m (l.map (Value.int .i64))) (hm : m = l.length) : IntsAt X.heap.size X v l := by
  subst hm
  rcases owns_cells h with ⟨rfl, h2, h3⟩ | ⟨g, cap, rfl, h1, h2, h3, h4, h5⟩
  · exact .inl ⟨by simpa using h3, .inl rfl⟩
  · exact .inr ⟨g, 0, cap, rfl, h1, h2, h4, fun j u hj => h5 j _ (by rw [List.getElem?_map, hj]; rfl)⟩


end Go.Proofs.Ytgfbgfcakblpoaa
