/- Texts of code points; rows of bytes that grow. -/
import Derived.Test.YtkhgmobependiaaDoorAppSrc
import Derived.Laws.IdiomStrings
import Derived.Laws.BytesArg
import Derived.Test.YtkhgmobependiaaDoorBsC
import Derived.Maps.Range
namespace Go.Proofs.YtkhgmobependiaaDoor
open Go Go.RowKit Go.Shelf

/-- The text of code points. -/
def txtOf (t : List Int) : ByteArray := ⟨(encs t).toArray⟩
theorem txtOf_nil : txtOf [] = ⟨#[]⟩ := rfl
theorem grown_of_below {w w' : World} (h : Below w.heap.size w w') (row : Option Nat) : w.grownBy w' row := ⟨h.os, h.tape, h.output, h.size, fun i hi _ => h.block i hi⟩
/-- The string of a slice of bytes. -/
theorem str_of_bytes {v : Value} {W : World} {n₀ : Nat} {l : List UInt8} (h : BytesAt n₀ W v l) : (convert 48 9 v).run Tryd.prog W = .ok (.string ⟨l.toArray⟩) W := by
  rcases h with ⟨rfl, rfl | ⟨x, cap, rfl⟩⟩ | ⟨bk, off, cap, rfl, _, _, _, hc⟩
  · exact run_convert_bytes_nil W 48 5 Tryd.underlying48 Tryd.underlying5 0 0 9 Tryd.underlying9
  · exact run_convert_bytes_back W 48 9 5 x cap [] Tryd.underlying48 Tryd.underlying5 Tryd.underlying9 (fun j hj => absurd hj (Nat.not_lt_zero j))
  · refine run_convert_bytes_back W 48 9 5 ⟨bk, off, none⟩ cap l Tryd.underlying48 Tryd.underlying5 Tryd.underlying9 (fun j hj => ?_)
    rw [addr_add]
    exact hc j _ (List.getElem?_eq_getElem hj)
theorem escAt_parts {l : List Int} (h : escAt l = true) : ∃ c r, l = c :: r ∧ r ≠ [] := by
  match l, h with
  | [], h => exact absurd h (by decide)
  | [c], h => exact absurd h (by simp [escAt, see])
  | c :: d :: r, _ => exact ⟨c, d :: r, rfl, by simp⟩

end Go.Proofs.YtkhgmobependiaaDoor
