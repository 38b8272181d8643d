/- The document's example: Of of -1.2345 is -1234, and the text of it is -1.234 (the laws' own 'alive'), in every world that holds the library's table. -/
import Derived.Test.YtgfbgfcakblpoaaNmText
namespace Go.Proofs.Ytgfbgfcakblpoaa.Nm
open Go Go.RowKit Go.Shelf

theorem alive_num : numN [45, 49, 46, 50, 51, 52, 53] = -1234 ∧ numOk [45, 49, 46, 50, 51, 52, 53] = true := by decide +kernel
theorem alive_txt : txt (-1234) = [45, 49, 46, 50, 51, 52] := by
  have e : capI (-1234) = -1234 := by decide
  rw [txt, e, if_pos (by decide), mag, frac, if_neg (by decide)]
  rw [show ((-1234 : Int).natAbs / 1000) = 1 by decide, Lib.decDigits_one (by decide), show 1000 + (-1234 : Int).natAbs % 1000 = 1000 + 234 by decide, dec4 234 (by decide)]
  rfl
theorem eq_list {a : ByteArray} {l : List UInt8} (h : a.data.toList = l) : a = ⟨l.toArray⟩ := by
  cases a with
  | mk d => subst h; simp

end Go.Proofs.Ytgfbgfcakblpoaa.Nm
