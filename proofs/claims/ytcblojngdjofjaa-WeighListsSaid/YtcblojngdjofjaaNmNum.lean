/- The document's own Num at every string that is not too long. -/
import Derived.Test.YtcblojngdjofjaaBsI
namespace Go.Proofs.Ytcblojngdjofjaa.Nm
open Go Go.RowKit

theorem refNum_long (s : ByteArray) (w : World) (hs : s.size ≤ 4000000) :
    Calls Try.prog 43 #[.string s] w fun e w' => e = .returned (.tuple #[.int .i64 (numN s.data.toList), .bool (numOk s.data.toList)]) ∧ w' = w := by
  cases h : s.data.toList with
  | nil => rw [← h]; exact refNum_none s w hs h
  | cons c r =>
    by_cases h1 : c = 45
    · subst h1
      rw [← h]
      exact refNum_less s w hs r h
    · by_cases h2 : c = 43
      · subst h2
        rw [← h]
        exact refNum_plus s w hs r h
      · rw [← h]
        exact refNum_bare s w hs c r h h2 h1

end Go.Proofs.Ytcblojngdjofjaa.Nm
