/- The document's own SameInts, SameStrings, SameNode: yes, where both hold one thing; the laws' own num and alive. -/
import Derived.Test.YtgjfapdnobhkcabDmTell
import Derived.Test.YtgjfapdnobhkcabDmNew
namespace Go.Proofs.Ytgjfapdnobhkcab.Dm
open Go Go.RowKit



theorem refLow_any (w : World) (s : ByteArray) (hs : s.size ≤ 281474976710656) :
    Calls Try.prog 35 #[.string s] w fun e w' => e = .returned (.string (lowS s)) ∧ Below w.heap.size w w' := Lw.refLower_any s w (by unfold maxLen; omega)

end Go.Proofs.Ytgjfapdnobhkcab.Dm
