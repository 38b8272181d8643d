/- Numbers that came in as arguments: what the walk is told of them. -/
import Derived.Test.YteklgelmakbmcaaBlMem
import Derived.Test.YteklgelmakbmcaaRows
import Derived.Deep.Strs
import Derived.Deep.Slices
import Derived.Deep.Grids
import Derived.ProofKit
import Derived.OpenShut
import Derived.ShutString
import Derived.ChangeOld
import Derived.SizedLaws
namespace Go.Proofs.Yteklgelmakbmcaa
open Go Go.ChangeShapes Go.WideShapes Go.ChangeAt Go.RowKit

theorem ownNone : ownKnob Try.prog.godebug = none := by kernel_rfl
theorem laidOut : laidOutB Try.prog = true := by kernel_rfl
theorem short_string {s : ByteArray} (h : s.data.toList.length ≤ reachBytes) : s.size ≤ 281474976710656 := by
  have h2 : s.size = s.data.toList.length := Array.length_toList.symm
  unfold reachBytes at h
  omega

end Go.Proofs.Yteklgelmakbmcaa
