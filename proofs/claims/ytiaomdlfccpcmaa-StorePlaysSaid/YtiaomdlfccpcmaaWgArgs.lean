/- What the rows of the statements lean on; texts that came in as arguments. -/
import Derived.Test.YtiaomdlfccpcmaaProg
import Derived.Test.YtiaomdlfccpcmaaRows
import Derived.Deep.Strs
import Derived.Deep.Grids
import Derived.ProofKit
import Derived.OpenShut
import Derived.ShutString
import Derived.ChangeOld
import Derived.SizedLaws
namespace Go.Proofs.Ytiaomdlfccpcmaa
open Go
set_option maxRecDepth 100000 in
theorem ownNone : ownKnob Try.prog.godebug = none := by kernel_rfl
set_option maxRecDepth 100000 in
theorem laidOut : laidOutB Try.prog = true := by kernel_rfl
set_option maxRecDepth 100000 in
theorem short_string {s : ByteArray} (h : s.data.toList.length ≤ reachBytes) : s.size ≤ 281474976710656 := by
  have h2 : s.size = s.data.toList.length := Array.length_toList.symm
  unfold reachBytes at h
  omega
end Go.Proofs.Ytiaomdlfccpcmaa
