/- What the rows of the statements lean on; texts that came in as arguments. -/
import Derived.Test.YtnemagmakgiheaaGreatProg
import Derived.Test.YtnemagmakgiheaaGreatRows
import Derived.Deep.Strs
import Derived.Deep.Grids
import Derived.ProofKit
import Derived.OpenShut
import Derived.ShutString
import Derived.ChangeOld
import Derived.SizedLaws
set_option maxRecDepth 100000
namespace Go.Proofs.YtnemagmakgiheaaGreat
open Go
theorem ownNone:ownKnob Tryz.prog.godebug = none:=by kernel_rfl
theorem laidOut:laidOutB Tryz.prog = true:=by kernel_rfl
theorem short_string {s:ByteArray} (h:s.data.toList.length ≤ reachBytes):s.size ≤ 281474976710656:=by
 have h2:s.size = s.data.toList.length:=Array.length_toList.symm
 unfold reachBytes at h
 omega
end Go.Proofs.YtnemagmakgiheaaGreat
