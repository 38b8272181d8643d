/- What the rows of the statements lean on; texts that came in as arguments. -/
import Derived.Test.YtcmmdojlhfmddaaGreatProg
import Derived.Test.YtcmmdojlhfmddaaGreatRows
import Derived.Test.YtcmmdojlhfmddaaGreatWgMem
import Derived.Deep.Strs
import Derived.Deep.Grids
import Derived.ProofKit
import Derived.OpenShut
import Derived.ShutString
import Derived.ChangeOld
import Derived.SizedLaws
set_option maxRecDepth 100000
namespace Go.Proofs.YtcmmdojlhfmddaaGreat
open Go
theorem ownNone:ownKnob Tryz.prog.godebug = none:=by kernel_rfl
theorem laidOut:laidOutB Tryz.prog = true:=by kernel_rfl
end Go.Proofs.YtcmmdojlhfmddaaGreat

/- Selectors and rules that came in as arguments: what the walk is told of them. -/
namespace Go.Proofs.YtcmmdojlhfmddaaGreat.Wg
open Go.Proofs.YtcmmdojlhfmddaaGreat.Tre
open Go Go.RowKit Go.ChangeShapes Go.WideShapes Go.ChangeAt Sl
def NsOk (l:List ByteArray):Prop:=∀ s ∈ l,s.size ≤ 281474976710656
def CpOk (c:Cp):Prop:=c.tag.size ≤ 281474976710656 ∧ NsOk c.ids ∧ NsOk c.classes ∧ ∀ a ∈ c.attrs,a.name.size ≤ 281474976710656 ∧ a.text.size ≤ 281474976710656 ∧ (Lit.int .i64 a.op).wf = true
end Go.Proofs.YtcmmdojlhfmddaaGreat.Wg
namespace Go.Proofs.YtcmmdojlhfmddaaGreat
open Go.Proofs.YtcmmdojlhfmddaaGreat.Tre
open Go Go.RowKit Go.ChangeShapes Go.WideShapes Go.ChangeAt Sl Wg
end Go.Proofs.YtcmmdojlhfmddaaGreat
