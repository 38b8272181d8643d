/- package match: conditions of attributes. -/
import Derived.Test.YtcmmdojlhfmddaaGreatMtAttr
import Derived.Test.YtcmmdojlhfmddaaGreatMtMem
import Derived.Test.YtcmmdojlhfmddaaGreatProg
import Derived.Test.YtcmmdojlhfmddaaGreatShelf
import Derived.Test.YtcmmdojlhfmddaaGreatRgn
import Derived.Lib.FieldsP
import Derived.Lib.DecodeN
import Derived.WalkKit
import Derived.Below
import Derived.Deep.QuietTactic
import Derived.BigQuiet
namespace Go.Proofs.YtcmmdojlhfmddaaGreat.Mt
open Go.Proofs.YtcmmdojlhfmddaaGreat.Tre
open Go Go.RowKit Go.Shelf Dm
/-! ### plain facts -/
/-! ### white -/
def ML (W:World):Prop:=∃ m:Int,W.cell? ⟨0,0,none⟩ = some (.int .i64 m)
theorem ML.next {W X:World} (h:ML W) (hb:Below W.heap.size W X):ML X:=by
 obtain ⟨m,hm⟩:=h
 exact ⟨m,(hb.cell (p:=⟨0,0,none⟩) (World.block_lt_of_cell? W ⟨0,0,none⟩ hm)).trans hm⟩
/-! ### isText -/
/-! ### hasAttr -/
def ShortN (n:Nd):Prop:=∀ p ∈ n.ats,p.2.size < 4294967281
end Go.Proofs.YtcmmdojlhfmddaaGreat.Mt
