/- The tokens of bytes by the document's own reader; the laws' own 'alive' and 'Big'. -/
import Derived.Test.YtcmmdojlhfmddaaGreatRtTok
import Derived.Test.YtcmmdojlhfmddaaGreatRefPts
import Derived.Test.YtcmmdojlhfmddaaGreatBack
import Derived.Test.YtcmmdojlhfmddaaGreatRsParse
import Derived.Lib.SlBytesConst
import Derived.Lib.ConvBytes
namespace Go.Proofs.YtcmmdojlhfmddaaGreat
open Go Go.RowKit Go.Shelf
theorem prep_fixed5 (bs:List UInt8):(prep (ipts bs)).map fixC = prep (ipts bs):=map_fixC_same _ (fun p hp => (prepared_clean bs p hp).2.2.2)
def tksB (bs:List UInt8):List Bt:=(toks Ref.nv (prep (ipts bs))).map Ref.btOf
theorem bytes_new (w:World) (l:List UInt8) (t:TypeId) (fz:Nat × Nat) (hl:l.length ≤ 1000000):BytesAt (w.heap.size + 1) (w.alloc (.cells (ubytes l).toArray t fz)) (.slice (some ⟨w.heap.size,0,none⟩) l.length l.length) l:=
 .inr ⟨w.heap.size,0,l.length,rfl,Nat.le_refl _,by unfold maxLen;omega,by omega,fun j u hj => by
  rw [cell_of_block (World.alloc_heap_new w _) _,Nat.zero_add]
  unfold ubytes
  simp [hj]⟩
end Go.Proofs.YtcmmdojlhfmddaaGreat
