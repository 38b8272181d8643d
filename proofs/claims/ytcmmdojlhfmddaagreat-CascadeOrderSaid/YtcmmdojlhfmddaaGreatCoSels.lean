/- The selectors of a text, by the document's own readers, in chapter 15's own words. -/
import Derived.Test.YtcmmdojlhfmddaaGreatSrLi
import Derived.Test.YtcmmdojlhfmddaaGreatSlTks
import Derived.Test.YtcmmdojlhfmddaaGreatWgMem
set_option maxRecDepth 100000
namespace Go.Proofs.YtcmmdojlhfmddaaGreat.Co
open Go.Proofs.YtcmmdojlhfmddaaGreat.Tre
open Go Go.RowKit Go.Shelf Sl Wg
set_option maxHeartbeats 1000000 in
theorem sels_any (s:ByteArray) (w:World) (hl:s.size ≤ 100000) :
  Calls Tryz.prog 6 #[.string s] w fun e w' => ∃ (l:List Sel) (y:Value),e = .returned y ∧ Sl.SelsAt 9 (fun b => w.heap.size < b) w' y l ∧ Below w.heap.size w w' ∧ (parseV (tksB s.data.toList) = some l ∨ parseV (tksB s.data.toList) = none ∧ l = []):=by
 obtain ⟨p,m,c,W,hrun,hB,hb,_⟩:=conv_str s w (by omega)
 have hl':s.data.toList.length ≤ 100000:=by rw [Array.length_toList];exact hl
 have h1:=refPrepare_any (.slice p m c) s.data.toList W hB (by omega)
 have h2:=fun (v:Value) (X:World) (hr:X.ownsRow 0 3 1 v (prep (ipts s.data.toList)).length ((prep (ipts s.data.toList)).map (Value.int .i64))) => Ref.tokens_any v (prep (ipts s.data.toList)) X (IntsAt.of_owns hr rfl) (by have:=prep_len5 s.data.toList;omega)
 rw [prep_fixed5] at h2
 have hg:=tksB_good s.data.toList hl'
 obtain ⟨ts,hts⟩:∃ ts,(toks Ref.nv (prep (ipts s.data.toList))).map Ref.btOf = ts:=⟨_,rfl⟩
 have htl:(toks Ref.nv (prep (ipts s.data.toList))).length = ts.length:=by rw [← hts,List.length_map]
 unfold tksB at hg ⊢
 rw [hts] at hg ⊢
 rw [hts] at h2
 rw [htl] at h2
 clear htl hts hB
 go_enter Tryz.func6,Tryz.ntmps6
 go_wp2_with fail
 refine h1.mono ?_
 clear h1
 rintro e w1 ⟨v1,rfl,hr1,b1⟩
 replace h2:=h2 v1 w1 (owns_base hr1 (Nat.zero_le _))
 go_wp2_with fail
 refine h2.mono ?_
 clear h2
 rintro e w2 ⟨v2,rfl,hr2,b2⟩
 have h3:=Sr.selectors_any v2 ts w2 (BtsAt.of_owns hr2 rfl) hg
 clear hr1 hr2
 go_wp2_with fail
 refine h3.mono ?_
 clear h3
 rintro e w3 ⟨l,y,ok,rfl,hsl,b3,hv⟩
 have hbb:=below_next (below_next (below_next hb b1) b2) b3
 have hv':parseV ts = some l ∨ parseV ts = none ∧ l = []:=by
  rcases hv with ⟨_,h⟩ | ⟨_,h,h',_⟩
  ·exact .inl h
  ·exact .inr ⟨h,h'⟩
 have hsz:=(below_next (below_next hb b1) b2).size
 have hR:Sl.SelsAt 9 (fun b => w.heap.size < b) w3 y l:=Sl.SelsAt.fr 9 hsl ⟨Nat.le_refl _,fun b hb _ => ⟨rfl,Nat.lt_of_le_of_lt hsz hb⟩⟩
 clear hv hsl
 go_wp2
 go_ret
 exact ⟨l,y,rfl,hR,hbb,hv'⟩
end Go.Proofs.YtcmmdojlhfmddaaGreat.Co
