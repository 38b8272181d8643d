/- The selectors of a text, by the document's own readers; the laws' own 'alive' of chapter 11. -/
import Derived.Test.YtnemagmakgiheaaGreatSrLi
import Derived.Test.YtnemagmakgiheaaGreatSlTks
import Derived.Test.YtnemagmakgiheaaGreatWgA
set_option maxRecDepth 100000
namespace Go.Proofs.YtnemagmakgiheaaGreat.Wg
open Go.Proofs.YtnemagmakgiheaaGreat.Tre
open Go Go.RowKit Go.Shelf Sl
set_option maxHeartbeats 1000000 in
theorem sels_any (s:ByteArray) (w:World) (hl:s.size ≤ 100000) :
  Calls Tryz.prog 10 #[.string s] w fun e w' => ∃ (l:List Sel) (y:Value),e = .returned y ∧ SelsR 9 w'.heap.size w' y l ∧ Below w.heap.size w w' ∧ (parseV (tksB s.data.toList) = some l ∨ parseV (tksB s.data.toList) = none ∧ l = []):=by
 obtain ⟨p,m,c,W,hrun,hB,hb,_⟩:=conv_str s w (by omega)
 have hl':s.data.toList.length ≤ 100000:=by rw [Array.length_toList];exact hl
 have h1:=refPrepare_any (.slice p m c) s.data.toList W hB (by omega)
 have h2:=fun (v:Value) (X:World) (hr:X.ownsRow 0 3 1 v (prep (ipts s.data.toList)).length ((prep (ipts s.data.toList)).map (Value.int .i64))) => Ref.tokens_any v (prep (ipts s.data.toList)) X (IntsAt.of_owns hr rfl) (by have:=prep_len5 s.data.toList;omega)
 rw [prep_fixed5] at h2
 have hg:=tksB_good s.data.toList hl'
 obtain ⟨ts,hts⟩:∃ ts,(toks Ref.nv (prep (ipts s.data.toList))).map Ref.btOf = ts:=⟨_,rfl⟩
 have htl:(toks Ref.nv (prep (ipts s.data.toList))).length = ts.length:=by rw [← hts,List.length_map]
 unfold tksB at hg ⊢
 rw [hts] at hg ⊢
 rw [hts] at h2
 rw [htl] at h2
 clear htl hts hB
 go_enter Tryz.func10,Tryz.ntmps10
 go_wp2_with fail
 refine h1.mono ?_
 clear h1
 rintro e w1 ⟨v1,rfl,hr1,b1⟩
 replace h2:=h2 v1 w1 (owns_base hr1 (Nat.zero_le _))
 go_wp2_with fail
 refine h2.mono ?_
 clear h2
 rintro e w2 ⟨v2,rfl,hr2,b2⟩
 have h3:=Sr.selectors_any v2 ts w2 (BtsAt.of_owns hr2 rfl) hg
 clear hr1 hr2
 go_wp2_with fail
 refine h3.mono ?_
 clear h3
 rintro e w3 ⟨l,y,ok,rfl,hsl,b3,hv⟩
 have hbb:=below_next (below_next (below_next hb b1) b2) b3
 have hv':parseV ts = some l ∨ parseV ts = none ∧ l = []:=by
  rcases hv with ⟨_,h⟩ | ⟨_,h,h',_⟩
  ·exact .inl h
  ·exact .inr ⟨h,h'⟩
 have hR:=SelsAt.toR 9 hsl
 clear hv hsl
 go_wp2
 go_ret
 exact ⟨l,y,rfl,hR,hbb,hv'⟩
def aliveT:List UInt8:=[97,46,98,35,99]
theorem alive_plain:(match parseV (tksB aliveT) with
 | some [s] => ofV s == 65793
 | _ => false) = true:=by decide +kernel
set_option maxHeartbeats 1000000 in
theorem alive_any (w:World):Calls Tryz.prog 18 #[] w fun e w' => e = .returned (.bool true) ∧ Below w.heap.size w w':=by
 have h1:=sels_any ⟨#[97,46,98,35,99]⟩ w (by decide)
 rw [show (⟨#[97,46,98,35,99]⟩:ByteArray).data.toList = aliveT from rfl] at h1
 have hp:=alive_plain
 generalize tksB aliveT = ts at *
 go_enter Tryz.func18,Tryz.ntmps18
 go_wp2_with fail
 refine h1.mono ?_
 clear h1
 rintro e w1 ⟨l,y,rfl,hR,b1,hv⟩
 obtain ⟨s,rfl,hs⟩:∃ s,l = [s] ∧ ofV s = 65793:=by
  rcases hv with h | ⟨h,_⟩
  ·rw [h] at hp
   match l,hp with
   | [s],hp => exact ⟨s,rfl,by simpa using hp⟩
  ·rw [h] at hp
   cases hp
 obtain ⟨q,cap,hy⟩:=RowT.len hR
 rw [List.length_singleton] at hy
 subst hy
 obtain ⟨b,off,x,hq,hbn,hc1,hc2,hx,hcell⟩:=SelsR.get hR (k:=0) rfl
 subst hq
 rw [Nat.add_zero] at hcell
 rw [List.length_singleton] at hc1
 have h2:=of_any x s w1 hx
 rw [hs] at h2
 obtain ⟨qx,cx,rfl⟩:=RowT.len hx
 unfold maxLen at hc2
 clear hR hx hv hp hs
 go_wp2_with fail
 refine h2.mono ?_
 clear h2
 rintro e w2 ⟨rfl,b2⟩
 go_wp2
 go_ret
 exact ⟨rfl,below_next b1 b2⟩
end Go.Proofs.YtnemagmakgiheaaGreat.Wg
/- Many new blocks in a row; rows and parts in new blocks. -/
namespace Go.Proofs.YtnemagmakgiheaaGreat.Wg
open Go.Proofs.YtnemagmakgiheaaGreat.Tre
open Go Go.RowKit Go.Shelf Sl
def lays (w:World):List Obj → World
 | [] => w
 | o :: r => lays (w.alloc o) r
theorem row_nil {α:Type} (sz:Nat) (T:List Value → α → Prop) (n:Nat) (W:World):RowT sz T n W (.slice none 0 0) ([]:List α):=.inl ⟨rfl,_,_,rfl⟩
theorem SelsR.nil:∀ (d n:Nat) (W:World),SelsR d n W (.slice none 0 0) []
 | 0,_,_ => ⟨rfl,_,_,_,rfl⟩
 | _ + 1,_,_ => row_nil _ _ _ _
end Go.Proofs.YtnemagmakgiheaaGreat.Wg
