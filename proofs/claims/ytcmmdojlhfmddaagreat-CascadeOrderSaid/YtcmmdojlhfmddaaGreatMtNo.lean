/- Attributes asked of a node that has none. -/
import Derived.Test.YtcmmdojlhfmddaaGreatMtAttr
import Derived.Test.YtcmmdojlhfmddaaGreatShelf
import Derived.Test.YtcmmdojlhfmddaaGreatRgn
set_option maxRecDepth 100000
namespace Go.Proofs.YtcmmdojlhfmddaaGreat.Mt
open Go.Proofs.YtcmmdojlhfmddaaGreat.Tre
open Go Go.RowKit Go.Shelf Dm
set_option maxHeartbeats 4000000 in
theorem hasAttr0_any (n:Nd) (cv av:Value) (W:World) (hno:n.ats = []) (hcv:StrsAt W.heap.size W cv n.cls) (hav:PairsAt W.heap.size W av n.ats) (a:Tre.At) :
  Calls Tryz.prog 130 #[ndVal n cv av,.agg #[.string a.name,.int .i64 a.op,.string a.text]] W fun r W' => r = .returned (.bool (attrV n a)) ∧ Below W.heap.size W W':=by
 obtain ⟨pn,cn,rfl⟩:=hcv.len
 obtain ⟨pa,ca,rfl⟩:=hav.len
 obtain ⟨w2,hw2⟩:∃ w2,(W.alloc (.cells #[.int .i64 n.parent,.string n.tag,.string n.id,.slice pn n.cls.length cn,.slice pa n.ats.length ca] 30)).alloc (.cells #[.string a.name,.int .i64 a.op,.string a.text] 157) = w2:=⟨_,rfl⟩
 have b2:Below W.heap.size W w2:=by rw [← hw2];exact ((Below.refl _ W).alloc (Nat.le_refl _) _).alloc (by simp) _
 have kn:Blk w2 W.heap.size 30 [.int .i64 n.parent,.string n.tag,.string n.id,.slice pn n.cls.length cn,.slice pa n.ats.length ca]:=by
  rw [← hw2]
  exact (Blk.new W 30 _).next ((Below.refl _ _).alloc (Nat.le_refl _) _)
 have kc:Blk w2 (W.heap.size + 1) 157 (atCells a):=by
  rw [← hw2]
  have:=Blk.new (W.alloc (.cells #[.int .i64 n.parent,.string n.tag,.string n.id,.slice pn n.cls.length cn,.slice pa n.ats.length ca] 30)) 157 (atCells a)
  rwa [World.size_alloc] at this
 obtain ⟨⟨n0,n1,n2,n3,n4⟩,_⟩:=blk5 kn
 have hi:=indexPair_any (.slice pa n.ats.length ca) n.ats a w2 (hav.next b2) (W.heap.size + 1) kc
 obtain ⟨V,hV⟩:∃ V,attrV n a = V:=⟨_,rfl⟩
 rw [hV]
 have HVV:Hid (attrV n a = V):=hV
 have KN:Hid (Blk w2 W.heap.size 30 [.int .i64 n.parent,.string n.tag,.string n.id,.slice pn n.cls.length cn,.slice pa n.ats.length ca]):=kn
 have KC:Hid (Blk w2 (W.heap.size + 1) 157 (atCells a)):=kc
 have HNO:Hid (n.ats = []):=hno
 unfold ndVal
 clear hV kn kc hav hcv hno n0 n1 n2 n3
 go_enter Tryz.func130,Tryz.ntmps130
 go_wp2_with fail
 refine hi.mono ?_
 clear hi n4 hw2
 rintro r X ⟨hk,bX⟩
 have bWX:=below_next b2 bX
 obtain ⟨⟨n0,n1,n2,n3,n4⟩,_⟩:=blk5 (KN.out.next bX)
 rcases hk with ⟨i,p,rfl,hp,hf⟩ | ⟨rfl,hf⟩
 ·rw [HNO.out] at hp
  simp at hp
 ·obtain rfl:V = false:=by rw [← show attrV n a = V from HVV.out];unfold attrV;rw [hf]
  clear hf HVV
  go_upto_region 2 with fail
  go_quiet (fail)
  go_wp2
  go_ret
  exact ⟨rfl,below_drewN' bWX _⟩
theorem attrs_none {w:World} {es:List El} (hs:∀ e ∈ es,e.nd.ats = []):∀ a,AtOk a → AttrK w es a:=fun a _ n cv av W hq _ _ h1 h2 => by
 obtain ⟨q,hq,rfl⟩:=hq
 exact hasAttr0_any q.nd cv av W (hs q hq) h1 h2 a
end Go.Proofs.YtcmmdojlhfmddaaGreat.Mt
