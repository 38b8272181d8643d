/- The selectors of a text, as both matchings read them: whole, in bounds at every depth. -/
import Derived.Test.YtnemagmakgiheaaGreatSrLi
import Derived.Test.YtnemagmakgiheaaGreatSlTks
import Derived.Test.YtnemagmakgiheaaGreatWgMem
import Derived.Test.YtnemagmakgiheaaGreatPbFact
import Derived.Test.YtnemagmakgiheaaGreatMtSame
set_option maxRecDepth 100000
namespace Go.Proofs.YtnemagmakgiheaaGreat.Pb
open Go Go.RowKit Go.Shelf Sl Wg Go.Proofs.YtnemagmakgiheaaGreat.Tre
theorem toR_more (e:Nat):∀ (d:Nat) {P:Nat → Prop} {W:World} {v:Value} {l:List Sel},Sl.SelsAt d P W v l → SelsR (e + d) W.heap.size W v l
 | 0,_,_,_,_,h => by
  obtain ⟨rfl,rfl⟩:=h
  cases e with
  | zero => exact ⟨rfl,_,_,_,rfl⟩
  | succ e => exact .inl ⟨rfl,_,_,rfl⟩
 | d + 1,_,_,_,_,h => FinRow.toR h (fun _ _ ⟨x,e',hx⟩ => ⟨x,e',PtsF.toR hx (fun _ _ hq => toR_more e d hq)⟩)
theorem okS_of:∀ (d:Nat) (s:Sel),SV d s → Rf.okS d s
 | 0,s,h => fun p hp => by
  obtain ⟨_,⟨_,_,_,c4⟩,h2⟩:=h p hp
  exact ⟨fun a ha => by have:=(c4 a ha).2.1;omega,fun q hq => ⟨Mt.i64_of (h2 q hq).1.2.1,Mt.i64_of (h2 q hq).1.2.2⟩⟩
 | d + 1,s,h => fun p hp => by
  obtain ⟨_,⟨_,_,_,c4⟩,h2⟩:=h p hp
  refine ⟨⟨fun a ha => by have:=(c4 a ha).2.1;omega,fun q hq => ⟨Mt.i64_of (h2 q hq).1.2.1,Mt.i64_of (h2 q hq).1.2.2⟩⟩,fun q hq s' hs' => okS_of d s' (fun p' hp' => ?_)⟩
  have h3:=(h2 q hq).2
  unfold VD at h3
  obtain ⟨g1,g2,g3⟩:=h3.2 s' hs' p' hp'
  exact ⟨g1,g2,g3⟩
structure TxAt (W:World) (y:Value) (l:List Sel):Prop where
 r9:SelsR 9 W.heap.size W y l
 r11:SelsR 11 W.heap.size W y l
 wd:WD 11 l
 ok:∀ s ∈ l,Rf.okS 8 s
 few:l.length ≤ 2000
theorem TxAt.next {W X:World} {y:Value} {l:List Sel} (h:TxAt W y l) (hb:Below W.heap.size W X):TxAt X y l:=⟨h.r9.next hb,h.r11.next hb,h.wd,h.ok,h.few⟩
theorem same_plain (es:List Dm.El) (e:Int) (s:Sel):Rf.selectorV es e s = Mt.selectorV es e s:=by
 unfold Rf.selectorV Mt.selectorV
 rw [Mt.fits_deep]
set_option maxHeartbeats 1000000 in
theorem sels_full (s:ByteArray) (w:World) (hl:s.size ≤ 100000) :
  Calls Tryz.prog 10 #[.string s] w fun e w' => ∃ (l:List Sel) (y:Value),e = .returned y ∧ TxAt w' y l ∧ Below w.heap.size w w':=by
 obtain ⟨p,m,c,W,hrun,hB,hb,_⟩:=conv_str s w (by omega)
 have hl':s.data.toList.length ≤ 100000:=by rw [Array.length_toList];exact hl
 have h1:=refPrepare_any (.slice p m c) s.data.toList W hB (by omega)
 have h2:=fun (v:Value) (X:World) (hr:X.ownsRow 0 3 1 v (prep (ipts s.data.toList)).length ((prep (ipts s.data.toList)).map (Value.int .i64))) => Ref.tokens_any v (prep (ipts s.data.toList)) X (IntsAt.of_owns hr rfl) (by have:=prep_len5 s.data.toList;omega)
 rw [prep_fixed5] at h2
 have hg:=tksB_good s.data.toList hl'
 obtain ⟨ts,hts⟩:∃ ts,(toks Ref.nv (prep (ipts s.data.toList))).map Ref.btOf = ts:=⟨_,rfl⟩
 have htl:(toks Ref.nv (prep (ipts s.data.toList))).length = ts.length:=by rw [← hts,List.length_map]
 unfold tksB at hg
 rw [hts] at hg
 rw [hts] at h2
 rw [htl] at h2
 clear htl hts hB
 go_enter Tryz.func10,Tryz.ntmps10
 go_wp2_with fail
 refine h1.mono ?_
 clear h1
 rintro e w1 ⟨v1,rfl,hr1,b1⟩
 replace h2:=h2 v1 w1 (owns_base hr1 (Nat.zero_le _))
 go_wp2_with fail
 refine h2.mono ?_
 clear h2
 rintro e w2 ⟨v2,rfl,hr2,b2⟩
 have h3:=Sr.selectors_any v2 ts w2 (BtsAt.of_owns hr2 rfl) hg
 have HG:Hid (Sl.Good ts):=hg
 clear hr1 hr2 hg
 go_wp2_with fail
 refine h3.mono ?_
 clear h3
 rintro e w3 ⟨l,y,ok,rfl,hsl,b3,hv⟩
 have hbb:=below_next (below_next (below_next hb b1) b2) b3
 have hV:∀ e,VD (e + 9) l:=fun e => by
  rcases hv with ⟨_,h⟩ | ⟨_,h,h',_⟩
  ·exact parseV_good e HG.out h
  ·rw [h'];exact wd_nil _
 have hT:TxAt w3 y l:=⟨toR_more 0 9 hsl,toR_more 2 9 hsl,vd_wd 11 l (hV 2),fun s hs => by
  have h0:VD (0 + 9) l:=hV 0
  unfold VD at h0
  exact okS_of 8 s (fun p hp => ⟨(h0.2 s hs p hp).1,(h0.2 s hs p hp).2.1,(h0.2 s hs p hp).2.2⟩),by
  have h0:VD (0 + 9) l:=hV 0
  unfold VD at h0
  exact h0.1⟩
 clear hv hsl hV
 go_wp2
 go_ret
 exact ⟨l,y,rfl,hT,hbb⟩
set_option maxHeartbeats 1000000 in
theorem refAny_any (T:Rf.TE) (l:List Sel) (v:Value) (e:Int) (w:World) (hT:T.At w) (hv:TxAt w v l) :
  Calls Tryz.prog 13 #[T.p,.int .i64 e,v] w fun r w' => r = .returned (.bool (Mt.givenV T.es e l)) ∧ Below w.heap.size w w':=by
 have hsh:=RowT.short hv.r9
 obtain ⟨q,c,rfl⟩:=RowT.len hv.r9
 unfold maxLen at hsh
 have HT:Hid (T.At w):=hT
 have HV:Hid (TxAt w (.slice q l.length c) l):=hv
 clear hT hv
 go_enter Tryz.func13,Tryz.ntmps13
 go_wp2
 go_loopw [7] (fun y wr => ∃ k:Nat,y = .int .i64 k ∧ k ≤ l.length ∧ Hid ((l.take k).any (Mt.selectorV T.es e) = false) ∧ Below w.heap.size w wr) (fun y _ => l.length - (intOf y).toNat)
 case atStart => exact ⟨0,rfl,Nat.zero_le _,rfl,Below.refl _ _⟩
 case round =>
  obtain ⟨k,rfl,hk,HN,bw⟩:=hrel
  by_cases hlt:k < l.length
  ·have hki:(k:Int) < (l.length:Int):=by omega
   obtain ⟨s,hs⟩:∃ s,l[k]? = some s:=⟨_,List.getElem?_eq_getElem hlt⟩
   obtain ⟨b,off,x,rfl,hb,hc1,hc2,hx,y0⟩:=SelsR.get (HV.out.next bw).r9 hs
   obtain ⟨qp,cp,rfl⟩:=RowT.len hx
   have hsel:=Rf.selector_any T s (.slice qp s.length cp) e wr (HT.out.next bw) hx (HV.out.ok s (List.mem_of_getElem? hs))
   rw [same_plain] at hsel
   have HNX:Hid ((l.take (k + 1)).any (Mt.selectorV T.es e) = Mt.selectorV T.es e s):=by
    show _ = _
    rw [any_snoc (Mt.selectorV T.es e) hs,show (l.take k).any _ = false from HN.out,Bool.false_or]
   have HYES:Hid (Mt.selectorV T.es e s = true → Mt.givenV T.es e l = true):=fun h => List.any_eq_true.2 ⟨s,List.mem_of_getElem? hs,h⟩
   generalize Mt.selectorV T.es e s = V at *
   unfold maxLen at hc2
   clear hx hs
   go_wp2_with fail
   refine hsel.mono ?_
   clear hsel y0
   rintro r X ⟨rfl,bX⟩
   have b2:=below_next bw bX
   cases V with
   | true =>
    have HR:Hid (Mt.givenV T.es e l = true):=HYES.out rfl
    go_wp2
    go_ret
    exact ⟨by rw [show Mt.givenV T.es e l = true from HR.out];rfl,b2⟩
   | false =>
    go_wp2
    go_roundw
    case rel => exact ⟨k + 1,by go_num,by omega,HNX,b2⟩
    case measure => simp [intOf];omega
  ·have hki:¬ (k:Int) < (l.length:Int):=by omega
   have FIN:Hid (Mt.givenV T.es e l = false):=by
    have h:=HN.out
    rw [List.take_of_length_le (by omega)] at h
    exact h
   go_wp2
   go_ret
   exact ⟨by rw [show Mt.givenV T.es e l = false from FIN.out];rfl,bw⟩
end Go.Proofs.YtnemagmakgiheaaGreat.Pb
