/- package match: tags, IDs, classes. -/
import Derived.Test.YtcmmdojlhfmddaaGreatMtMem
set_option maxRecDepth 100000
namespace Go.Proofs.YtcmmdojlhfmddaaGreat.Mt
open Go.Proofs.YtcmmdojlhfmddaaGreat.Tre
open Go Go.RowKit Dm
theorem beq_false {a b:ByteArray} (h:a ≠ b):(a.toList == b.toList) = false:=by
 rw [Bool.eq_false_iff]
 intro e
 have e2:a.data.toList = b.data.toList:=by simpa [ByteArray.toList_eq] using e
 exact h (ByteArray.ext (Array.toList_inj.1 e2))
theorem any_take {α:Type} {f:α → Bool} {l:List α} {i:Nat} {x:α} (h:(l.take i).any f = false) (hx:l[i]? = some x) (hf:f x = false):(l.take (i + 1)).any f = false:=by
 rw [List.take_add_one,hx,List.any_append,h]
 simp [hf]
theorem all_take {α:Type} {f:α → Bool} {l:List α} {i:Nat} {x:α} (h:(l.take i).all f = true) (hx:l[i]? = some x) (hf:f x = true):(l.take (i + 1)).all f = true:=by
 rw [List.take_add_one,hx,List.all_append,h]
 simp [hf]
theorem all_not {α:Type} {f:α → Bool} {l:List α} {i:Nat} {x:α} (hx:l[i]? = some x) (hf:f x = false):l.all f = false:=by
 rw [List.all_eq_false]
 exact ⟨x,List.mem_of_getElem? hx,by simp [hf]⟩
set_option maxHeartbeats 2000000 in
theorem indexStr_any (v:Value) (l:List ByteArray) (x:ByteArray) (w:World) (hv:StrsAt w.heap.size w v l) :
  Calls Tryz.prog 137 #[v,.string x] w fun r w' => (∃ i:Int,r = .returned (.int .i64 i) ∧ decide (0 ≤ i) = l.any (fun s => decide (s = x))) ∧ w' = w:=by
 have hl:=hv.short
 obtain ⟨p,cap,rfl⟩:=hv.len
 have HV:Hid (StrsAt w.heap.size w (.slice p l.length cap) l):=hv
 clear hv
 go_enter Tryz.func137,Tryz.ntmps137
 go_wp2
 go_loopw [8] (fun y wr => ∃ i:Nat,y = .int .i64 i ∧ i ≤ l.length ∧ (l.take i).any (fun s => decide (s = x)) = false ∧ w = wr) (fun y _ => l.length - (intOf y).toNat)
 case atStart => exact ⟨0,rfl,Nat.zero_le _,rfl,rfl⟩
 case round =>
  obtain ⟨i,rfl,hi,hno,rfl⟩:=hrel
  have HNO:Hid (_ = _):=hno
  clear hno
  by_cases hlt:i < l.length
  ·obtain ⟨s,hs⟩:∃ s,l[i]? = some s:=⟨_,List.getElem?_eq_getElem hlt⟩
   obtain ⟨bk,off,rfl,_,hcap,hmx,ha⟩:=HV.out.get hs
   have a0:=ha 0 _ rfl
   simp only [Nat.mul_one,Nat.add_zero] at a0
   unfold maxLen at hmx
   have HS:Hid (_ = _):=hs
   have hii:(i:Int) < (l.length:Int):=by omega
   clear ha hs
   by_cases he:s = x
   ·subst he
    have FIN:Hid (decide ((0:Int) ≤ (i:Int)) = l.any (fun s' => decide (s' = s))):=by
     show _ = _
     rw [decide_eq_true (by omega)]
     symm
     rw [List.any_eq_true]
     exact ⟨s,List.mem_of_getElem? HS.out,decide_eq_true rfl⟩
    go_wp2
    go_ret
    exact ⟨⟨i,rfl,FIN.out⟩,rfl⟩
   ·have he':(x.toList == s.toList) = false:=beq_false (fun h => he h.symm)
    have FIN:Hid ((l.take (i + 1)).any (fun s => decide (s = x)) = false):=any_take HNO.out HS.out (decide_eq_false he)
    clear he
    go_wp2
    exact ⟨⟨i + 1,by go_num,by omega,FIN.out,trivial⟩,by simp [intOf];omega⟩
  ·have hii:¬ ((i:Int) < (l.length:Int)):=by omega
   obtain rfl:i = l.length:=by omega
   have FIN:Hid (decide ((0:Int) ≤ (-1:Int)) = l.any (fun s => decide (s = x))):=by
    have h:=HNO.out
    rw [List.take_length] at h
    show _ = _
    rw [h]
    rfl
   go_wp2
   go_ret
   exact ⟨⟨-1,rfl,FIN.out⟩,rfl⟩
theorem containsStr_any (v:Value) (l:List ByteArray) (x:ByteArray) (w:World) (hv:StrsAt w.heap.size w v l) :
  Calls Tryz.prog 129 #[v,.string x] w fun r w' => r = .returned (.bool (l.any (fun s => decide (s = x)))) ∧ w' = w:=by
 have h:=indexStr_any v l x w hv
 obtain ⟨p,cap,rfl⟩:=hv.len
 clear hv
 go_enter Tryz.func129,Tryz.ntmps129
 go_wp2_with fail
 refine h.mono ?_
 clear h
 rintro r w' ⟨⟨i,rfl,hi⟩,rfl⟩
 have HH:Hid (_ = _):=hi
 clear hi
 go_wp2
 go_ret
 exact ⟨by rw [← show decide (0 ≤ i) = _ from HH.out];rfl,rfl⟩
def AttrK (w₀:World) (es:List El) (a:At):Prop:=∀ (n:Nd) (cv av:Value) (W:World),(∃ q ∈ es,q.nd = n) → Below w₀.heap.size w₀ W → NdOk n → StrsAt W.heap.size W cv n.cls → PairsAt W.heap.size W av n.ats →
 Calls Tryz.prog 130 #[ndVal n cv av,.agg #[.string a.name,.int .i64 a.op,.string a.text]] W fun r W' => r = .returned (.bool (attrV n a)) ∧ Below W.heap.size W W'
theorem AttrK.next {w₀ w₁:World} {es:List El} {a:At} (h:AttrK w₀ es a) (hb:Below w₀.heap.size w₀ w₁):AttrK w₁ es a:=fun n cv av W hq hW hN h1 h2 => h n cv av W hq (below_next hb hW) hN h1 h2
theorem eqlEmpty (s:ByteArray):(s.toList == []) = decide (s = ⟨#[]⟩):=by
 rw [Bool.eq_iff_iff]
 simp only [beq_iff_eq,decide_eq_true_eq]
 constructor
 ·intro e
  have e2:s.data.toList = []:=by simpa [ByteArray.toList_eq] using e
  exact ByteArray.ext (Array.toList_inj.1 e2)
 ·rintro rfl
  rw [ByteArray.toList_eq]
set_option maxHeartbeats 8000000 in
theorem isNamed_any (w₀:World) (es:List El) (HAT:∀ a,AtOk a → AttrK w₀ es a) (n:Nd) (cv av:Value) (W:World) (hq:∃ q ∈ es,q.nd = n) (b0:Below w₀.heap.size w₀ W) (hN:NdOk n) (hcv:StrsAt W.heap.size W cv n.cls) (hav:PairsAt W.heap.size W av n.ats) (c:Cp) (vi vc va vp:Value) (hi:StrsR W.heap.size W vi c.ids) (hc:StrsR W.heap.size W vc c.classes) (ha:AttrsAt W.heap.size W va c.attrs) (hao:∀ x ∈ c.attrs,AtOk x) (hvp:∃ p m k,vp = .slice p m k) :
  Calls Tryz.prog 123 #[ndVal n cv av,.agg #[.string c.tag,vi,vc,va,vp]] W fun r W' => r = .returned (.bool (namedV n c)) ∧ Below W.heap.size W W':=by
 obtain ⟨pn,cn,rfl⟩:=hcv.len
 obtain ⟨pa,ca,rfl⟩:=hav.len
 obtain ⟨pi,ci,rfl⟩:=hi.len
 obtain ⟨pc,cc,rfl⟩:=hc.len
 obtain ⟨pt,ct,rfl⟩:=ha.len
 obtain ⟨pp,mp,cp,rfl⟩:=hvp
 obtain ⟨w2,hw2⟩:∃ w2,(W.alloc (.cells #[.int .i64 n.parent,.string n.tag,.string n.id,.slice pn n.cls.length cn,.slice pa n.ats.length ca] 30)).alloc (.cells #[.string c.tag,.slice pi c.ids.length ci,.slice pc c.classes.length cc,.slice pt c.attrs.length ct,.slice pp mp cp] 140) = w2:=⟨_,rfl⟩
 have b2:Below W.heap.size W w2:=by rw [← hw2];exact ((Below.refl _ W).alloc (Nat.le_refl _) _).alloc (by simp) _
 have kn:Blk w2 W.heap.size 30 [.int .i64 n.parent,.string n.tag,.string n.id,.slice pn n.cls.length cn,.slice pa n.ats.length ca]:=by
  rw [← hw2]
  exact (Blk.new W 30 _).next ((Below.refl _ _).alloc (Nat.le_refl _) _)
 have kc:Blk w2 (W.heap.size + 1) 140 [.string c.tag,.slice pi c.ids.length ci,.slice pc c.classes.length cc,.slice pt c.attrs.length ct,.slice pp mp cp]:=by
  rw [← hw2]
  have:=Blk.new (W.alloc (.cells #[.int .i64 n.parent,.string n.tag,.string n.id,.slice pn n.cls.length cn,.slice pa n.ats.length ca] 30)) 140 [.string c.tag,.slice pi c.ids.length ci,.slice pc c.classes.length cc,.slice pt c.attrs.length ct,.slice pp mp cp]
  rwa [World.size_alloc] at this
 obtain ⟨⟨n0,n1,n2,n3,n4⟩,_⟩:=blk5 kn
 obtain ⟨⟨m0,m1,m2,m3,m4⟩,_⟩:=blk5 kc
 have HI:Hid (StrsR W.heap.size W (.slice pi c.ids.length ci) c.ids):=hi
 have HC:Hid (StrsR W.heap.size W (.slice pc c.classes.length cc) c.classes):=hc
 have HAA:Hid (AttrsAt W.heap.size W (.slice pt c.attrs.length ct) c.attrs):=ha
 have HCV:Hid (StrsAt W.heap.size W (.slice pn n.cls.length cn) n.cls):=hcv
 have HAV:Hid (PairsAt W.heap.size W (.slice pa n.ats.length ca) n.ats):=hav
 have KN:Hid _:=kn
 have KC:Hid _:=kc
 have HHT:Hid (∀ a,AtOk a → AttrK w₀ es a):=HAT
 have HQ:Hid (∃ q ∈ es,q.nd = n):=hq
 have HAO:Hid (∀ x ∈ c.attrs,AtOk x):=hao
 have hli:=hi.short
 have hlc:=hc.short
 have hla:=ha.short
 have HN:Hid (NdOk n):=hN
 unfold ndVal
 have ht1:=eqlEmpty c.tag
 clear hi hc ha hcv hav HAT hao hN kn kc hq
 have hne:∀ s:ByteArray,(s.toList != []) = !decide (s = ⟨#[]⟩):=fun s => by rw [bne,eqlEmpty]
 obtain ⟨R,hR⟩:∃ R,R = namedV n c:=⟨_,rfl⟩
 have HR:Hid (R = _):=hR
 rw [← hR]
 clear hR
 go_enter Tryz.func123,Tryz.ntmps123
 go_upto_region 1 with fail
 go_cut [20] (fun b wx => b = .bool (!(decide (c.tag = ⟨#[]⟩) || decide (c.tag = n.tag))) ∧ w2 = wx)
 case first =>
  by_cases h1:c.tag = ⟨#[]⟩
  ·have h1':(c.tag.toList == []) = true:=by rw [eqlEmpty];exact decide_eq_true h1
   have h2':(c.tag.toList != []) = false:=by rw [bne,h1'];rfl
   have FIN:Hid ((Value.bool false = .bool (!(decide (c.tag = ⟨#[]⟩) || decide (c.tag = n.tag))))):=by rw [decide_eq_true h1];rfl
   clear h1 hne ht1
   go_wp2
   go_meet
   exact ⟨FIN.out,rfl⟩
  ·have h1':(c.tag.toList == []) = false:=by rw [eqlEmpty];exact decide_eq_false h1
   have h2':(c.tag.toList != []) = true:=by rw [bne,h1'];rfl
   by_cases h3:c.tag = n.tag
   ·have h5:(c.tag.toList == n.tag.toList) = true:=by rw [h3];simp
    have h4:(c.tag.toList != n.tag.toList) = false:=by rw [bne,h5];rfl
    have FIN:Hid ((Value.bool false = .bool (!(decide (c.tag = ⟨#[]⟩) || decide (c.tag = n.tag))))):=by
     show _ = _
     rw [decide_eq_true h3]
     simp
    clear h1 h3 hne ht1
    go_wp2
    go_meet
    exact ⟨FIN.out,rfl⟩
   ·have h5:=beq_false h3
    have h4:(c.tag.toList != n.tag.toList) = true:=by rw [bne,h5];rfl
    have FIN:Hid ((Value.bool true = .bool (!(decide (c.tag = ⟨#[]⟩) || decide (c.tag = n.tag))))):=by rw [decide_eq_false h3,decide_eq_false h1];rfl
    clear h1 h3 hne ht1
    go_wp2
    go_meet
    exact ⟨FIN.out,rfl⟩
 case rest =>
  obtain ⟨rfl,rfl⟩:=hcut
  clear hw2
  cases hT:(decide (c.tag = ⟨#[]⟩) || decide (c.tag = n.tag)) with
  | false =>
   have FIN:Hid (false = R):=by
    show _ = _
    rw [show R = _ from HR.out]
    unfold namedV
    rw [hT]
    rfl
   clear hT hne ht1
   go_wp2
   go_ret
   exact ⟨by rw [← show false = _ from FIN.out];rfl,b2⟩
  | true =>
   have HV:Hid (namedV n c = (c.ids.all (fun i => decide (i ≠ ⟨#[]⟩) && decide (i = n.id)) && c.classes.all (fun k => n.cls.any (fun s => decide (s = k))) && c.attrs.all (attrV n))):=by
    show _ = _
    unfold namedV
    rw [hT,Bool.true_and]
   clear hT ht1
   go_wp2
   go_loopw [24] (fun y wr => ∃ i:Nat,y = .int .i64 i ∧ i ≤ c.ids.length ∧ (c.ids.take i).all (fun i => decide (i ≠ ⟨#[]⟩) && decide (i = n.id)) = true ∧ w2 = wr) (fun y _ => c.ids.length - (intOf y).toNat)
   case atStart => exact ⟨0,rfl,Nat.zero_le _,rfl,rfl⟩
   case round =>
    obtain ⟨i,rfl,hi,hall,rfl⟩:=hrel
    have HALL:Hid (_ = _):=hall
    clear hall
    by_cases hlt:i < c.ids.length
    ·obtain ⟨s,hs⟩:∃ s,c.ids[i]? = some s:=⟨_,List.getElem?_eq_getElem hlt⟩
     obtain ⟨bk,off,rfl,_,hcap,hmx,hcell⟩:=(HI.out.below b2).get hs
     have a0:=hcell 0 _ rfl
     simp only [Nat.mul_one,Nat.add_zero] at a0
     unfold maxLen at hmx
     have HS:Hid (_ = _):=hs
     have hii:(i:Int) < (c.ids.length:Int):=by omega
     clear hcell hs hne
     have BAD:Hid ((decide (s ≠ ⟨#[]⟩) && decide (s = n.id)) = false → false = R):=fun h => by
      rw [show R = _ from HR.out,show namedV n c = _ from HV.out,all_not HS.out h]
      rfl
     by_cases h1:s = ⟨#[]⟩
     ·have h1':(s.toList == []) = true:=by rw [eqlEmpty];exact decide_eq_true h1
      have FIN:Hid (false = R):=BAD.out (by rw [h1];simp)
      clear h1 BAD
      go_wp2
      go_ret
      exact ⟨by rw [← show false = _ from FIN.out];rfl,b2⟩
     ·have h1':(s.toList == []) = false:=by rw [eqlEmpty];exact decide_eq_false h1
      by_cases h3:s = n.id
      ·have h5:(s.toList == n.id.toList) = true:=by rw [h3];simp
       have h4:(s.toList != n.id.toList) = false:=by rw [bne,h5];rfl
       have FIN:Hid ((c.ids.take (i + 1)).all (fun i => decide (i ≠ ⟨#[]⟩) && decide (i = n.id)) = true):=all_take HALL.out HS.out (by rw [decide_eq_true h1,decide_eq_true h3];rfl)
       clear h1 BAD h3
       go_wp2
       exact ⟨⟨i + 1,by go_num,by omega,FIN.out,trivial⟩,by simp [intOf];omega⟩
      ·have h5:=beq_false h3
       have h4:(s.toList != n.id.toList) = true:=by rw [bne,h5];rfl
       have FIN:Hid (false = R):=BAD.out (by rw [decide_eq_false h3];simp)
       clear h1 BAD h3
       go_wp2
       go_ret
       exact ⟨by rw [← show false = _ from FIN.out];rfl,b2⟩
    ·have hii:¬ ((i:Int) < (c.ids.length:Int)):=by omega
     obtain rfl:i = c.ids.length:=by omega
     have HI1:Hid (c.ids.all (fun i => decide (i ≠ ⟨#[]⟩) && decide (i = n.id)) = true):=by
      have h:=HALL.out
      rw [List.take_length] at h
      exact h
     clear hne HALL
     go_wp2
     go_loopw [40] (fun y wr => ∃ i:Nat,y = .int .i64 i ∧ i ≤ c.classes.length ∧ (c.classes.take i).all (fun k => n.cls.any (fun s => decide (s = k))) = true ∧ w2 = wr) (fun y _ => c.classes.length - (intOf y).toNat)
     case atStart => exact ⟨0,rfl,Nat.zero_le _,rfl,rfl⟩
     case round =>
      obtain ⟨i,rfl,hi,hall,rfl⟩:=hrel
      have HALL:Hid (_ = _):=hall
      clear hall
      by_cases hlt:i < c.classes.length
      ·obtain ⟨s,hs⟩:∃ s,c.classes[i]? = some s:=⟨_,List.getElem?_eq_getElem hlt⟩
       obtain ⟨bk,off,rfl,_,hcap,hmx,hcell⟩:=(HC.out.below b2).get hs
       have a0:=hcell 0 _ rfl
       simp only [Nat.mul_one,Nat.add_zero] at a0
       unfold maxLen at hmx
       have HS:Hid (_ = _):=hs
       have hii:(i:Int) < (c.classes.length:Int):=by omega
       have hct:=containsStr_any (.slice pn n.cls.length cn) n.cls s w2 ((HCV.out.below b2).mono b2.size)
       clear hcell hs
       go_wp2_with fail
       refine hct.mono ?_
       clear hct
       rintro r w' ⟨rfl,rfl⟩
       cases hv:n.cls.any (fun s' => decide (s' = s)) with
       | true =>
        have FIN:Hid ((c.classes.take (i + 1)).all (fun k => n.cls.any (fun s => decide (s = k))) = true):=all_take HALL.out HS.out hv
        clear hv
        go_wp2
        go_roundw
        case rel => exact ⟨i + 1,rfl,by omega,FIN.out,by first | rfl | trivial⟩
        case measure => simp [intOf];omega
       | false =>
        have FIN:Hid (false = R):=by
         show _ = _
         rw [show R = _ from HR.out,show namedV n c = _ from HV.out,all_not HS.out hv]
         simp
        clear hv
        go_wp2
        go_ret
        exact ⟨by rw [← show false = _ from FIN.out];rfl,b2⟩
      ·have hii:¬ ((i:Int) < (c.classes.length:Int)):=by omega
       obtain rfl:i = c.classes.length:=by omega
       have HC1:Hid (c.classes.all (fun k => n.cls.any (fun s => decide (s = k))) = true):=by
        have h:=HALL.out
        rw [List.take_length] at h
        exact h
       clear HALL
       go_wp2
       go_loopw [53] (fun y wr => ∃ i:Nat,y = .int .i64 i ∧ i ≤ c.attrs.length ∧ (c.attrs.take i).all (attrV n) = true ∧ Below w2.heap.size w2 wr) (fun y _ => c.attrs.length - (intOf y).toNat)
       case atStart => exact ⟨0,rfl,Nat.zero_le _,rfl,Below.refl _ _⟩
       case round =>
        clear n0 n1 n2 n3 n4 m0 m1 m2 m3 m4
        obtain ⟨i,rfl,hi,hall,hbr⟩:=hrel
        have HALL:Hid (_ = _):=hall
        have bW:Below W.heap.size W wr:=below_next b2 hbr
        clear hall
        by_cases hlt:i < c.attrs.length
        ·obtain ⟨a,hs⟩:∃ a,c.attrs[i]? = some a:=⟨_,List.getElem?_eq_getElem hlt⟩
         obtain ⟨bk,off,rfl,_,hcap,hmx,hcell⟩:=(HAA.out.below bW).get hs
         have a0:=hcell 0 _ rfl
         have a1:=hcell 1 _ rfl
         have a2:=hcell 2 _ rfl
         simp only [Nat.add_zero] at a0
         unfold maxLen at hmx
         have HS:Hid (_ = _):=hs
         have hii:(i:Int) < (c.attrs.length:Int):=by omega
         obtain ⟨Y,hY⟩:∃ Y,wr.alloc (.cells #[.string a.name,.int .i64 a.op,.string a.text] 157) = Y:=⟨_,rfl⟩
         have bY:Below wr.heap.size wr Y:=by rw [← hY];exact (Below.refl _ _).alloc (Nat.le_refl _) _
         have kY:Blk Y wr.heap.size 157 [.string a.name,.int .i64 a.op,.string a.text]:=by rw [← hY];exact Blk.new wr 157 _
         obtain ⟨⟨y0,y1,y2⟩,_⟩:=blk3 kY
         have bWY:=below_next bW bY
         obtain ⟨⟨n0,n1,n2,n3,n4⟩,_⟩:=blk5 (((show Blk w2 W.heap.size 30 _ from KN.out).next hbr).next bY)
         have hha:=HHT.out a (HAO.out a (List.mem_of_getElem? hs)) n (.slice pn n.cls.length cn) (.slice pa n.ats.length ca) Y HQ.out (below_next b0 bWY) HN.out ((HCV.out.below bWY).mono bWY.size) ((HAV.out.below bWY).mono bWY.size)
         unfold ndVal at hha
         have bwY:Below w2.heap.size w2 Y:=below_next hbr bY
         clear hcell hs
         go_wp2_with fail
         refine hha.mono ?_
         clear hha
         rintro r Z ⟨rfl,bz⟩
         have bZ:Below w2.heap.size w2 Z:=below_next bwY bz
         have bWZ:Below W.heap.size W Z:=below_next b2 bZ
         clear y0 y1 y2 n0 n1 n2 n3 n4 a0 a1 a2 hY bY bwY bWY
         cases hv:attrV n a with
         | true =>
          have FIN:Hid ((c.attrs.take (i + 1)).all (attrV n) = true):=all_take HALL.out HS.out hv
          clear hv
          go_wp2
          go_roundw
          case rel => exact ⟨i + 1,rfl,by omega,FIN.out,bZ⟩
          case measure => simp [intOf];omega
         | false =>
          have FIN:Hid (false = R):=by
           show _ = _
           rw [show R = _ from HR.out,show namedV n c = _ from HV.out,all_not HS.out hv]
           simp
          clear hv
          go_wp2
          go_ret
          exact ⟨by rw [← show false = _ from FIN.out];rfl,bWZ⟩
        ·have hii:¬ ((i:Int) < (c.attrs.length:Int)):=by omega
         obtain rfl:i = c.attrs.length:=by omega
         have FIN:Hid (true = R):=by
          have h:=HALL.out
          rw [List.take_length] at h
          show _ = _
          rw [show R = _ from HR.out,show namedV n c = _ from HV.out,show c.ids.all _ = true from HI1.out,show c.classes.all _ = true from HC1.out,h]
          rfl
         go_wp2
         go_ret
         exact ⟨by rw [← show true = _ from FIN.out];rfl,bW⟩
end Go.Proofs.YtcmmdojlhfmddaaGreat.Mt

/- package match: which of a node's attributes has a name. -/
set_option maxRecDepth 100000
namespace Go.Proofs.YtcmmdojlhfmddaaGreat.Mt
open Go.Proofs.YtcmmdojlhfmddaaGreat.Tre
open Go Go.RowKit Dm
set_option maxHeartbeats 1000000 in
theorem attr1_any (nm tx:ByteArray) (a:At) (w:World) (Ba:Nat) (ka:Blk w Ba 157 (atCells a)) :
  Calls Tryz.prog 139 #[.agg #[.string nm,.string tx],.pointer (some ⟨Ba,0,none⟩)] w fun r w' => r = .returned (.bool (decide (nm = a.name))) ∧ Below w.heap.size w w':=by
 obtain ⟨w1,hw1⟩:∃ w1,w.alloc (.cells #[.string nm,.string tx] 114) = w1:=⟨_,rfl⟩
 have b1:Below w.heap.size w w1:=by rw [← hw1];exact (Below.refl _ _).alloc (Nat.le_refl _) _
 have k1:Blk w1 w.heap.size 114 [.string nm,.string tx]:=by rw [← hw1];exact Blk.new w 114 [.string nm,.string tx]
 obtain ⟨⟨y0,_⟩,_⟩:=blk2 k1
 have z0:w1.cell? ⟨Ba,0,none⟩ = some (.string a.name):=by
  have k:=ka.next b1
  simp [World.cell?,show w1.heap[Ba]? = _ from k,atCells]
 clear k1 ka
 by_cases he:nm = a.name
 ·rw [decide_eq_true he]
  rw [← he] at z0
  clear he
  go_enter Tryz.func139,Tryz.ntmps139
  go_wp2
  go_ret
  exact ⟨rfl,b1⟩
 ·have he':(nm.toList == a.name.toList) = false:=beq_false he
  rw [decide_eq_false he]
  clear he
  go_enter Tryz.func139,Tryz.ntmps139
  go_wp2
  go_ret
  exact ⟨rfl,b1⟩
def PairK (l:List (ByteArray × ByteArray)) (a:At) (r:Ending):Prop:=
 (∃ (i:Nat) (p:ByteArray × ByteArray),r = .returned (.int .i64 i) ∧ l[i]? = some p ∧ l.find? (fun p => decide (p.1 = a.name)) = some p) ∨ (r = .returned (.int .i64 (-1)) ∧ l.find? (fun p => decide (p.1 = a.name)) = none)
set_option maxHeartbeats 2000000 in
theorem indexPair_any (v:Value) (l:List (ByteArray × ByteArray)) (a:At) (w:World) (hv:PairsAt w.heap.size w v l) (Ba:Nat) (ka:Blk w Ba 157 (atCells a)) :
  Calls Tryz.prog 138 #[v,.func (.func 139) #[] #[.pointer (some ⟨Ba,0,none⟩)]] w fun r w' =>
   PairK l a r ∧ Below w.heap.size w w':=by
 have hl:=hv.short
 obtain ⟨p,cap,rfl⟩:=hv.len
 have HV:Hid (PairsAt w.heap.size w (.slice p l.length cap) l):=hv
 have KA:Hid (Blk w Ba 157 (atCells a)):=ka
 clear hv ka
 go_enter Tryz.func138,Tryz.ntmps138
 go_wp2
 go_loopw [8] (fun y wr => ∃ i:Nat,y = .int .i64 i ∧ i ≤ l.length ∧ (l.take i).find? (fun p => decide (p.1 = a.name)) = none ∧ Below w.heap.size w wr) (fun y _ => l.length - (intOf y).toNat)
 case atStart => exact ⟨0,rfl,Nat.zero_le _,rfl,Below.refl _ _⟩
 case round =>
  obtain ⟨i,rfl,hi,hno,bw⟩:=hrel
  have HNO:Hid (_ = _):=hno
  clear hno
  by_cases hlt:i < l.length
  ·obtain ⟨s,hs⟩:∃ s,l[i]? = some s:=⟨_,List.getElem?_eq_getElem hlt⟩
   obtain ⟨bk,off,rfl,hbk,hcap,hmx,ha⟩:=(HV.out.below bw).get hs
   have a0:=ha 0 _ rfl
   have a1:=ha 1 _ rfl
   simp only [Nat.add_zero] at a0
   unfold maxLen at hmx
   have h:=attr1_any s.1 s.2 a wr Ba (KA.out.next bw)
   have HS:Hid (_ = _):=hs
   have hii:(i:Int) < (l.length:Int):=by omega
   clear ha hs
   go_wp2_with fail
   refine h.mono ?_
   clear h a0 a1
   rintro r x ⟨rfl,b2⟩
   have b3:=below_next bw b2
   clear b2
   have htk:(l.take (i + 1)).find? (fun p => decide (p.1 = a.name)) = if decide (s.1 = a.name) then some s else none:=by
    rw [List.take_add_one,show l[i]? = some s from HS.out,List.find?_append,show (l.take i).find? _ = none from HNO.out]
    simp [List.find?_cons]
    split <;> simp_all
   cases hd:decide (s.1 = a.name) with
   | true =>
    have FIN:Hid (l.find? (fun p => decide (p.1 = a.name)) = some s):=by
     show _ = _
     rw [← List.take_append_drop (i + 1) l,List.find?_append,htk,hd]
     rfl
    clear hd htk
    go_wp2
    go_ret
    exact ⟨.inl ⟨i,s,rfl,HS.out,FIN.out⟩,b3⟩
   | false =>
    have FIN:Hid ((l.take (i + 1)).find? (fun p => decide (p.1 = a.name)) = none):=by
     show _ = _
     rw [htk,hd]
     rfl
    clear hd htk
    go_wp2
    exact ⟨⟨i + 1,by go_num,by omega,FIN.out,b3⟩,by simp [intOf];omega⟩
  ·have hii:¬ ((i:Int) < (l.length:Int)):=by omega
   obtain rfl:i = l.length:=by omega
   have FIN:Hid (l.find? (fun p => decide (p.1 = a.name)) = none):=by
    have h:=HNO.out
    rw [List.take_length] at h
    exact h
   go_wp2
   go_ret
   exact ⟨.inr ⟨rfl,FIN.out⟩,bw⟩
end Go.Proofs.YtcmmdojlhfmddaaGreat.Mt
