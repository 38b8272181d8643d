/- The laws of stage 10: their own alive and trees. -/
import Derived.Test.YtnemagmakgiheaaGreatMtGh
import Derived.Test.YtnemagmakgiheaaGreatDmGb
import Derived.Test.YtnemagmakgiheaaGreatMtGw
import Derived.Test.YtnemagmakgiheaaGreatRfGe
set_option maxRecDepth 100000
namespace Go.Proofs.YtnemagmakgiheaaGreat.Mt
open Go.Proofs.YtnemagmakgiheaaGreat.Tre
open Go Go.RowKit Dm
theorem low_ok {n:Nd} (h:NdOk n):NdOk (lowN n):=by
 refine ⟨by show (lowS n.tag).size ≤ _;rw [lowS_size];exact h.tag,h.id,h.cls,fun a ha => ?_,h.ncls,by show (n.ats.map lowA).length * 32 ≤ _;rw [List.length_map];exact h.nats⟩
 obtain ⟨b,hb,rfl⟩:=List.mem_map.1 (show a ∈ n.ats.map lowA from ha)
 have:=h.ats b hb
 exact ⟨by show (lowS b.1).size ≤ _;rw [lowS_size];exact this.1,this.2⟩
theorem addV_nds {es es':List El} {n:Nd} (h:addV es n = .ok es') (he:∀ e ∈ es,NdOk e.nd) (hn:NdOk n):∀ e ∈ es',NdOk e.nd:=by
 unfold addV at h
 split at h
 ·split at h
  ·cases h
   intro e hm
   obtain rfl:=List.mem_singleton.1 hm
   exact low_ok hn
  ·cases h
 ·split at h
  ·rename_i hp
   split at h
   ·cases h
   ·cases h
    intro e hm
    rcases List.mem_append.1 hm with hm | hm
    ·unfold growV at hm
     rcases List.mem_or_eq_of_mem_set hm with hm | rfl
     ·exact he e hm
     ·show NdOk (es.getD n.parent.toNat zeroEl).nd
      have hlt:n.parent.toNat < es.length:=by omega
      rw [show es.getD n.parent.toNat zeroEl = es[n.parent.toNat] by simp [List.getD,hlt]]
      exact he _ (List.getElem_mem hlt)
    ·obtain rfl:=List.mem_singleton.1 hm
     exact low_ok hn
  ·cases h
theorem newF_nds:∀ (l:List Nd) (es es':List El),newF es l = .ok es' → (∀ e ∈ es,NdOk e.nd) → (∀ n ∈ l,NdOk n) → ∀ e ∈ es',NdOk e.nd
 | [],es,es',h,he,_ => by cases h;exact he
 | n :: l,es,es',h,he,hl => by
  unfold newF at h
  cases ha:addV es n with
  | error x => rw [ha] at h;cases h
  | ok e2 =>
   rw [ha] at h
   exact newF_nds l e2 es' h (addV_nds ha he (hl n (List.mem_cons_self ..))) (fun m hm => hl m (List.mem_cons_of_mem _ hm))
theorem newV_nds {l:List Nd} {es:List El} (h:newV l = .ok es) (hl:∀ n ∈ l,NdOk n):∀ e ∈ es,NdOk e.nd:=by
 unfold newV at h
 split at h
 ·cases h
 ·exact newF_nds l [] es h (fun _ h => by cases h) hl
structure Good (W:World) (tb:Nat) (es:List El):Prop where
 tr:∃ b g cap qs,Tr b W tb g cap qs ∧ qs.map Em.e = es
 ok:TreeOk es
 len:es.length ≤ 4096
 nds:∀ e ∈ es,NdOk e.nd
 ats:∀ a,AtOk a → AttrK W es a
theorem Good.next {W X:World} {tb:Nat} {es:List El} (h:Good W tb es) (hb:Below W.heap.size W X):Good X tb es:=by
 obtain ⟨⟨b,g,cap,qs,hT,e⟩,h1,h2,h3,h4⟩:=h
 exact ⟨⟨b,g,cap,qs,hT.next hb,e⟩,h1,h2,h3,fun a ha => (h4 a ha).next hb⟩
theorem Good.sel {W:World} {tb:Nat} {es:List El} (h:Good W tb es) (e:Int) (d:Nat) (v:Value) (s:Sel) (hP:PartsAt d W.heap.size W v s) :
  Calls Tryz.prog 14 #[.pointer (some ⟨tb,0,none⟩),.int .i64 e,.agg #[v]] W fun r w' => r = .returned (.bool (selectorV es e s)) ∧ Below W.heap.size W w':=by
 obtain ⟨⟨b,g,cap,qs,hT,rfl⟩,h1,h2,h3,h4⟩:=h
 exact selector_any qs W h4 b tb g cap hT h1 (by simpa using h2) (fun q hq => h3 _ (List.mem_map_of_mem hq)) e d v s hP
theorem Good.given {W:World} {tb:Nat} {es:List El} (h:Good W tb es) (e:Int) (d:Nat) (v:Value) (l:List Sel) (hS:SelsAt d W.heap.size W v l) :
  Calls Tryz.prog 12 #[.pointer (some ⟨tb,0,none⟩),.int .i64 e,v] W fun r w' => r = .returned (.bool (givenV es e l)) ∧ Below W.heap.size W w':=by
 obtain ⟨⟨b,g,cap,qs,hT,rfl⟩,h1,h2,h3,h4⟩:=h
 exact given_any qs W h4 b tb g cap hT h1 (by simpa using h2) (fun q hq => h3 _ (List.mem_map_of_mem hq)) e d v l hS
theorem Good.cmp {W:World} {tb:Nat} {es:List El} (h:Good W tb es) (e:Int) (d:Nat) (c:Cp) (vi vc va vp:Value) (hc:CpT (SelsAt d W.heap.size W) W.heap.size W [.string c.tag,vi,vc,va,vp] c) :
  Calls Tryz.prog 17 #[.pointer (some ⟨tb,0,none⟩),.int .i64 e,.agg #[.string c.tag,vi,vc,va,vp]] W fun r w' => r = .returned (.bool (compoundV es e c)) ∧ Below W.heap.size W w':=by
 obtain ⟨⟨b,g,cap,qs,hT,rfl⟩,h1,h2,h3,h4⟩:=h
 exact compound_any qs W h4 b tb g cap hT h1 (by simpa using h2) (fun q hq => h3 _ (List.mem_map_of_mem hq)) e d c vi vc va vp hc
theorem short_small {n:Nd} (h:SmallN n):ShortN n:=fun p hp => by
 have:=(h.2.2.2.2.2 p hp).2
 omega
theorem short_low {n:Nd} (h:ShortN n):ShortN (lowN n):=fun p hp => by
 obtain ⟨a,ha,rfl⟩:=List.mem_map.1 (show p ∈ n.ats.map lowA from hp)
 exact h a ha
theorem good_new {b tb g cap:Nat} {W:World} {qs:List Em} {l:List Nv} (hV:newV (l.map Nv.nd) = .ok (qs.map Em.e)) (hT:Tr b W tb g cap qs) (hN:∀ n ∈ l,NdOk n.nd) (hM:ML W) (hS:∀ n ∈ l,ShortN n.nd):Good W tb (qs.map Em.e) ∧ (qs.map Em.e).length = l.length:=by
 obtain ⟨hO,hel,hl4⟩:=newV_ok hV
 have hel':(qs.map Em.e).length = l.length:=hel.trans (List.length_map ..)
 have hl5:l.length ≤ 4096:=by rw [List.length_map] at hl4;exact hl4
 exact ⟨⟨⟨b,g,cap,qs,hT,rfl⟩,hO,by rw [hel'];exact hl5,newV_nds hV (fun n hn => by obtain ⟨m,hm,rfl⟩:=List.mem_map.1 hn;exact hN m hm),attrs_ok hM (fun e he => by
  obtain ⟨n,hn,e'⟩:=Rf.newV_nds hV e he
  obtain ⟨m,hm,rfl⟩:=List.mem_map.1 hn
  rw [e']
  exact short_low (hS m hm))⟩,hel'⟩
/-! ### alive -/
def four:List Nv:=[bare (-1),bare 0,bare 0,bare 0]
def fourE:List El:=[⟨lowN (bare (-1)).nd,0,1,[1,2,3]⟩,⟨lowN (bare 0).nd,1,1,[]⟩,⟨lowN (bare 0).nd,1,2,[]⟩,⟨lowN (bare 0).nd,1,3,[]⟩]
theorem four_new:newV (four.map Nv.nd) = .ok fourE:=by rfl
def oddS:Sel:=[(0,psCp (.mk 6 2 1 []))]
theorem odd1:selectorV fourE 1 oddS = true:=by decide +kernel
theorem odd2:selectorV fourE 2 oddS = false:=by decide +kernel
theorem odd3:selectorV fourE 3 oddS = true:=by decide +kernel
set_option maxHeartbeats 4000000 in
theorem alive_any (w:World) (hM:ML w):Calls Tryz.prog 8 #[] w fun e w' => e = .returned (.bool true) ∧ Below w.heap.size w w':=by
 obtain ⟨W1,hW1⟩:∃ W1,w.alloc (.cells #[.int .i64 (-1),.string ⟨#[]⟩,.string ⟨#[]⟩,.slice none 0 0,.slice none 0 0,.int .i64 0,.string ⟨#[]⟩,.string ⟨#[]⟩,.slice none 0 0,.slice none 0 0,.int .i64 0,.string ⟨#[]⟩,.string ⟨#[]⟩,.slice none 0 0,.slice none 0 0,.int .i64 0,.string ⟨#[]⟩,.string ⟨#[]⟩,.slice none 0 0,.slice none 0 0] 77) = W1:=⟨_,rfl⟩
 have b1:Below w.heap.size w W1:=by rw [← hW1];exact (Below.refl _ _).alloc (Nat.le_refl _) _
 have k1:Blk W1 w.heap.size 77 (four.flatMap nvCells):=by rw [← hW1];exact Blk.new w 77 (four.flatMap nvCells)
 have hn:=new_any _ four W1 (nodes_new k1 (by decide) (fun n h => by
  simp only [four,List.mem_cons,List.not_mem_nil,or_false] at h
  rcases h with rfl | rfl | rfl | rfl <;> exact strs_nil _ _) (fun n h => by
  simp only [four,List.mem_cons,List.not_mem_nil,or_false] at h
  rcases h with rfl | rfl | rfl | rfl <;> exact pairs_nil _ _)) (fun n h => by
  simp only [four,List.mem_cons,List.not_mem_nil,or_false] at h
  rcases h with rfl | rfl | rfl | rfl <;> exact bare_ok _)
 rw [show four.length = 4 from rfl] at hn
 have HM:Hid (ML w):=hM
 clear k1 hM
 go_enter Tryz.func8,Tryz.ntmps8
 go_wp2_with fail
 refine hn.mono ?_
 clear hn
 rintro e w2 ⟨hm,b2⟩
 have b12:=below_next b1 b2
 unfold Made at hm
 rcases hm with ⟨tb,g,cap,qs,hV,rfl,hT⟩ | ⟨x,hV,_⟩
 ·have hV':qs.map Em.e = fourE:=by have h:=four_new;rw [hV] at h;exact Except.ok.inj h
  have hG:=(good_new hV hT (fun n h => by
   simp only [four,List.mem_cons,List.not_mem_nil,or_false] at h
   rcases h with rfl | rfl | rfl | rfl <;> exact bare_ok _) (HM.out.next b12) (fun n h p hp => by
   simp only [four,List.mem_cons,List.not_mem_nil,or_false] at h
   rcases h with rfl | rfl | rfl | rfl <;> cases hp)).1
  rw [hV'] at hG
  clear hV hV' hT hW1 b1 b2
  obtain ⟨P,hP⟩:∃ P,w2.alloc (.cells #[.int .i64 6,.int .i64 2,.int .i64 1,.slice none 0 0] 40) = P:=⟨_,rfl⟩
  have bP:Below w2.heap.size w2 P:=by rw [← hP];exact (Below.refl _ _).alloc (Nat.le_refl _) _
  have kP:Blk P w2.heap.size 40 (psCells (.mk 6 2 1 []) (.slice none 0 0)):=by rw [← hP];exact Blk.new w2 40 (psCells (.mk 6 2 1 []) (.slice none 0 0))
  obtain ⟨Q,hQ⟩:∃ Q,P.alloc (.cells #[.int .i64 0,.string ⟨#[]⟩,.slice none 0 0,.slice none 0 0,.slice none 0 0,.slice (some ⟨w2.heap.size,0,none⟩) 1 1] 48) = Q:=⟨_,rfl⟩
  have bQ:Below P.heap.size P Q:=by rw [← hQ];exact (Below.refl _ _).alloc (Nat.le_refl _) _
  have kQ:Blk Q P.heap.size 48 [.int .i64 0,.string ⟨#[]⟩,.slice none 0 0,.slice none 0 0,.slice none 0 0,.slice (some ⟨w2.heap.size,0,none⟩) 1 1]:=by rw [← hQ];exact Blk.new P 48 [.int .i64 0,.string ⟨#[]⟩,.slice none 0 0,.slice none 0 0,.slice none 0 0,.slice (some ⟨w2.heap.size,0,none⟩) 1 1]
  have hps:P.heap.size = w2.heap.size + 1:=by rw [← hP,World.size_alloc]
  obtain ⟨R,hR⟩:∃ R,Q.alloc (.cells #[.slice (some ⟨P.heap.size,0,none⟩) 1 1] 36) = R:=⟨_,rfl⟩
  have bR:Below Q.heap.size Q R:=by rw [← hR];exact (Below.refl _ _).alloc (Nat.le_refl _) _
  have kR:Blk R Q.heap.size 36 [.slice (some ⟨P.heap.size,0,none⟩) 1 1]:=by rw [← hR];exact Blk.new Q 36 _
  have hSel:PartsAt 0 Q.heap.size Q (.slice (some ⟨P.heap.size,0,none⟩) 1 1) oddS:=parts_one kQ (cp_ps (kP.next bQ) ⟨rfl,_,_,rfl⟩ ⟨by decide,by decide⟩ ⟨by decide,by decide⟩ ⟨by decide,by decide⟩ (Nat.zero_le _)) ⟨by decide,by decide⟩
  have bAll:Below w2.heap.size w2 R:=below_next (below_next bP bQ) bR
  have hSR:=hSel.next bR
  have hGR:=hG.next bAll
  have bb:=below_next b12 bAll
  have q1:=hGR.sel 1 0 _ _ hSR
  rw [odd1] at q1
  have HG:Hid (Good R tb fourE):=hGR
  have HS:Hid (PartsAt 0 R.heap.size R (.slice (some ⟨P.heap.size,0,none⟩) 1 1) oddS):=hSR
  have c1:=(blk1 kR).1
  have HK:Hid (Blk R Q.heap.size 36 [.slice (some ⟨P.heap.size,0,none⟩) 1 1]):=kR
  clear hG hGR hSR hSel kP kQ kR bP bQ bR bAll b12 hps
  go_wp2_with fail
  refine q1.mono ?_
  clear q1 c1
  rintro r x1 ⟨rfl,a1⟩
  have c2:=(blk1 (HK.out.next a1)).1
  have q2:=(HG.out.next a1).sel 2 0 _ _ (HS.out.next a1)
  rw [odd2] at q2
  go_wp2_with fail
  refine q2.mono ?_
  clear q2 c2
  rintro r x2 ⟨rfl,a2⟩
  have a12:=below_next a1 a2
  have c3:=(blk1 (HK.out.next a12)).1
  have q3:=(HG.out.next a12).sel 3 0 _ _ (HS.out.next a12)
  rw [odd3] at q3
  go_wp2_with fail
  refine q3.mono ?_
  clear q3 c3
  rintro r x3 ⟨rfl,a3⟩
  have b9:=below_next (below_next bb a12) a3
  go_wp2
  go_ret
  exact ⟨rfl,b9⟩
 ·rw [four_new] at hV;cases hV
/-! ### trees -/
def Trees (l:List Nv) (e:Ending) (w':World):Prop:=
 e = .returned (.tuple #[.pointer none,.pointer none,.bool false]) ∨
 ∃ tb rb b nv dv ns ds es,e = .returned (.tuple #[.pointer (some ⟨tb,0,none⟩),.pointer (some ⟨rb,0,none⟩),.bool true]) ∧ Good w' tb es ∧ RTr b w' rb nv dv ns ds ∧ Tells es ns ds ∧ es.length = l.length ∧ l.length ≤ 40 ∧ newV (l.map Nv.nd) = .ok es ∧ ∀ n ∈ l,SmallN n.nd
set_option maxHeartbeats 4000000 in
theorem trees_any (v:Value) (l:List Nv) (w:World) (hM:ML w) (hv:NodesAt w.heap.size w v l) (hN:∀ n ∈ l,NdOk n.nd) :
  Calls Tryz.prog 9 #[v] w fun e w' => Trees l e w' ∧ Below w.heap.size w w':=by
 obtain ⟨p,cap,rfl⟩:=hv.row.len
 have h1:=big_small _ l w hv
 have HM:Hid (ML w):=hM
 have HV:Hid (NodesAt w.heap.size w (.slice p l.length cap) l):=hv
 have HN:Hid (∀ n ∈ l,NdOk n.nd):=hN
 clear hv hN hM
 go_enter Tryz.func9,Tryz.ntmps9
 go_wp2_with fail
 refine h1.mono ?_
 clear h1
 rintro e w1 ⟨big,rfl,rfl,hbig⟩
 have h2:=refNew_any _ l w1 HV.out HN.out
 go_wp2_with fail
 refine h2.mono ?_
 clear h2
 rintro e w2 ⟨hm,b2⟩
 have HB:Hid (big = false → (l.length ≤ 40 ∧ ∀ n ∈ l,SmallN n.nd) ∨ 4096 < l.length):=hbig
 clear hbig
 unfold RMade at hm
 rcases hm with ⟨rb,nv,dv,ns,ds,es,hV,rfl,hR,hE⟩ | ⟨x,hV,rfl⟩
 ·cases big with
  | true =>
   clear hV hR hE
   go_wp2
   go_ret3
   exact ⟨.inl rfl,b2⟩
  | false =>
   have h3:=new_any _ l w2 (HV.out.next b2) HN.out
   have HVV:Hid (_ = _):=hV
   have HR:Hid (RTr w1.heap.size w2 rb nv dv ns ds):=hR
   have HE:Hid (Tells es ns ds):=hE
   clear hV hR hE
   go_wp2_with fail
   refine h3.mono ?_
   clear h3
   rintro e w3 ⟨hm,b3⟩
   have b23:=below_next b2 b3
   unfold Made at hm
   rcases hm with ⟨tb,g,cap2,qs,hV2,rfl,hT⟩ | ⟨x,hV2,_⟩
   ·have heq:qs.map Em.e = es:=by have h:=show newV _ = _ from HVV.out;rw [hV2] at h;exact Except.ok.inj h
    obtain ⟨h40,hsm⟩:l.length ≤ 40 ∧ ∀ n ∈ l,SmallN n.nd:=by
     rcases HB.out trivial with h | h
     ·exact h
     ·have:=(newV_ok hV2).2.2
      rw [List.length_map] at this
      omega
    obtain ⟨hG,hle⟩:=good_new hV2 hT HN.out (HM.out.next b23) (fun n hn => short_small (hsm n hn))
    rw [heq] at hG hle
    have FIN:Hid (Good w3 tb es ∧ RTr w1.heap.size w3 rb nv dv ns ds ∧ Tells es ns ds ∧ es.length = l.length ∧ l.length ≤ 40 ∧ newV (l.map Nv.nd) = .ok es ∧ ∀ n ∈ l,SmallN n.nd):=⟨hG,HR.out.next b3,HE.out,hle,h40,HVV.out,hsm⟩
    clear hV2 hT heq hG hle h40 hsm b2 b3
    go_wp2
    go_ret3
    exact ⟨.inr ⟨tb,rb,_,nv,dv,ns,ds,es,rfl,FIN.out⟩,b23⟩
   ·have h:=show newV _ = _ from HVV.out
    rw [hV2] at h
    cases h
 ·have hx0:(x != 0) = true:=by
   rcases newV_err hV with rfl | rfl | rfl <;> rfl
  clear hV
  cases big with
  | true =>
   go_wp2
   go_ret3
   exact ⟨.inl rfl,b2⟩
  | false =>
   go_wp2
   go_ret3
   exact ⟨.inl rfl,b2⟩
end Go.Proofs.YtnemagmakgiheaaGreat.Mt
