/- package match: isPseudo, isCompound. -/
import Derived.Test.YtnemagmakgiheaaGreatMtGd
import Derived.Test.YtnemagmakgiheaaGreatMtGc
import Derived.Test.YtnemagmakgiheaaGreatMtGg
import Derived.Test.YtnemagmakgiheaaGreatMtGf
import Derived.Test.YtnemagmakgiheaaGreatDmGd
set_option maxRecDepth 100000
namespace Go.Proofs.YtnemagmakgiheaaGreat.Mt
open Go.Proofs.YtnemagmakgiheaaGreat.Tre
open Go Go.RowKit Dm
def Deeper (E:Env) (f:Nat):Prop:=∀ f',f = f' + 1 → IsK E f'
set_option maxHeartbeats 4000000 in
theorem isPseudo_any (E:Env) (hE:EnvOk E) (f:Nat) (HI:Deeper E f) (γ:Ghost) (W:World) (hI:Inv E γ W) (A k j:Nat) (s:Sel) (pv:Value) (p:Pt) (q:Ps) (hA:γ A = some (.asked s pv f)) (hp:s[k]? = some p) (hq:p.2.pss[j]? = some q) (hj:j < 1099511627776) (hql:q.list.length ≤ 8796093022208) (hqa:i64 q.a ∧ i64 q.b)
  (d:Nat) (pl:Option Addr) (cl:Nat) (hS:SelsAt d E.n₀ E.w₀ (.slice pl q.list.length cl) q.list) (e:Nat) (he:e < E.qs.length) :
  Calls Tryz.prog 124 #[.pointer (some ⟨A,0,none⟩),.agg #[.int .i64 k,.int .i64 j],.agg #[.int .i64 q.kind,.int .i64 q.a,.int .i64 q.b,.slice pl q.list.length cl],.int .i64 e] W fun r W' => r = .returned (.bool (pseudoV (anyV E.es f) E.es q e)) ∧ ∃ γ',Step E γ W γ' W':=by
 obtain ⟨w2,hw2⟩:∃ w2,(W.alloc (.cells #[.int .i64 k,.int .i64 j] 179)).alloc (.cells #[.int .i64 q.kind,.int .i64 q.a,.int .i64 q.b,.slice pl q.list.length cl] 40) = w2:=⟨_,rfl⟩
 have b2:Below W.heap.size W w2:=by rw [← hw2];exact ((Below.refl _ W).alloc (Nat.le_refl _) _).alloc (by simp) _
 have st2:=hI.step b2
 have sp2:Blk w2 W.heap.size 179 [.int .i64 k,.int .i64 j]:=by rw [← hw2];exact blk_alloc (Blk.new W 179 _) _
 have kp2:Blk w2 (W.heap.size + 1) 40 [.int .i64 q.kind,.int .i64 q.a,.int .i64 q.b,.slice pl q.list.length cl]:=by
  rw [← hw2]
  have:=Blk.new (W.alloc (.cells #[.int .i64 k,.int .i64 j] 179)) 40 [.int .i64 q.kind,.int .i64 q.a,.int .i64 q.b,.slice pl q.list.length cl]
  rwa [World.size_alloc] at this
 obtain ⟨⟨d0,d1⟩,_⟩:=blk2 sp2
 obtain ⟨⟨x0,x1,x2,x3⟩,_⟩:=blk4 kp2
 obtain ⟨_,hfit,fv,lv,kA,_,_⟩:=st2.inv.asked hA
 have ST2:Hid (Step E γ W γ w2):=st2
 obtain ⟨R,hR⟩:∃ R,R = pseudoV (anyV E.es f) E.es q e:=⟨_,rfl⟩
 rw [← hR]
 unfold pseudoV at hR
 by_cases h7:q.kind = 7
 ·rw [if_pos h7] at hR
  have hls:listed q = true:=by unfold listed;rw [decide_eq_true h7];rfl
  obtain ⟨f',rfl,_⟩:=fits_list hfit hp hq hls
  have hi:=isAny_any E hE f' (HI f' rfl) γ w2 st2.inv A k j s pv p q hA hp hq hls hj hql d pl cl hS e he
  rw [h7] at x0 hw2
  have HR:Hid (_ = _):=hR
  clear hR hI hE HI hA hS st2 sp2 kp2 kA hls hfit
  rw [h7]
  clear h7
  go_enter Tryz.func124,Tryz.ntmps124
  go_wp2_with fail
  refine hi.mono ?_
  clear hi
  rintro r W' ⟨rfl,γ',st⟩
  have HS2:Hid (Step E γ W γ' W'):=ST2.out.trans st
  clear st
  go_wp2
  go_ret
  exact ⟨by rw [show R = _ from HR.out];rfl,γ',HS2.out⟩
 ·rw [if_neg h7] at hR
  have e7:(q.kind == 7) = false:=by simpa using h7
  by_cases h8:q.kind = 8
  ·rw [if_pos h8] at hR
   have hls:listed q = true:=by unfold listed;rw [decide_eq_true h8];simp
   obtain ⟨f',rfl,_⟩:=fits_list hfit hp hq hls
   have hi:=isAny_any E hE f' (HI f' rfl) γ w2 st2.inv A k j s pv p q hA hp hq hls hj hql d pl cl hS e he
   rw [h8] at x0 hw2
   have HR:Hid (_ = _):=hR
   clear hR hI hE HI hA hS st2 sp2 kp2 kA hls hfit h7 e7
   rw [h8]
   clear h8
   go_enter Tryz.func124,Tryz.ntmps124
   go_wp2_with fail
   refine hi.mono ?_
   clear hi
   rintro r W' ⟨rfl,γ',st⟩
   have HS2:Hid (Step E γ W γ' W'):=ST2.out.trans st
   clear st
   go_wp2
   go_ret
   exact ⟨by rw [show R = _ from HR.out];rfl,γ',HS2.out⟩
  ·rw [if_neg h8] at hR
   have e8:(q.kind == 8) = false:=by simpa using h8
   have q0:Below w2.heap.size w2 w2.drew:=below_drew (Below.refl _ _)
   have st3:=st2.trans (st2.inv.step q0)
   have hi:=isPlaced_any E hE w2.drew (st3.inv.tree hE) e q pl q.list.length cl hqa
   rw [← hR] at hi
   have HS:Hid (∀ X:World,Below w2.heap.size w2 X → X.cell? ⟨A,0,none⟩ = some (.pointer (some ⟨E.tb,0,none⟩)) ∧ X.cell? ⟨W.heap.size + 1,0,none⟩ = some (.int .i64 q.kind) ∧ X.cell? ⟨W.heap.size + 1,1,none⟩ = some (.int .i64 q.a) ∧ X.cell? ⟨W.heap.size + 1,2,none⟩ = some (.int .i64 q.b) ∧ X.cell? ⟨W.heap.size + 1,3,none⟩ = some (.slice pl q.list.length cl)):=fun X hX => by
    obtain ⟨⟨y0,y1,y2,y3⟩,_⟩:=blk4 (kp2.next hX)
    exact ⟨(blk4 (kA.next hX)).1.1,y0,y1,y2,y3⟩
   have HST:Hid (Step E γ W γ w2.drew):=st3
   clear hR hI hE HI hA hS st2 sp2 kp2 kA hfit h7 h8 st3 ST2
   go_enter Tryz.func124,Tryz.ntmps124
   go_upto_region 6 with fail
   clear x0 x1 x2 x3 d0 d1 hw2
   refine Rg.wpD_begin [0,1,2,3,4,5] (fun X => X.cell? ⟨A,0,none⟩ = some (.pointer (some ⟨E.tb,0,none⟩)) ∧ X.cell? ⟨W.heap.size + 1,0,none⟩ = some (.int .i64 q.kind) ∧ X.cell? ⟨W.heap.size + 1,1,none⟩ = some (.int .i64 q.a) ∧ X.cell? ⟨W.heap.size + 1,2,none⟩ = some (.int .i64 q.b) ∧ X.cell? ⟨W.heap.size + 1,3,none⟩ = some (.slice pl q.list.length cl)) (by kernel_rfl) ?_
   have HeldS:=HS.out _ q0
   refine Rg.ld 0 HeldS ?_
   simp only [Act.put,Rg.sA,Rg.sB,Rg.sC]
   refine Rg.ld 1 HeldS ?_
   simp only [Act.put,Rg.sA,Rg.sB,Rg.sC]
   refine Rg.ld 2 HeldS ?_
   simp only [Act.put,Rg.sA,Rg.sB,Rg.sC]
   refine Rg.ld 3 HeldS ?_
   simp only [Act.put,Rg.sA,Rg.sB,Rg.sC]
   refine Rg.ld 4 HeldS ?_
   simp only [Act.put,Rg.sA,Rg.sB,Rg.sC]
   refine Rg.ld 5 HeldS ?_
   simp only [Act.put,Rg.sA,Rg.sB,Rg.sC]
   refine Rg.dd 6 fun K hK => ?_
   go_simp
   go_at_call 146
   refine Calls.mono hi ?_
   clear hi
   rintro r X ⟨rfl,bX⟩
   have HSX:Hid (Step E γ W γ X):=HST.out.trans (HST.out.inv.step bX)
   refine hK _ _ (fun h => absurd h (by decide)) ?_
   clear hK K HeldS
   refine Rg.pu 7 ?_
   simp only [Act.put,Rg.sA,Rg.sB,Rg.sC]
   refine Rg.wpD_done (by kernel_rfl) ?_
   go_wp2
   go_ret
   exact ⟨rfl,γ,HSX.out⟩
end Go.Proofs.YtnemagmakgiheaaGreat.Mt
/- package match: isCompound. -/
namespace Go.Proofs.YtnemagmakgiheaaGreat.Mt
open Go.Proofs.YtnemagmakgiheaaGreat.Tre
open Go Go.RowKit Dm
set_option maxHeartbeats 8000000 in
theorem isCompound_any (E:Env) (HAT:∀ a,AtOk a → AttrK E.w₀ E.es a) (hE:EnvOk E) (f:Nat) (HI:Deeper E f) (γ:Ghost) (W:World) (hI:Inv E γ W) (A k:Nat) (s:Sel) (pv:Value) (hA:γ A = some (.asked s pv f)) (hk:k < s.length) (e:Nat) (he:e < E.qs.length) :
  Calls Tryz.prog 101 #[.pointer (some ⟨A,0,none⟩),.int .i64 k,.int .i64 e] W fun r W' => r = .returned (.bool (compV (anyV E.es f) E.es (partAt s k).2 e)) ∧ ∃ γ',Step E γ W γ' W':=by
 obtain ⟨p,hp⟩:∃ p,s[k]? = some p:=⟨_,List.getElem?_eq_getElem hk⟩
 rw [partAt_eq hp]
 obtain ⟨_,o,ho,⟨d,hP⟩,hfit,fv,lv,rfl,_,_⟩:=hI.each A _ hA
 have kA:Blk W A 91 [ptrV E.tb,pv,fv,lv]:=ho
 have hs50:=fits_len hfit
 obtain ⟨pp,cp,rfl⟩:=RowT.len hP
 obtain ⟨bk,off,vi,vc,va,vp,rfl,hbk,hcap,hmx,_,⟨x0,x1,x2,x3,x4,x5⟩,g1,g2,g3,g4,g5,g6⟩:=PartsAt.get hP hp
 unfold maxLen at hmx
 have cw:∀ o,W.cell? ⟨bk,o,none⟩ = E.w₀.cell? ⟨bk,o,none⟩:=fun o => hI.low.cell (p:=⟨bk,o,none⟩) hbk
 rw [← cw] at x0 x1 x2 x3 x4 x5
 obtain ⟨pi,ci,rfl⟩:=g1.len
 obtain ⟨pc,cc,rfl⟩:=g2.len
 obtain ⟨pt,ct,rfl⟩:=g3.len
 obtain ⟨ps,cs,rfl⟩:=RowT.len g4
 have hki:(k:Int) < (s.length:Int):=by omega
 obtain ⟨w1,hw1⟩:∃ w1,W.alloc (.cells #[.string p.2.tag,.slice pi p.2.ids.length ci,.slice pc p.2.classes.length cc,.slice pt p.2.attrs.length ct,.slice ps p.2.pss.length cs] 45) = w1:=⟨_,rfl⟩
 have b1:Below W.heap.size W w1:=by rw [← hw1];exact (Below.refl _ _).alloc (Nat.le_refl _) _
 have k1:Blk w1 W.heap.size 45 [.string p.2.tag,.slice pi p.2.ids.length ci,.slice pc p.2.classes.length cc,.slice pt p.2.attrs.length ct,.slice ps p.2.pss.length cs]:=by rw [← hw1];exact Blk.new W 45 _
 have st1:=hI.step b1
 obtain ⟨⟨c0,c1,_,_⟩,_⟩:=blk4 kA
 have lowW:E.w₀.heap.size ≤ W.heap.size:=hI.low.size
 have q0:Below w1.heap.size w1 w1.drew:=below_drew (Below.refl _ _)
 have st0:=st1.trans (st1.inv.step q0)
 have hnode:=node_any E.b E.tb E.g E.cap E.qs e w1.drew (st0.inv.tree hE) hE.nds
 have HS:Hid (∀ X:World,Below w1.heap.size w1 X → X.cell? ⟨A,0,none⟩ = some (.pointer (some ⟨E.tb,0,none⟩)) ∧ X.cell? ⟨W.heap.size,0,none⟩ = some (.string p.2.tag) ∧ X.cell? ⟨W.heap.size,1,none⟩ = some (.slice pi p.2.ids.length ci) ∧ X.cell? ⟨W.heap.size,2,none⟩ = some (.slice pc p.2.classes.length cc) ∧ X.cell? ⟨W.heap.size,3,none⟩ = some (.slice pt p.2.attrs.length ct) ∧ X.cell? ⟨W.heap.size,4,none⟩ = some (.slice ps p.2.pss.length cs)):=fun X hX => by
  obtain ⟨⟨y0,y1,y2,y3,y4⟩,_⟩:=blk5 (k1.next hX)
  exact ⟨(blk4 ((kA.next b1).next hX)).1.1,y0,y1,y2,y3,y4⟩
 obtain ⟨R,hR⟩:∃ R,R = compV (anyV E.es f) E.es p.2 e:=⟨_,rfl⟩
 rw [← hR]
 have HR:Hid (R = (namedV (nodeV E.es e) p.2 && p.2.pss.all (fun q => pseudoV (anyV E.es f) E.es q e))):=hR
 have hND:NdOk (nodeV E.es e):=by
  have hel:E.es.length = E.qs.length:=List.length_map ..
  have hq:E.qs[e]? = some E.qs[e]:=List.getElem?_eq_getElem he
  unfold nodeV
  rw [elAt_yes (map_at hq)]
  exact hE.nds _ (List.mem_of_getElem? hq)
 have ST0:Hid (Step E γ W γ w1.drew):=st0
 have HE:Hid (EnvOk E):=hE
 have HHT:Hid (∀ a,AtOk a → AttrK E.w₀ E.es a):=HAT
 have hmq:∃ q ∈ E.es,q.nd = nodeV E.es e:=by
  have hq:E.qs[e]? = some E.qs[e]:=List.getElem?_eq_getElem he
  refine ⟨E.qs[e].e,List.mem_map_of_mem (List.mem_of_getElem? hq),?_⟩
  unfold nodeV
  rw [elAt_yes (map_at hq)]
  rfl
 have HMQ:Hid (∃ q ∈ E.es,q.nd = nodeV E.es e):=hmq
 clear hmq
 have HID:Hid (Deeper E f):=HI
 have HA:Hid (_ = _):=hA
 have HIV:Hid (Inv E γ W):=hI
 have HND:Hid (NdOk (nodeV E.es e)):=hND
 have G1:Hid (StrsR E.n₀ E.w₀ (.slice pi p.2.ids.length ci) p.2.ids):=g1
 have G2:Hid (StrsR E.n₀ E.w₀ (.slice pc p.2.classes.length cc) p.2.classes):=g2
 have G3:Hid (AttrsAt E.n₀ E.w₀ (.slice pt p.2.attrs.length ct) p.2.attrs):=g3
 have G4:Hid (RowT 4 (PsT (SelsAt d E.n₀ E.w₀)) E.n₀ E.w₀ (.slice ps p.2.pss.length cs) p.2.pss):=g4
 have G6:Hid (∀ x ∈ p.2.attrs,AtOk x):=g6
 have hlp:=RowT.short g4
 unfold maxLen at hlp
 unfold ptrV at c0
 clear hR hI hE HI hA HAT hP kA ho g1 g2 g3 g4 g6 cw hfit st1 st0 hND k1
 go_enter Tryz.func101,Tryz.ntmps101
 go_upto_region 2 with fail
 clear x0 x1 x2 x3 x4 x5 c0 c1 hw1
 refine Rg.wpD_begin [0,1,2,3,4,5,6] (fun X => X.cell? ⟨A,0,none⟩ = some (.pointer (some ⟨E.tb,0,none⟩)) ∧ X.cell? ⟨W.heap.size,0,none⟩ = some (.string p.2.tag) ∧ X.cell? ⟨W.heap.size,1,none⟩ = some (.slice pi p.2.ids.length ci) ∧ X.cell? ⟨W.heap.size,2,none⟩ = some (.slice pc p.2.classes.length cc) ∧ X.cell? ⟨W.heap.size,3,none⟩ = some (.slice pt p.2.attrs.length ct) ∧ X.cell? ⟨W.heap.size,4,none⟩ = some (.slice ps p.2.pss.length cs)) (by kernel_rfl) ?_
 have HeldS:=HS.out _ q0
 refine Rg.ld 0 HeldS ?_
 simp only [Act.put,Rg.sA,Rg.sB,Rg.sC]
 refine Rg.ld 1 HeldS ?_
 simp only [Act.put,Rg.sA,Rg.sB,Rg.sC]
 refine Rg.ld 2 HeldS ?_
 simp only [Act.put,Rg.sA,Rg.sB,Rg.sC]
 refine Rg.ld 3 HeldS ?_
 simp only [Act.put,Rg.sA,Rg.sB,Rg.sC]
 refine Rg.ld 4 HeldS ?_
 simp only [Act.put,Rg.sA,Rg.sB,Rg.sC]
 refine Rg.ld 6 HeldS ?_
 simp only [Act.put,Rg.sA,Rg.sB,Rg.sC]
 refine Rg.dd 5 fun K hK => ?_
 go_simp
 go_at_call 123
 refine Calls.mono hnode ?_
 clear hnode
 rintro r X ⟨cv,av,rfl,hcv,hav,bX⟩
 have stX:=ST0.out.trans (ST0.out.inv.step bX)
 have lowX:=stX.inv.low
 have hnm:=isNamed_any E.w₀ E.es HHT.out (nodeV E.es e) cv av X HMQ.out lowX HND.out hcv.at hav.at p.2 (.slice pi p.2.ids.length ci) (.slice pc p.2.classes.length cc) (.slice pt p.2.attrs.length ct) (.slice ps p.2.pss.length cs) ((G1.out.below lowX).mono lowX.size) ((G2.out.below lowX).mono lowX.size) ((G3.out.below lowX).mono lowX.size) G6.out ⟨_,_,_,rfl⟩
 have STX:Hid (Step E γ W γ X):=stX
 refine hK _ _ (fun _ => HS.out _ (below_next q0 bX)) ?_
 clear hK K HeldS
 refine Rg.dd 7 fun K hK => ?_
 go_simp
 go_at_call 122
 refine Calls.mono hnm ?_
 clear hnm hcv hav lowX
 rintro r Y ⟨rfl,bY⟩
 have stY:=stX.trans (stX.inv.step bY)
 have STY:Hid (Step E γ W γ Y):=stY
 have hm4:=(HS.out _ (below_next (below_next q0 bX) bY)).2.2.2.2.2
 refine hK _ _ (fun h => absurd h (by decide)) ?_
 clear hK K stX stY
 refine Rg.pu 8 ?_
 simp only [Act.put,Rg.sA,Rg.sB,Rg.sC]
 refine Rg.wpD_done (by kernel_rfl) ?_
 cases hnv:namedV (nodeV E.es e) p.2 with
 | false =>
  have FIN:Hid (false = R):=by
   show _ = _
   rw [show R = _ from HR.out,hnv]
   rfl
  clear hnv
  go_wp2
  go_ret
  exact ⟨by rw [← show false = _ from FIN.out];rfl,γ,STY.out⟩
 | true =>
  have HR2:Hid (R = p.2.pss.all (fun q => pseudoV (anyV E.es f) E.es q e)):=by
   show _ = _
   rw [show R = _ from HR.out,hnv,Bool.true_and]
  clear hnv
  go_wp2
  go_loopw [30] (fun y wr => ∃ (i:Nat) (γi:Ghost),y = .int .i64 i ∧ i ≤ p.2.pss.length ∧ (p.2.pss.take i).all (fun q => pseudoV (anyV E.es f) E.es q e) = true ∧ Step E γ W γi wr) (fun y _ => p.2.pss.length - (intOf y).toNat)
  case atStart => exact ⟨0,γ,rfl,Nat.zero_le _,rfl,STY.out⟩
  case round =>
   clear hm4
   obtain ⟨i,γi,rfl,hi,hall,hst⟩:=hrel
   have HALL:Hid (_ = _):=hall
   have HST:Hid _:=hst
   clear hall
   by_cases hlt:i < p.2.pss.length
   ·obtain ⟨q,hq⟩:∃ q,p.2.pss[i]? = some q:=⟨_,List.getElem?_eq_getElem hlt⟩
    obtain ⟨bk2,off2,xl,rfl,hbk2,hcap2,hmx2,⟨_,hqa,hqb,hql⟩,hQ,y0,y1,y2,y3⟩:=pss_get G4.out hq
    unfold maxLen at hmx2
    have cw:∀ o,wr.cell? ⟨bk2,o,none⟩ = E.w₀.cell? ⟨bk2,o,none⟩:=fun o => hst.inv.low.cell (p:=⟨bk2,o,none⟩) hbk2
    rw [← cw] at y0 y1 y2 y3
    obtain ⟨pl,cl,rfl⟩:=SelsAt.len hQ
    have hii:(i:Int) < (p.2.pss.length:Int):=by omega
    obtain ⟨X1,hX1⟩:∃ X1,wr.alloc (.cells #[.int .i64 q.kind,.int .i64 q.a,.int .i64 q.b,.slice pl q.list.length cl] 40) = X1:=⟨_,rfl⟩
    have bX1:Below wr.heap.size wr X1:=by rw [← hX1];exact (Below.refl _ _).alloc (Nat.le_refl _) _
    have kX1:Blk X1 wr.heap.size 40 [.int .i64 q.kind,.int .i64 q.a,.int .i64 q.b,.slice pl q.list.length cl]:=by rw [← hX1];exact Blk.new wr 40 _
    obtain ⟨⟨z0,z1,z2,z3⟩,_⟩:=blk4 kX1
    have st3:=hst.trans (hst.inv.step bX1)
    have hps:=isPseudo_any E HE.out f HID.out γi X1 st3.inv A k i s _ p q (hst.mono HIV.out _ _ HA.out) hp hq (by omega) hql ⟨hqa,hqb⟩ d pl cl hQ e he
    have ST3:Hid (Step E γ W γi X1):=st3
    have HQ:Hid (_ = _):=hq
    clear cw hQ hst st3 hq
    go_wp2_with fail
    refine hps.mono ?_
    clear hps
    rintro r Z ⟨rfl,γ',stz⟩
    have HSZ:Hid (Step E γ W γ' Z):=ST3.out.trans stz
    clear stz z0 z1 z2 z3 y0 y1 y2 y3 hX1
    cases hv:pseudoV (anyV E.es f) E.es q e with
    | true =>
     have FIN:Hid ((p.2.pss.take (i + 1)).all (fun q => pseudoV (anyV E.es f) E.es q e) = true):=all_take HALL.out HQ.out hv
     clear hv
     go_wp2
     go_roundw
     case rel => exact ⟨_,_,_,_,_,_,_,_,_,_,_,_,_,_,_,_,_,⟨i + 1,γ',rfl,by omega,FIN.out,HSZ.out⟩,rfl⟩
     case measure => simp [intOf];omega
    | false =>
     have FIN:Hid (false = R):=by
      show _ = _
      rw [show R = _ from HR2.out,all_not HQ.out hv]
     clear hv
     go_wp2
     go_ret
     exact ⟨by rw [← show false = _ from FIN.out];rfl,γ',HSZ.out⟩
   ·have hii:¬ ((i:Int) < (p.2.pss.length:Int)):=by omega
    obtain rfl:i = p.2.pss.length:=by omega
    have FIN:Hid (true = R):=by
     have h:=HALL.out
     rw [List.take_length] at h
     show _ = _
     rw [show R = _ from HR2.out]
     exact h.symm
    clear hst
    go_wp2
    go_ret
    exact ⟨by rw [← show true = _ from FIN.out];rfl,γi,HST.out⟩
end Go.Proofs.YtnemagmakgiheaaGreat.Mt
/- package match: Selector and Compound at every tree, element and selector. -/
namespace Go.Proofs.YtnemagmakgiheaaGreat.Mt
open Go.Proofs.YtnemagmakgiheaaGreat.Tre
open Go Go.RowKit Dm
set_option maxHeartbeats 2000000 in
theorem isUpTo_any (E:Env) (HAT:∀ a,AtOk a → AttrK E.w₀ E.es a) (hE:EnvOk E) (f:Nat) (HI:Deeper E f) (A:Nat) (s:Sel) (pv:Value) (k:Nat) (hk:k < s.length) (HU:0 < k → UpToK E A f s pv (k - 1)):UpToK E A f s pv k:=by
 intro γ W hI hA e he
 have hc:=isCompound_any E HAT hE f HI γ W hI A k s pv hA hk e he
 have HIV:Hid (Inv E γ W):=hI
 have HE:Hid (EnvOk E):=hE
 have HUU:Hid (0 < k → UpToK E A f s pv (k - 1)):=HU
 have HA:Hid (_ = _):=hA
 obtain ⟨R,hR⟩:∃ R,R = uptoV (anyV E.es f) E.es s k e:=⟨_,rfl⟩
 rw [← hR]
 have HR:Hid (_ = _):=hR
 clear hI hE HI HU hA HAT hR
 go_enter Tryz.func73,Tryz.ntmps73
 go_wp2_with fail
 refine hc.mono ?_
 clear hc
 rintro r X ⟨rfl,γ1,st1⟩
 have ST1:Hid (Step E γ W γ1 X):=st1
 clear st1
 cases hcv:compV (anyV E.es f) E.es (partAt s k).2 e with
 | false =>
  have FIN:Hid (false = R):=by
   show _ = _
   rw [show R = _ from HR.out]
   cases k with
   | zero => unfold uptoV;exact hcv.symm
   | succ k => unfold uptoV;rw [hcv];rfl
  clear hcv
  go_wp2
  go_ret
  exact ⟨by rw [← show false = _ from FIN.out];rfl,γ1,ST1.out⟩
 | true =>
  rcases Nat.eq_zero_or_pos k with hk0 | hk0
  ·subst hk0
   have FIN:Hid (true = R):=by
    show _ = _
    rw [show R = _ from HR.out]
    unfold uptoV
    exact hcv.symm
   clear hcv
   go_wp2
   go_ret
   exact ⟨by rw [← show true = _ from FIN.out];rfl,γ1,ST1.out⟩
  ·have ha:=callsIn_wide.1 (isAhead_in E HE.out 1 (Nat.le_refl _) γ1 X ST1.out.inv A s pv f (ST1.out.mono HIV.out _ _ HA.out) k hk hk0 (HUU.out hk0) e he)
   have FIN:Hid ((aheadV E.es (partAt s k).1 e).any (uptoV (anyV E.es f) E.es s (k - 1)) = R):=by
    show _ = _
    rw [show R = _ from HR.out]
    obtain ⟨m,rfl⟩:∃ m,k = m + 1:=⟨k - 1,by omega⟩
    show _ = (compV _ _ _ _ && _)
    rw [hcv,Bool.true_and]
    rfl
   have hk1:((k:Int) == 0) = false:=by
    have:(k:Int) ≠ 0:=by omega
    simpa using this
   clear hcv
   go_wp2_with fail
   refine ha.mono ?_
   clear ha
   rintro r Y ⟨rfl,γ2,st2⟩
   have ST2:Hid (Step E γ W γ2 Y):=ST1.out.trans st2
   clear st2
   go_wp2
   go_ret
   exact ⟨by rw [← show _ = R from FIN.out];rfl,γ2,ST2.out⟩
theorem upTo_all (E:Env) (HAT:∀ a,AtOk a → AttrK E.w₀ E.es a) (hE:EnvOk E) (f:Nat) (HI:Deeper E f) (A:Nat) (s:Sel) (pv:Value):∀ k,k < s.length → UpToK E A f s pv k
 | 0,h => isUpTo_any E HAT hE f HI A s pv 0 h (fun h => absurd h (Nat.lt_irrefl _))
 | k + 1,h => isUpTo_any E HAT hE f HI A s pv (k + 1) h (fun _ => upTo_all E HAT hE f HI A s pv k (by omega))
set_option maxHeartbeats 2000000 in
theorem is_step (E:Env) (HAT:∀ a,AtOk a → AttrK E.w₀ E.es a) (hE:EnvOk E) (f:Nat) (HI:Deeper E f):IsK E f:=by
 intro γ W A s pv hI hA e he
 obtain ⟨⟨d,hP⟩,hfit,fv,lv,kA,_,_⟩:=hI.asked hA
 obtain ⟨pp,cp,rfl⟩:=RowT.len hP
 have hs50:=fits_len hfit
 obtain ⟨⟨c0,c1,_,_⟩,_⟩:=blk4 kA
 by_cases h0:0 < s.length
 ·have hu:=upTo_all E HAT hE f HI A s _ (s.length - 1) (by omega) γ W hI hA e he
  have hV:selV (anyV E.es f) E.es s e = uptoV (anyV E.es f) E.es s (s.length - 1) e:=by unfold selV;rw [decide_eq_true h0,Bool.true_and]
  rw [hV]
  have hw1:IntKind.i64.wrap ((s.length:Int) - 1) = ((s.length - 1:Nat):Int):=by rw [IntKind.wrap_i64];omega
  have hp:(0:Int) < (s.length:Int):=by omega
  clear hV hI hE HI HAT hA hP kA hfit
  go_enter Tryz.func45,Tryz.ntmps45
  go_wp2_with fail
  refine hu.mono ?_
  clear hu
  rintro r X ⟨rfl,hst⟩
  have HS:Hid _:=hst
  clear hst
  go_wp2
  go_ret
  exact ⟨rfl,HS.out⟩
 ·have hV:selV (anyV E.es f) E.es s e = false:=by unfold selV;rw [decide_eq_false h0];rfl
  rw [hV]
  have hz:s.length = 0:=by omega
  have HS:Hid (Step E γ W γ W):=Step.refl hI
  rw [hz] at c1
  clear hV hI hE HI HAT hA hP kA hfit
  go_enter Tryz.func45,Tryz.ntmps45
  go_wp2
  go_ret
  exact ⟨rfl,γ,HS.out⟩
theorem is_all (E:Env) (HAT:∀ a,AtOk a → AttrK E.w₀ E.es a) (hE:EnvOk E):∀ f,IsK E f
 | 0 => is_step E HAT hE 0 (fun _ h => by cases h)
 | f + 1 => is_step E HAT hE (f + 1) (fun f' h => by cases h;exact is_all E HAT hE f)
set_option maxHeartbeats 2000000 in
theorem selector_any (qs:List Em) (w:World) (HAT:∀ a,AtOk a → AttrK w (qs.map Em.e) a) (b tb g cap:Nat) (hT:Tr b w tb g cap qs) (hO:TreeOk (qs.map Em.e)) (hl:qs.length ≤ 4096) (hN:∀ q ∈ qs,NdOk q.e.nd) (e:Int) (d:Nat) (v:Value) (s:Sel) (hP:PartsAt d w.heap.size w v s) :
  Calls Tryz.prog 14 #[.pointer (some ⟨tb,0,none⟩),.int .i64 e,.agg #[v]] w fun r w' => r = .returned (.bool (selectorV (qs.map Em.e) e s)) ∧ Below w.heap.size w w':=by
 obtain ⟨pp,cp,rfl⟩:=RowT.len hP
 obtain ⟨w1,hw1⟩:∃ w1,w.alloc (.cells #[.slice pp s.length cp] 36) = w1:=⟨_,rfl⟩
 have b1:Below w.heap.size w w1:=by rw [← hw1];exact (Below.refl _ _).alloc (Nat.le_refl _) _
 have k1:Blk w1 w.heap.size 36 [.slice pp s.length cp]:=by rw [← hw1];exact Blk.new w 36 _
 have c0:=(blk1 k1).1
 have hlen:=len_any b tb g cap qs w1 (hT.next b1)
 have hel:(qs.map Em.e).length = qs.length:=List.length_map ..
 unfold selectorV
 rw [hel]
 by_cases hin:0 ≤ e ∧ e < (qs.length:Int)
 ·rw [decide_eq_true hin,Bool.true_and]
  obtain ⟨k,rfl⟩:∃ k:Nat,e = (k:Int):=⟨e.toNat,by omega⟩
  have hk:k < qs.length:=by omega
  rw [Int.toNat_natCast]
  have hfi:=fits_any d s (.slice pp s.length cp) w1 (hP.next b1)
  have hg1:¬ ((qs.length:Int) ≤ (k:Int)):=by omega
  have HT:Hid (Tr b w tb g cap qs):=hT
  have HO:Hid (TreeOk (qs.map Em.e)):=hO
  have HNN:Hid (∀ q ∈ qs,NdOk q.e.nd):=hN
  have HHT:Hid (∀ a,AtOk a → AttrK w (qs.map Em.e) a):=HAT
  have HP:Hid (PartsAt d w.heap.size w (.slice pp s.length cp) s):=hP
  have K1:Hid (Blk w1 w.heap.size 36 [.slice pp s.length cp]):=k1
  obtain ⟨R,hR⟩:∃ R,R = (fitsV 8 s && selV (anyV (qs.map Em.e) 8) (qs.map Em.e) s k):=⟨_,rfl⟩
  rw [← hR]
  have HR:Hid (_ = _):=hR
  have hn0:¬ ((k:Int) < 0):=by omega
  have hd0:decide ((k:Int) < 0) = false:=decide_eq_false hn0
  have hd1:decide (qs.length ≤ k) = false:=decide_eq_false (by omega)
  clear hT hO hN HAT hP k1 hin hel hR
  go_enter Tryz.func14,Tryz.ntmps14
  go_wp2_with fail
  refine hlen.mono ?_
  clear hlen
  rintro r X ⟨rfl,rfl⟩
  go_wp2_with fail
  refine hfi.mono ?_
  clear hfi
  rintro r Y ⟨rfl,bY⟩
  have bwY:Below w.heap.size w Y:=below_next b1 bY
  have c0:=(blk1 (K1.out.next bY)).1
  cases hf:fitsV 8 s with
  | false =>
   have FIN:Hid (false = R):=by
    show _ = _
    rw [show R = _ from HR.out,hf]
    rfl
   clear hf
   go_wp2
   go_ret
   exact ⟨by rw [← show false = _ from FIN.out];rfl,bwY⟩
  | true =>
   have HR2:Hid (R = selV (anyV (qs.map Em.e) 8) (qs.map Em.e) s k):=by
    show _ = _
    rw [show R = _ from HR.out,hf,Bool.true_and]
   obtain ⟨Z,hZ⟩:∃ Z,Y.alloc (.cells #[.pointer (some ⟨tb,0,none⟩),.slice pp s.length cp,.slice none 0 0,.map none] 91) = Z:=⟨_,rfl⟩
   have bZ:Below Y.heap.size Y Z:=by rw [← hZ];exact (Below.refl _ _).alloc (Nat.le_refl _) _
   have kZ:Blk Z Y.heap.size 91 [.pointer (some ⟨tb,0,none⟩),.slice pp s.length cp,.slice none 0 0,.map none]:=by rw [← hZ];exact Blk.new Y 91 _
   have hE:EnvOk ⟨Y,b,tb,g,cap,qs⟩:=⟨HT.out.next bwY,HO.out,hl,HNN.out⟩
   have hP2:PartsAt d Y.heap.size Y (.slice pp s.length cp) s:=HP.out.next bwY
   have inv0:Inv ⟨Y,b,tb,g,cap,qs⟩ (fun _ => none) Y:=⟨Below.refl _ _,fun A r h => by cases h⟩
   have inv1:Step ⟨Y,b,tb,g,cap,qs⟩ (fun _ => none) Y (addG (fun _ => none) Y.heap.size (.asked s (.slice pp s.length cp) 8)) Z:=inv0.add (Nat.le_refl _) bZ kZ ⟨⟨d,hP2⟩,hf,_,_,rfl,.inl rfl,.inl rfl⟩
   have his:=is_all ⟨Y,b,tb,g,cap,qs⟩ (fun a ha => (HHT.out a ha).next bwY) hE 8 _ Z Y.heap.size s (.slice pp s.length cp) inv1.inv (addG_same _ _ _) k hk
   have lowY:Hid (∀ (V:World) γ' X,Step ⟨Y,b,tb,g,cap,qs⟩ (addG (fun _ => none) Y.heap.size (.asked s (.slice pp s.length cp) 8)) V γ' X → Below w.heap.size w X):=fun _ γ' X st => below_next bwY st.inv.low
   have hes:(⟨Y,b,tb,g,cap,qs⟩:Env).es = qs.map Em.e:=rfl
   rw [hes] at his
   rw [← hZ] at his
   clear hf hE hP2 inv0 inv1 kZ bZ bY hes
   clear hZ
   go_wp2_with fail
   refine his.mono ?_
   clear his
   rintro r X ⟨rfl,γ',st⟩
   have FIN:Hid (Below w.heap.size w X):=lowY.out _ γ' X st
   clear st
   go_wp2
   go_ret
   exact ⟨by rw [show R = _ from HR2.out];rfl,FIN.out⟩
 ·rw [decide_eq_false hin,Bool.false_and]
  clear hT hO hN HAT hP k1 hel
  by_cases hneg:e < 0
  ·clear hlen
   go_enter Tryz.func14,Tryz.ntmps14
   go_wp2
   go_ret
   exact ⟨rfl,b1⟩
  ·have hge:(qs.length:Int) ≤ e:=by omega
   clear hin
   go_enter Tryz.func14,Tryz.ntmps14
   go_wp2_with fail
   refine hlen.mono ?_
   clear hlen
   rintro r X ⟨rfl,rfl⟩
   go_wp2
   go_ret
   exact ⟨rfl,b1⟩
end Go.Proofs.YtnemagmakgiheaaGreat.Mt
/- package match in use: Compound and Any; selectors that a law lays itself; the laws' own alive and trees. -/
namespace Go.Proofs.YtnemagmakgiheaaGreat.Mt
open Go.Proofs.YtnemagmakgiheaaGreat.Tre
open Go Go.RowKit Dm
theorem parts_one {W:World} {B d:Nat} {comb:Int} {c:Cp} {vi vc va vp:Value} (k:Blk W B 48 [.int .i64 comb,.string c.tag,vi,vc,va,vp]) (hc:CpT (SelsAt d W.heap.size W) W.heap.size W [.string c.tag,vi,vc,va,vp] c) (hi:i64 comb) :
  PartsAt d W.heap.size W (.slice (some ⟨B,0,none⟩) 1 1) [(comb,c)]:=by
 refine .inr ⟨B,0,1,rfl,Nat.le_refl _,by unfold maxLen;omega,k.lt,fun j x hx => ?_⟩
 have hj:j = 0:=by have:=(List.getElem?_eq_some_iff.1 hx).1;simpa using this
 subst hj
 obtain rfl:(comb,c) = x:=by simpa using hx
 refine ⟨[.int .i64 comb,.string c.tag,vi,vc,va,vp],rfl,⟨_,rfl,hc,hi⟩,fun i u hu => ?_⟩
 rw [cell_of_block (show W.heap[B]? = _ from k)]
 simpa using hu
theorem parts_none (d n:Nat) (W:World):PartsAt d n W (.slice none 0 0) []:=.inl ⟨rfl,_,_,rfl⟩
def psCp (q:Ps):Cp:=.mk ⟨#[]⟩ [] [] [] [q]
theorem cp_ps {Q:Value → List Sel → Prop} {W:World} {B:Nat} {q:Ps} {x:Value} (k:Blk W B 40 (psCells q x)) (hQ:Q x q.list) (h1:i64 q.kind) (h2:i64 q.a) (h3:i64 q.b) (h4:q.list.length ≤ 8796093022208):CpT Q W.heap.size W [.string ⟨#[]⟩,.slice none 0 0,.slice none 0 0,.slice none 0 0,.slice (some ⟨B,0,none⟩) 1 1] (psCp q):=by
 refine ⟨_,_,_,_,rfl,.inl ⟨rfl,_,_,rfl⟩,.inl ⟨rfl,_,_,rfl⟩,.inl ⟨rfl,_,_,rfl⟩,.inr ⟨B,0,1,rfl,Nat.le_refl _,by unfold maxLen;omega,k.lt,fun j y hy => ?_⟩,by simp [psCp,Cp.pss],fun _ h => by cases h⟩
 have hj:j = 0:=by have:=(List.getElem?_eq_some_iff.1 hy).1;simpa [psCp,Cp.pss] using this
 subst hj
 obtain rfl:q = y:=by simpa [psCp,Cp.pss] using hy
 refine ⟨psCells q x,rfl,⟨x,rfl,hQ,h1,h2,h3,h4⟩,fun i u hu => ?_⟩
 rw [cell_of_block (show W.heap[B]? = _ from k)]
 simpa using hu
def compoundV (es:List El) (e:Int) (c:Cp):Bool:=selectorV es e [(0,c)]
set_option maxHeartbeats 2000000 in
theorem compound_any (qs:List Em) (w:World) (HAT:∀ a,AtOk a → AttrK w (qs.map Em.e) a) (b tb g cap:Nat) (hT:Tr b w tb g cap qs) (hO:TreeOk (qs.map Em.e)) (hl:qs.length ≤ 4096) (hN:∀ q ∈ qs,NdOk q.e.nd) (e:Int) (d:Nat) (c:Cp) (vi vc va vp:Value) (hc:CpT (SelsAt d w.heap.size w) w.heap.size w [.string c.tag,vi,vc,va,vp] c) :
  Calls Tryz.prog 17 #[.pointer (some ⟨tb,0,none⟩),.int .i64 e,.agg #[.string c.tag,vi,vc,va,vp]] w fun r w' => r = .returned (.bool (compoundV (qs.map Em.e) e c)) ∧ Below w.heap.size w w':=by
 have hc':=hc
 obtain ⟨_,_,_,_,he,h1,h2,h3,h4,_⟩:=hc
 cases he
 obtain ⟨pi,ci,rfl⟩:=h1.len
 obtain ⟨pc,cc,rfl⟩:=h2.len
 obtain ⟨pa,ca,rfl⟩:=h3.len
 obtain ⟨pp,cp,rfl⟩:=RowT.len h4
 obtain ⟨w2,hw2⟩:∃ w2,(w.alloc (.cells #[.string c.tag,.slice pi c.ids.length ci,.slice pc c.classes.length cc,.slice pa c.attrs.length ca,.slice pp c.pss.length cp] 45)).alloc (.cells #[.int .i64 0,.string c.tag,.slice pi c.ids.length ci,.slice pc c.classes.length cc,.slice pa c.attrs.length ca,.slice pp c.pss.length cp] 48) = w2:=⟨_,rfl⟩
 have b2:Below w.heap.size w w2:=by rw [← hw2];exact ((Below.refl _ w).alloc (Nat.le_refl _) _).alloc (by simp) _
 have k2:Blk w2 (w.heap.size + 1) 48 [.int .i64 0,.string c.tag,.slice pi c.ids.length ci,.slice pc c.classes.length cc,.slice pa c.attrs.length ca,.slice pp c.pss.length cp]:=by
  rw [← hw2]
  have:=Blk.new (w.alloc (.cells #[.string c.tag,.slice pi c.ids.length ci,.slice pc c.classes.length cc,.slice pa c.attrs.length ca,.slice pp c.pss.length cp] 45)) 48 [.int .i64 0,.string c.tag,.slice pi c.ids.length ci,.slice pc c.classes.length cc,.slice pa c.attrs.length ca,.slice pp c.pss.length cp]
  rwa [World.size_alloc] at this
 have hP:PartsAt d w2.heap.size w2 (.slice (some ⟨w.heap.size + 1,0,none⟩) 1 1) [(0,c)]:=parts_one k2 (CpT.mono (CpT.below hc' b2 (fun _ _ h => h.below d b2)) b2.size (fun _ _ h => h.mono d b2.size)) ⟨by decide,by decide⟩
 have hs:=selector_any qs w2 (fun a ha => (HAT a ha).next b2) b tb g cap (hT.next b2) hO hl hN e d _ _ hP
 clear hT hO hN HAT hc' h1 h2 h3 h4 k2 hP
 go_enter Tryz.func17,Tryz.ntmps17
 go_wp2_with fail
 refine hs.mono ?_
 clear hs
 rintro r X ⟨rfl,bX⟩
 have b9:=below_next b2 bX
 go_wp2
 go_ret
 exact ⟨rfl,b9⟩
end Go.Proofs.YtnemagmakgiheaaGreat.Mt
/- package match in use: Any, for a list of selectors. -/
namespace Go.Proofs.YtnemagmakgiheaaGreat.Mt
open Go.Proofs.YtnemagmakgiheaaGreat.Tre
open Go Go.RowKit Dm
def givenV (es:List El) (e:Int) (l:List Sel):Bool:=l.any (selectorV es e)
set_option maxHeartbeats 1000000 in
theorem any1_any (qs:List Em) (w:World) (HAT:∀ a,AtOk a → AttrK w (qs.map Em.e) a) (b tb g cap:Nat) (hT:Tr b w tb g cap qs) (hO:TreeOk (qs.map Em.e)) (hl:qs.length ≤ 4096) (hN:∀ q ∈ qs,NdOk q.e.nd) (e:Int) (d:Nat) (p:Option Addr) (c:Nat) (s:Sel) (hP:PartsAt d w.heap.size w (.slice p s.length c) s)
  (Bt Be:Nat) (ht:w.cell? ⟨Bt,0,none⟩ = some (.pointer (some ⟨tb,0,none⟩))) (he:w.cell? ⟨Be,0,none⟩ = some (.int .i64 e)) (hbt:Bt < w.heap.size) (hbe:Be < w.heap.size) :
  Calls Tryz.prog 42 #[.agg #[.slice p s.length c],.pointer (some ⟨Bt,0,none⟩),.pointer (some ⟨Be,0,none⟩)] w fun r w' => r = .returned (.bool (selectorV (qs.map Em.e) e s)) ∧ Below w.heap.size w w':=by
 obtain ⟨w1,hw1⟩:∃ w1,w.alloc (.cells #[.slice p s.length c] 36) = w1:=⟨_,rfl⟩
 have b1:Below w.heap.size w w1:=by rw [← hw1];exact (Below.refl _ _).alloc (Nat.le_refl _) _
 have k1:Blk w1 w.heap.size 36 [.slice p s.length c]:=by rw [← hw1];exact Blk.new w 36 _
 have c0:=(blk1 k1).1
 have ct:w1.cell? ⟨Bt,0,none⟩ = some (.pointer (some ⟨tb,0,none⟩)):=by rw [b1.cell hbt];exact ht
 have ce:w1.cell? ⟨Be,0,none⟩ = some (.int .i64 e):=by rw [b1.cell hbe];exact he
 have hs:=selector_any qs w1 (fun a ha => (HAT a ha).next b1) b tb g cap (hT.next b1) hO hl hN e d _ s (hP.next b1)
 clear hT hO hN HAT hP k1 ht he
 go_enter Tryz.func42,Tryz.ntmps42
 go_wp2_with fail
 refine hs.mono ?_
 clear hs
 rintro r X ⟨rfl,bX⟩
 have b9:=below_next b1 bX
 go_wp2
 go_ret
 exact ⟨rfl,b9⟩
set_option maxHeartbeats 4000000 in
theorem indexSel_any (qs:List Em) (w:World) (HAT:∀ a,AtOk a → AttrK w (qs.map Em.e) a) (b tb g cap:Nat) (hT:Tr b w tb g cap qs) (hO:TreeOk (qs.map Em.e)) (hl:qs.length ≤ 4096) (hN:∀ q ∈ qs,NdOk q.e.nd) (e:Int) (d:Nat) (p:Option Addr) (c:Nat) (l:List Sel) (hS:SelsAt d w.heap.size w (.slice p l.length c) l)
  (Bt Be:Nat) (ht:w.cell? ⟨Bt,0,none⟩ = some (.pointer (some ⟨tb,0,none⟩))) (he:w.cell? ⟨Be,0,none⟩ = some (.int .i64 e)) (hbt:Bt < w.heap.size) (hbe:Be < w.heap.size) :
  Calls Tryz.prog 71 #[.slice p l.length c,.func (.func 42) #[] #[.pointer (some ⟨Bt,0,none⟩),.pointer (some ⟨Be,0,none⟩)]] w fun r w' => (∃ i:Int,r = .returned (.int .i64 i) ∧ decide (0 ≤ i) = givenV (qs.map Em.e) e l) ∧ Below w.heap.size w w':=by
 have hsh:=hS.short
 unfold maxLen at hsh
 have HS:Hid (SelsAt d w.heap.size w (.slice p l.length c) l):=hS
 have HT:Hid (Tr b w tb g cap qs):=hT
 have HO:Hid (TreeOk (qs.map Em.e)):=hO
 have HNN:Hid (∀ q ∈ qs,NdOk q.e.nd):=hN
 have HHT:Hid (∀ a,AtOk a → AttrK w (qs.map Em.e) a):=HAT
 have HCT:Hid (_ = _):=ht
 have HCE:Hid (_ = _):=he
 clear hS hT hO hN HAT ht he
 go_enter Tryz.func71,Tryz.ntmps71
 go_wp2
 go_loopw [8] (fun y wr => ∃ (i:Nat),y = .int .i64 i ∧ i ≤ l.length ∧ (l.take i).any (selectorV (qs.map Em.e) e) = false ∧ Below w.heap.size w wr) (fun y _ => l.length - (intOf y).toNat)
 case atStart => exact ⟨0,rfl,Nat.zero_le _,rfl,Below.refl _ _⟩
 case round =>
  obtain ⟨i,rfl,hi,hno,bw⟩:=hrel
  have HNO:Hid (_ = _):=hno
  clear hno
  by_cases hlt:i < l.length
  ·obtain ⟨x,hx⟩:∃ x,l[i]? = some x:=⟨_,List.getElem?_eq_getElem hlt⟩
   obtain ⟨d',rfl,bk,off,xv,rfl,hbk,hcap,hmx,hP,hc⟩:=((HS.out.below d bw).mono d bw.size).get hx
   obtain ⟨xp,xc,rfl⟩:=RowT.len hP
   have ct:wr.cell? ⟨Bt,0,none⟩ = some (.pointer (some ⟨tb,0,none⟩)):=by rw [bw.cell hbt];exact HCT.out
   have ce:wr.cell? ⟨Be,0,none⟩ = some (.int .i64 e):=by rw [bw.cell hbe];exact HCE.out
   have h:=any1_any qs wr (fun a ha => (HHT.out a ha).next bw) b tb g cap (HT.out.next bw) HO.out hl HNN.out e d' xp xc x hP Bt Be ct ce (Nat.lt_of_lt_of_le hbt bw.size) (Nat.lt_of_lt_of_le hbe bw.size)
   have hii:(i:Int) < (l.length:Int):=by omega
   have HXX:Hid (_ = _):=hx
   unfold maxLen at hmx
   clear hP ct ce hx
   go_wp2_with fail
   refine h.mono ?_
   clear h hc
   rintro r W' ⟨rfl,b2⟩
   have b3:=below_next bw b2
   clear b2
   cases hv:selectorV (qs.map Em.e) e x with
   | true =>
    have FIN:Hid (decide ((0:Int) ≤ (i:Int)) = givenV (qs.map Em.e) e l):=by
     show _ = _
     rw [decide_eq_true (by omega)]
     symm
     show l.any _ = true
     rw [List.any_eq_true]
     exact ⟨x,List.mem_of_getElem? HXX.out,hv⟩
    clear hv
    go_wp2
    go_ret
    exact ⟨⟨i,rfl,FIN.out⟩,b3⟩
   | false =>
    have FIN:Hid ((l.take (i + 1)).any (selectorV (qs.map Em.e) e) = false):=by
     show _ = _
     rw [List.take_add_one,show l[i]? = some x from HXX.out,List.any_append,show (l.take i).any _ = false from HNO.out]
     simp [hv]
    clear hv
    go_wp2
    go_roundw
    case rel => exact ⟨i + 1,rfl,by omega,FIN.out,b3⟩
    case measure => simp [intOf];omega
  ·have hii:¬ ((i:Int) < (l.length:Int)):=by omega
   obtain rfl:i = l.length:=by omega
   have FIN:Hid (decide ((0:Int) ≤ (-1:Int)) = givenV (qs.map Em.e) e l):=by
    have h:=HNO.out
    rw [List.take_length] at h
    show _ = l.any _
    rw [show l.any _ = false from h]
    rfl
   go_wp2
   go_ret
   exact ⟨⟨-1,rfl,FIN.out⟩,bw⟩
set_option maxHeartbeats 4000000 in
theorem given_any (qs:List Em) (w:World) (HAT:∀ a,AtOk a → AttrK w (qs.map Em.e) a) (b tb g cap:Nat) (hT:Tr b w tb g cap qs) (hO:TreeOk (qs.map Em.e)) (hl:qs.length ≤ 4096) (hN:∀ q ∈ qs,NdOk q.e.nd) (e:Int) (d:Nat) (v:Value) (l:List Sel) (hS:SelsAt d w.heap.size w v l) :
  Calls Tryz.prog 12 #[.pointer (some ⟨tb,0,none⟩),.int .i64 e,v] w fun r w' => r = .returned (.bool (givenV (qs.map Em.e) e l)) ∧ Below w.heap.size w w':=by
 obtain ⟨p,c,rfl⟩:=hS.len
 obtain ⟨w2,hw2⟩:∃ w2,(w.alloc (.cells #[.pointer (some ⟨tb,0,none⟩)] 24)).alloc (.cells #[.int .i64 e] 3) = w2:=⟨_,rfl⟩
 have b2:Below w.heap.size w w2:=by rw [← hw2];exact ((Below.refl _ w).alloc (Nat.le_refl _) _).alloc (by simp) _
 have kt:Blk w2 w.heap.size 24 [.pointer (some ⟨tb,0,none⟩)]:=by rw [← hw2];exact blk_alloc (Blk.new w 24 _) _
 have ke:Boxed w2 (w.heap.size + 1) 3 (.int .i64 e):=by
  rw [← hw2]
  have:=Boxed.new (w.alloc (.cells #[.pointer (some ⟨tb,0,none⟩)] 24)) 3 (.int .i64 e)
  rwa [World.size_alloc] at this
 have hi:=indexSel_any qs w2 (fun a ha => (HAT a ha).next b2) b tb g cap (hT.next b2) hO hl hN e d p c l ((hS.below d b2).mono d b2.size) w.heap.size (w.heap.size + 1) (blk1 kt).1 (Boxed.cell ke) kt.lt ke.lt
 clear hT hO hN HAT hS kt ke
 have hcf:Calls Tryz.prog 41 #[.slice p l.length c,.func (.func 42) #[] #[.pointer (some ⟨w.heap.size,0,none⟩),.pointer (some ⟨w.heap.size + 1,0,none⟩)]] w2 fun r w' => r = .returned (.bool (givenV (qs.map Em.e) e l)) ∧ Below w2.heap.size w2 w':=by
  clear hw2 b2
  go_enter Tryz.func41,Tryz.ntmps41
  go_wp2_with fail
  refine hi.mono ?_
  clear hi
  rintro r W' ⟨⟨i,rfl,hi⟩,hst⟩
  have HH:Hid (_ = _):=hi
  clear hi
  go_wp2
  go_ret
  exact ⟨by rw [← show decide (0 ≤ i) = _ from HH.out];rfl,hst⟩
 clear hi
 go_enter Tryz.func12,Tryz.ntmps12
 go_wp2_with fail
 refine hcf.mono ?_
 clear hcf
 rintro r X ⟨rfl,bX⟩
 have b9:=below_next b2 bX
 go_wp2
 go_ret
 exact ⟨rfl,b9⟩
end Go.Proofs.YtnemagmakgiheaaGreat.Mt
