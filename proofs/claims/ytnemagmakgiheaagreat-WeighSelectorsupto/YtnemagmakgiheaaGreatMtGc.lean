/- package match: the lists that lie in a selector, as an iterator. -/
import Derived.Test.YtnemagmakgiheaaGreatMtGx
import Derived.Test.YtnemagmakgiheaaGreatBsA
import Derived.Test.YtnemagmakgiheaaGreatSeqW
import Derived.Test.YtnemagmakgiheaaGreatRgn
import Derived.RangeFuncBox
import Derived.Shelf.RegionOpen
import Derived.LoopIn
import Derived.WideLaws
set_option maxRecDepth 100000
namespace Go.Proofs.YtnemagmakgiheaaGreat.Mt
open Go.Proofs.YtnemagmakgiheaaGreat.Tre
open Go Go.RowKit Go.Shelf Dm
attribute [local go_sem] Oper.semAt_some
theorem isListed_any (k a b:Int) (p:Option Addr) (m c:Nat) (w:World) :
  Calls Tryz.prog 100 #[.agg #[.int .i64 k,.int .i64 a,.int .i64 b,.slice p m c]] w fun e w' => e = .returned (.bool (decide (k = 7) || decide (k = 8))) ∧ Below w.heap.size w w':=by
 have hB:Below w.heap.size w (w.alloc (.cells #[.int .i64 k,.int .i64 a,.int .i64 b,.slice p m c] 40)):=(Below.refl _ _).alloc (Nat.le_refl _) _
 by_cases h7:k = 7
 ·subst h7
  go_enter Tryz.func100,Tryz.ntmps100
  go_wp2
  go_ret
  exact ⟨rfl,hB⟩
 ·have h7':(k == 7) = false:=by simpa using h7
  rw [decide_eq_false h7,Bool.false_or]
  go_enter Tryz.func100,Tryz.ntmps100
  go_wp2
  go_ret
  exact ⟨rfl,hB⟩
def listsTo (s:Sel) (i:Nat):List (List Sel):=listsV (s.take i)
def listsIn (p:Pt) (j:Nat):List (List Sel):=((p.2.pss.take j).filter listed).map Ps.list
theorem listsTo_all (s:Sel):listsTo s s.length = listsV s:=by simp [listsTo]
theorem listsTo_next {s:Sel} {i:Nat} {p:Pt} (h:s[i]? = some p):listsTo s (i + 1) = listsTo s i ++ listsIn p p.2.pss.length:=by
 simp [listsTo,listsV,listsIn,List.take_add_one,h]
theorem listsIn_zero (p:Pt):listsIn p 0 = []:=rfl
theorem listsIn_yes {p:Pt} {j:Nat} {q:Ps} (h:p.2.pss[j]? = some q) (hl:listed q = true):listsIn p (j + 1) = listsIn p j ++ [q.list]:=by
 simp [listsIn,List.take_add_one,h,hl]
theorem listsIn_no {p:Pt} {j:Nat} {q:Ps} (h:p.2.pss[j]? = some q) (hl:listed q = false):listsIn p (j + 1) = listsIn p j:=by
 simp [listsIn,List.take_add_one,h,hl]
theorem listsIn_rest {p:Pt} {j:Nat} {q:Ps} (h:p.2.pss[j]? = some q) (hl:listed q = true):∃ r,listsIn p p.2.pss.length = listsIn p j ++ q.list :: r:=by
 have hj:=(List.getElem?_eq_some_iff.1 h).1
 have:p.2.pss = p.2.pss.take (j + 1) ++ p.2.pss.drop (j + 1):=(List.take_append_drop _ _).symm
 refine ⟨((p.2.pss.drop (j + 1)).filter listed).map Ps.list,?_⟩
 have e:=listsIn_yes h hl
 unfold listsIn at e ⊢
 rw [List.take_length]
 conv => lhs;rw [this]
 rw [List.filter_append,List.map_append,e]
 simp
theorem listsTo_rest {s:Sel} {i:Nat} {p:Pt} (h:s[i]? = some p):∃ r,listsV s = listsTo s i ++ (listsIn p p.2.pss.length ++ r):=by
 refine ⟨listsV (s.drop (i + 1)),?_⟩
 rw [← List.append_assoc,← listsTo_next h]
 unfold listsTo listsV
 rw [← List.flatMap_append,List.take_append_drop]
set_option maxHeartbeats 4000000 in
theorem listsOf1_in (n l B n₀ d m:Nat) (s:Sel) (v:Value) (w₀:World) (hP:PartsAt d m w₀ v s) (J Jx:List (Value × List Sel) → World → Prop) (W:World) (_hB:B < n₀) (hm:m ≤ n₀) (hn₀:n₀ ≤ W.heap.size) (hW:Below m w₀ W)
  (hA:AbidesIn W.heap.size W.heap.size J)
  (hY:∀ pre x W1,J pre W1 → (SelsAt d m w₀ x.1 x.2 ∧ ∃ rest,pre.map Prod.snd ++ x.2 :: rest = listsV s) → W.heap.size ≤ W1.heap.size → YieldAt Fence.wide (n - 1) Tryz.prog l #[x.1] W1 fun e W' => (e = .returned (.bool true) ∧ J (pre ++ [x]) W' ∧ Below n₀ W1 W') ∨ (e = .returned (.bool false) ∧ Jx (pre ++ [x]) W'))
  (hc:W.cell? ⟨B,0,none⟩ = some v) (h0:J [] W) :
  CallsIn Fence.wide n Tryz.prog 99 #[.func (.yield l) #[] #[],.pointer (some ⟨B,0,none⟩)] W fun e W' => (∃ v,e = .returned v) ∧ ((∃ xs,xs.map Prod.snd = listsV s ∧ J xs W') ∨ (∃ pre,True ∧ Jx pre W')):=by
 obtain ⟨pp,cp,rfl⟩:=RowT.len hP
 have hsh:=RowT.short hP
 unfold maxLen at hsh
 refine callsIn_of_wp Tryz.func99 rfl trivial ?_ rfl
 simp only [Tryz.ntmps99,List.size_toArray,List.length_cons,List.length_nil,Nat.reduceAdd,Nat.reduceSub,Array.replicate_succ,Array.replicate_zero,List.push_toArray,List.append_toArray,List.nil_append,List.cons_append]
 have HP:Hid (PartsAt d m w₀ (.slice pp s.length cp) s):=hP
 have HA:Hid (AbidesIn W.heap.size W.heap.size J):=hA
 clear hP hA
 gi_wp2
 gi_loopw [10] (fun x wr => ∃ (i:Nat) (pre:List (Value × List Sel)),x = .int .i64 i ∧ i ≤ s.length ∧ pre.map Prod.snd = listsTo s i ∧ J pre wr ∧ Below n₀ W wr) (fun x _ => s.length - (intOf x).toNat)
 case atStart => exact ⟨0,[],rfl,Nat.zero_le _,rfl,h0,Below.refl _ _⟩
 case round =>
  obtain ⟨i,pre,rfl,hi,hpre,hJ,hb⟩:=hrel
  have hs0:=hb.size
  by_cases hlt:i < s.length
  ·obtain ⟨p,hp⟩:∃ p,s[i]? = some p:=⟨_,List.getElem?_eq_getElem hlt⟩
   obtain ⟨bk,off,vi,vc,va,vp,rfl,hbk,hcap,hmx,_,⟨x0,x1,x2,x3,x4,x5⟩,q1,q2,q3,q4,_,_⟩:=PartsAt.get HP.out hp
   have cw:∀ o,wr.cell? ⟨bk,o,none⟩ = w₀.cell? ⟨bk,o,none⟩:=fun o => (hW.trans (hb.mono hm)).cell (p:=⟨bk,o,none⟩) hbk
   rw [← cw] at x0 x1 x2 x3 x4 x5
   unfold maxLen at hmx
   have HQ:Hid (RowT 4 (PsT (SelsAt d m w₀)) m w₀ vp p.2.pss):=q4
   have hps:=RowT.short q4
   unfold maxLen at hps
   obtain ⟨p4,c4,rfl⟩:=RowT.len q4
   obtain ⟨p1,c1,rfl⟩:=SlR.len q1
   obtain ⟨p2,c2,rfl⟩:=SlR.len q2
   obtain ⟨p3,c3,rfl⟩:=SlR.len q3
   have hii:(i:Int) < (s.length:Int):=by omega
   obtain ⟨rs,hrs⟩:=listsTo_rest hp
   have HRS:Hid (_ = _):=hrs
   have HN:Hid (_ = _):=listsTo_next hp
   have HPRE:Hid (pre.map Prod.snd = listsTo s i):=hpre
   clear q1 q2 q3 q4 hc cw hrs hpre
   gi_wp2
   gi_loopw [18] (fun x wx => ∃ (j:Nat) (pre':List (Value × List Sel)),x = .int .i64 j ∧ j ≤ p.2.pss.length ∧ pre'.map Prod.snd = listsTo s i ++ listsIn p j ∧ J pre' wx ∧ Below n₀ W wx) (fun x _ => p.2.pss.length - (intOf x).toNat)
   case atStart =>
    exact ⟨0,pre,rfl,Nat.zero_le _,by rw [listsIn_zero,List.append_nil];exact HPRE.out,HA.out.alloc _ hJ,hb.alloc (by omega) _⟩
   case round =>
    clear x0 x1 x2 x3 x4 x5 HPRE hJ hb hs0
    obtain ⟨j,pre',rfl,hj,hpre,hJ,hb⟩:=hrel
    have hs0:=hb.size
    by_cases hlt2:j < p.2.pss.length
    ·obtain ⟨q,hq⟩:∃ q,p.2.pss[j]? = some q:=⟨_,List.getElem?_eq_getElem hlt2⟩
     obtain ⟨bk2,off2,vl,rfl,hbk2,hcap2,hmx2,_,hQ,y0,y1,y2,y3⟩:=pss_get HQ.out hq
     have cw:∀ o,wr.cell? ⟨bk2,o,none⟩ = w₀.cell? ⟨bk2,o,none⟩:=fun o => (hW.trans (hb.mono hm)).cell (p:=⟨bk2,o,none⟩) hbk2
     rw [← cw] at y0 y1 y2 y3
     unfold maxLen at hmx2
     obtain ⟨pl,cl,rfl⟩:=SelsAt.len hQ
     have hji:(j:Int) < (p.2.pss.length:Int):=by omega
     obtain ⟨X,hX⟩:∃ X,wr.alloc (.cells #[.int .i64 q.kind,.int .i64 q.a,.int .i64 q.b,.slice pl q.list.length cl] 40) = X:=⟨_,rfl⟩
     have kX:Blk X wr.heap.size 40 [.int .i64 q.kind,.int .i64 q.a,.int .i64 q.b,.slice pl q.list.length cl]:=by rw [← hX];exact Blk.new wr 40 _
     have bX:Below n₀ W X:=by rw [← hX];exact hb.alloc (by omega) _
     have jX:J pre' X:=by rw [← hX];exact HA.out.alloc _ hJ
     obtain ⟨⟨z0,z1,z2,z3⟩,_⟩:=blk4 kX
     have hl:=isListed_any q.kind q.a q.b pl q.list.length cl X
     have hlq:(decide (q.kind = 7) || decide (q.kind = 8)) = listed q:=rfl
     rw [hlq] at hl
     have HQ2:Hid (SelsAt d m w₀ (.slice pl q.list.length cl) q.list):=hQ
     have HPRE:Hid (pre'.map Prod.snd = listsTo s i ++ listsIn p j):=hpre
     have HY:Hid (∀ pre x W1,J pre W1 → (SelsAt d m w₀ x.1 x.2 ∧ ∃ rest,pre.map Prod.snd ++ x.2 :: rest = listsV s) → W.heap.size ≤ W1.heap.size → YieldAt Fence.wide (n - 1) Tryz.prog l #[x.1] W1 fun e W' => (e = .returned (.bool true) ∧ J (pre ++ [x]) W' ∧ Below n₀ W1 W') ∨ (e = .returned (.bool false) ∧ Jx (pre ++ [x]) W')):=hY
     clear cw hQ hpre hlq hY
     gi_wp2_with fail
     refine ⟨trivial,fun h => (by cases h),?_⟩
     refine (callsIn_wide.2 hl).mono ?_
     clear hl
     rintro e X2 ⟨rfl,b2⟩
     have k2:=kX.next b2
     have bX2:Below n₀ W X2:=bX.trans (b2.mono (Nat.le_trans hn₀ bX.size))
     have jX2:J pre' X2:=HA.out _ _ _ none jX (grown_of_below b2 none) (fun _ h => by cases h)
     obtain ⟨⟨t0,t1,t2,t3⟩,_⟩:=blk4 k2
     clear z0 z1 z2 z3 y0 y1 y2 y3 kX k2 hX b2 bX jX hJ hb
     cases hls:listed q with
     | true =>
      obtain ⟨fn,tmps,assign,body,hy,hR⟩:=HY.out pre' (.slice pl q.list.length cl,q.list) X2 jX2 ⟨HQ2.out,by
       obtain ⟨r,hr⟩:=listsIn_rest hq hls
       refine ⟨r ++ rs,?_⟩
       show _ = listsV s
       rw [show listsV s = _ from HRS.out,hr,show pre'.map Prod.snd = _ from HPRE.out]
       simp⟩ bX2.size
      have HE:Hid ((pre' ++ [(Value.slice pl q.list.length cl,q.list)]).map Prod.snd = listsTo s i ++ listsIn p (j + 1)):=by
       show _ = _
       rw [listsIn_yes hq hls,List.map_append,show pre'.map Prod.snd = _ from HPRE.out]
       simp
      clear HY HPRE hls
      gi_wp2_with fail
      refine ⟨fun h => (by cases h),hR.mono ?_⟩
      rintro e w2 (⟨rfl,hJ2,hb2⟩ | ⟨rfl,hJ2⟩)
      ·have hB2:=bX2.trans hb2
       gi_wp2
       go_roundw
       case rel => exact ⟨j + 1,_,rfl,by omega,HE.out,hJ2,hB2⟩
       case measure => simp [intOf];omega
      ·gi_wp2
       refine bodyPost_ret (results_none rfl _ _ _) rfl ?_
       exact ⟨⟨_,rfl⟩,.inr ⟨_,trivial,hJ2⟩⟩
     | false =>
      have HE:Hid (pre'.map Prod.snd = listsTo s i ++ listsIn p (j + 1)):=by
       show _ = _
       rw [listsIn_no hq hls]
       exact HPRE.out
      clear HY HPRE hls
      gi_wp2
      refine ⟨fun _ h => (by cases h),?_⟩
      gi_wp2
      go_roundw
      case rel => exact ⟨j + 1,_,rfl,by omega,HE.out,jX2,bX2⟩
      case measure => simp [intOf];omega
    ·obtain rfl:j = p.2.pss.length:=by omega
     have HE:Hid (pre'.map Prod.snd = listsTo s (i + 1)):=by rw [show listsTo s (i + 1) = _ from HN.out];exact hpre
     have hge:¬ ((p.2.pss.length:Int) < (p.2.pss.length:Int)):=by omega
     clear hpre HRS HN HQ
     gi_wp2
     go_roundw
     case rel => exact ⟨i + 1,pre',rfl,by omega,HE.out,hJ,hb⟩
     case measure => simp [intOf];omega
  ·obtain rfl:i = s.length:=by omega
   have HE:Hid (pre.map Prod.snd = listsV s):=by rw [← listsTo_all s];exact hpre
   clear hpre hc
   gi_wp2
   go_end0
   exact ⟨⟨_,rfl⟩,.inl ⟨pre,HE.out,hJ⟩⟩
theorem listsOf_in (n:Nat) (v:Value) (hv:∃ p m c,v = .slice p m c) (w:World) :
  CallsIn Fence.wide n Tryz.prog 72 #[.agg #[v]] w fun e w' => e = .returned (.func (.func 99) #[] #[.pointer (some ⟨w.heap.size,0,none⟩)]) ∧ w' = w.alloc (.cells #[v] 36):=by
 obtain ⟨p,m,c,rfl⟩:=hv
 refine callsIn_of_wp Tryz.func72 rfl trivial ?_ rfl
 simp only [Tryz.ntmps72,List.size_toArray,List.length_cons,List.length_nil,Nat.reduceAdd,Nat.reduceSub,Array.replicate_succ,Array.replicate_zero,List.push_toArray,List.append_toArray,List.nil_append,List.cons_append]
 gi_wp2
 go_ret
 exact ⟨rfl,rfl⟩
theorem egLists:∀ args w,(callFunc 99 args).run Tryz.prog w = .ok (.enter 99 args) w:=enters_of Tryz.func99 (by kernel_rfl) rfl
theorem listsOf_seq (n B n₀ d m:Nat) (s:Sel) (v:Value) (w₀:World) (hP:PartsAt d m w₀ v s) (w:World) (hB:B < n₀) (hm:m ≤ n₀) (hn₀:n₀ ≤ w.heap.size) (hW:Below m w₀ w) (hc:w.cell? ⟨B,0,none⟩ = some v) :
  SeqZ Fence.wide n Tryz.prog 99 #[.pointer (some ⟨B,0,none⟩)] (fun x:Value × List Sel => #[x.1]) n₀ (fun xs => xs.map Prod.snd = listsV s) (fun _ => True) (fun pre x => SelsAt d m w₀ x.1 x.2 ∧ ∃ rest,pre.map Prod.snd ++ x.2 :: rest = listsV s) 0 w:=fun l J Jx W hW' hJ _ hY h0 =>
 listsOf1_in n l B n₀ d m s v w₀ hP J Jx W hB hm (Nat.le_trans hn₀ hW'.size) (hW.trans (hW'.mono (Nat.le_trans hm hn₀))) hJ
  (fun pre x W1 h1 h2 h3 => (hY pre x W1 h1 h2 h3).mono (fun _ _ h => h.elim (fun h => .inl ⟨h.1,h.2.1,h.2.2.below⟩) (fun h => .inr h)))
  ((hW'.cell (p:=⟨B,0,none⟩) (by simp;omega)).trans hc) h0
end Go.Proofs.YtnemagmakgiheaaGreat.Mt
/- package match: fits at every selector. -/
namespace Go.Proofs.YtnemagmakgiheaaGreat.Mt
open Go.Proofs.YtnemagmakgiheaaGreat.Tre
open Go Go.RowKit Go.Shelf Dm
attribute [local go_sem] Oper.semAt_some
def goodL:Nat → List Sel → Bool
 | 0,_ => false
 | d + 1,l => l.all (fitsV d)
theorem fitsV_eq (d:Nat) (s:Sel):fitsV d s = (decide (s.length ≤ 50) && (listsV s).all (goodL d)):=by cases d <;> rfl
theorem results_bool {fn:Func} {p:Tmp} (h:fn.results = #[.cell p 4]) (tmps:Array Value) (W:World) (g:Nat) (v:Value) (hp:tmps.getD p undef = .pointer (some ⟨g,0,none⟩)) (hc:W.cell? ⟨g,0,none⟩ = some v):(results fn tmps).run Tryz.prog W = .ok v W:=by
 have hp':tmps[p]?.getD undef = .pointer (some ⟨g,0,none⟩):=by simpa using hp
 have hl:(loadVar 4 ⟨g,0,none⟩).run Tryz.prog W = .ok v W:=by
  simp [loadVar,isAgg,Sem.run_bind,Result.andThen,load,hc,Sem.run]
 simp [results,h,hp',asAddr,hl]
theorem all_no {α:Type} {f:α → Bool} {a b l:List α} {x:α} (h:a ++ x :: b = l) (hx:f x = false):l.all f = false:=by
 subst h
 simp [hx]
def FitsIn (d:Nat):Prop:=∀ (n dd:Nat) (_:1 ≤ n) (s:Sel) (v:Value) (w:World),PartsAt dd w.heap.size w v s →
  CallsIn Fence.wide n Tryz.prog 44 #[.agg #[v],.int .i64 ((8 - d:Nat):Int)] w fun e w' => e = .returned (.bool (fitsV d s)) ∧ Below w.heap.size w w'
set_option maxHeartbeats 8000000 in
theorem fits_step (d:Nat) (hd:d ≤ 8) (IH:∀ d',d = d' + 1 → FitsIn d'):FitsIn d:=by
 intro n dd hn s v w hP
 have HI:Hid (∀ d',d = d' + 1 → FitsIn d'):=IH
 clear IH
 obtain ⟨D,hD⟩:∃ D:Int,D = ((8 - d:Nat):Int):=⟨_,rfl⟩
 have hD8:(d = 0 → D = 8) ∧ (0 < d → D ≠ 8) ∧ 0 ≤ D ∧ D ≤ 8:=by omega
 have HD:Hid (D = ((8 - d:Nat):Int)):=hD
 rw [← hD]
 clear hD
 obtain ⟨w3,hw3⟩:∃ w3,((w.alloc (.cells #[v] 36)).alloc (.cells #[.int .i64 D] 3)).alloc (.cells #[.bool false] 4) = w3:=⟨_,rfl⟩
 have hs3:w3.heap.size = w.heap.size + 3:=by rw [← hw3];simp
 have hB3:Below w.heap.size w w3:=by rw [← hw3];exact (((Below.refl _ w).alloc (Nat.le_refl _) _).alloc (by simp) _).alloc (by simp;omega) _
 have bS3:Boxed w3 w.heap.size 36 v:=by rw [← hw3];exact ((Boxed.new _ _ _).alloc _).alloc _
 have bD3:Boxed w3 (w.heap.size + 1) 3 (.int .i64 D):=by
  rw [← hw3]
  have:=(Boxed.new (w.alloc (.cells #[v] 36)) 3 (.int .i64 D)).alloc (.cells #[.bool false] 4)
  rwa [World.size_alloc] at this
 have bR3:Boxed w3 (w.heap.size + 2) 4 (.bool false):=by
  rw [← hw3]
  have:=Boxed.new ((w.alloc (.cells #[v] 36)).alloc (.cells #[.int .i64 D] 3)) 4 (.bool false)
  rwa [World.size_alloc,World.size_alloc] at this
 have HP:Hid (PartsAt dd w.heap.size w v s):=hP
 obtain ⟨pv,cv,rfl⟩:=RowT.len hP
 have cS3:=bS3.cell
 have cD3:=bD3.cell
 have cR3:=bR3.cell
 have fR3:=bR3.frozen
 clear hP
 refine callsIn_of_wp_marks Tryz.func44 rfl trivial ?_ rfl
 simp only [Tryz.ntmps44,List.size_toArray,List.length_cons,List.length_nil,Nat.reduceAdd,Nat.reduceSub,Array.replicate_succ,Array.replicate_zero,List.push_toArray,List.append_toArray,List.nil_append,List.cons_append]
 by_cases hlen:s.length ≤ 50
 ·have hgt:¬ ((50:Int) < (s.length:Int)):=by omega
  obtain ⟨w4,hw4⟩:∃ w4,w3.alloc (.cells #[.slice pv s.length cv] 36) = w4:=⟨_,rfl⟩
  have hs4:w4.heap.size = w.heap.size + 4:=by rw [← hw4];simp [hs3]
  have bS4:Boxed w4 (w.heap.size + 3) 36 (.slice pv s.length cv):=by
   rw [← hw4]
   have:=Boxed.new w3 36 (.slice pv s.length cv)
   rwa [hs3] at this
  have bD4:Boxed w4 (w.heap.size + 1) 3 (.int .i64 D):=by rw [← hw4];exact bD3.alloc _
  have bR4:Boxed w4 (w.heap.size + 2) 4 (.bool false):=by rw [← hw4];exact bR3.alloc _
  have hB4:Below w.heap.size w w4:=by rw [← hw4];exact hB3.alloc (by omega) _
  have hseq:=listsOf_seq (n - 1) (w.heap.size + 3) w4.heap.size dd w.heap.size s _ w HP.out w4 (by omega) (by omega) (Nat.le_refl _) hB4 bS4.cell
  have hlo:=listsOf_in (n - 1) (.slice pv s.length cv) ⟨_,_,_,rfl⟩ w3
  rw [hw4,hs3] at hlo
  obtain ⟨res,hres⟩:∃ r,r = fitsV d s:=⟨_,rfl⟩
  have HR:Hid (res = (listsV s).all (goodL d)):=by
   show _ = _
   rw [hres,fitsV_eq,decide_eq_true hlen,Bool.true_and]
  rw [← hres]
  clear hres hw4
  gi_wp2_with fail
  refine ⟨trivial,?_⟩
  refine hlo.mono ?_
  clear hlo
  rintro e W' ⟨rfl,rfl⟩
  clear cS3 cD3 cR3 fR3 bS3 bD3 bR3 hw3
  gi_wp2
  refine wpIn_rangeFunc_Z rfl hn (gf:=99) (lb:=#[.pointer (some ⟨w.heap.size + 3,0,none⟩)]) rfl trivial egLists hseq (Nat.le_refl _) (Below.refl _ _) (fun _ => rfl)
   (fun pre X => (pre.map Prod.snd).all (goodL d) = true ∧ Boxed X (w.heap.size + 1) 3 (.int .i64 D) ∧ Boxed X (w.heap.size + 2) 4 (.bool false) ∧ Below w.heap.size w X)
   (fun _ X => res = false ∧ Boxed X (w.heap.size + 2) 4 (.bool false) ∧ Below w.heap.size w X)
   ?hI ?hIx ⟨rfl,bD4,bR4,hB4⟩
   (fun x => { tmps:=#[.agg #[.slice pv s.length cv],.int .i64 D,.pointer (some ⟨w.heap.size,0,none⟩),.pointer (some ⟨w.heap.size + 1,0,none⟩),.pointer (some ⟨w.heap.size + 2,0,none⟩),x.1,undef,undef,.pointer (some ⟨w.heap.size,0,none⟩),.slice pv s.length cv,.int .i64 s.length,.bool false,.agg #[.slice pv s.length cv],.func (.func 99) #[] #[.pointer (some ⟨w.heap.size + 3,0,none⟩)],x.1,undef,undef,undef,undef,undef,undef,undef,undef,undef,undef,undef,undef,undef,undef],defers:=[] }) ?assign ?body ?done ?stop
  case hI =>
   rintro p X Y row ⟨h1,h2,h3,h5⟩ hg hr
   have far:∀ b,b < w.heap.size + 4 → some b ≠ row:=fun b hb e => by have:=hr b e.symm;omega
   exact ⟨h1,h2.kept hg (far _ (by omega)),h3.kept hg (far _ (by omega)),h5.grown hg h5.size (fun r e => by have:=hr r e;omega)⟩
  case hIx =>
   rintro p X Y row ⟨h1,h3,h5⟩ hg hr
   have far:∀ b,b < w.heap.size + 4 → some b ≠ row:=fun b hb e => by have:=hr b e.symm;omega
   exact ⟨h1,h3.kept hg (far _ (by omega)),h5.grown hg h5.size (fun r e => by have:=hr r e;omega)⟩
  case assign =>
   intro l x X K hK
   gi_wp2
   exact hK
  case body =>
   rintro l' pre x X ⟨h1,h2,h4,h5⟩ ⟨hsel,rest,hok⟩ hsz
   have c2:=h2.cell
   have c4:=h4.cell
   have f4:=h4.frozen
   have keepN:∀ Y,Below X.heap.size X Y → KeepsIn W'.heap.size W'.heap.size (W'.heap.size + 2 + 0) X Y:=fun Y hY => ⟨hY.mono (by omega),fun r r1 r2 => hY.block r (by omega)⟩
   have KN:Hid (∀ Y,Below X.heap.size X Y → KeepsIn W'.heap.size W'.heap.size (W'.heap.size + 2 + 0) X Y):=keepN
   have STOP:Hid (∀ Y,Below X.heap.size X Y → goodL d x.2 = false → KeepsIn 0 W'.heap.size (W'.heap.size + 2 + 0) X (Y.setCell ⟨w.heap.size + 2,0,none⟩ (.bool false)) ∧ res = false ∧ Boxed (Y.setCell ⟨w.heap.size + 2,0,none⟩ (.bool false)) (w.heap.size + 2) 4 (.bool false) ∧ Below w.heap.size w (Y.setCell ⟨w.heap.size + 2,0,none⟩ (.bool false))):=by
    intro Y hY hg
    have g2:=grownBy_setCell' Y (w.heap.size + 2) (.bool false)
    have hs1:=hY.size
    have h5s:=h5.size
    have b4:Boxed Y (w.heap.size + 2) 4 (.bool false):=h4.kept (grown_of_below hY none) (by simp)
    have hBY:Below w.heap.size w Y:=below_next h5 hY
    refine ⟨⟨((hY.mono (Nat.zero_le _)).trans ((Below.refl 0 Y).grown g2 (Nat.zero_le _) (fun r e => Nat.zero_le _))),fun r r1 r2 => ?_⟩,?_,b4.set _,hBY.grown g2 hBY.size (fun r e => by cases e;omega)⟩
    ·exact (g2.block r (by omega) (by simp;omega)).trans (hY.block r (by omega))
    ·rw [show res = _ from HR.out]
     exact all_no hok hg
   have NEXT:Hid (∀ Y,Below X.heap.size X Y → goodL d x.2 = true → KeepsIn W'.heap.size W'.heap.size (W'.heap.size + 2 + 0) X Y ∧ ((pre ++ [x]).map Prod.snd).all (goodL d) = true ∧ Boxed Y (w.heap.size + 1) 3 (.int .i64 D) ∧ Boxed Y (w.heap.size + 2) 4 (.bool false) ∧ Below w.heap.size w Y):=by
    intro Y hY hg
    refine ⟨keepN Y hY,?_,h2.kept (grown_of_below hY none) (by simp),h4.kept (grown_of_below hY none) (by simp),below_next h5 hY⟩
    rw [List.map_append,List.all_append,h1]
    simp [hg]
   have HS:Hid (SelsAt dd w.heap.size X x.1 x.2):=SelsAt.below dd hsel h5
   obtain ⟨px,cx,hxv⟩:=SelsAt.len hsel
   have hxs:=SelsAt.short hsel
   unfold maxLen at hxs
   rw [hxv]
   clear hseq hok hsel keepN h1
   cases d with
   | zero =>
    have hD0:=hD8.1 rfl
    have FIN:=STOP.out X (Below.refl _ _) rfl
    have HF:Hid _:=FIN
    rw [hD0] at c2
    clear FIN hD8 STOP NEXT
    gi_wp2
    exact HF.out
   | succ d =>
    have hne:(D == 8) = false:=by have:=hD8.2.1 (by omega);simpa using this
    have hw1:IntKind.i64.wrap (D + 1) = D + 1:=by rw [IntKind.wrap_i64];omega
    have HD1:Hid (D + 1 = ((8 - d:Nat):Int)):=by have:=HD.out;show _ = _;omega
    gi_wp2
    gi_loopw [19] (fun y wr => ∃ i:Nat,y = .int .i64 i ∧ i ≤ x.2.length ∧ (x.2.take i).all (fitsV d) = true ∧ Below X.heap.size X wr) (fun y _ => x.2.length - (intOf y).toNat)
    case atStart => exact ⟨0,rfl,Nat.zero_le _,rfl,Below.refl _ _⟩
    case round =>
     clear c2 c4 f4
     obtain ⟨i,rfl,hi,hall,hb⟩:=hrel
     by_cases hlt:i < x.2.length
     ·obtain ⟨y,hy⟩:∃ y,x.2[i]? = some y:=⟨_,List.getElem?_eq_getElem hlt⟩
      obtain ⟨px',rfl⟩:∃ p',p' = px:=⟨_,rfl⟩
      have hS2:=HS.out
      rw [hxv] at hS2
      obtain ⟨d',_,bk,off,xv,rfl,hbk,hcap,hmx,hPy,y0⟩:=SelsAt.get hS2 hy
      unfold maxLen at hmx
      have h5s:=h5.size
      have hbs:=hb.size
      have y1:=(hb.cell (p:=⟨bk,off + i,none⟩) (by simp;omega)).trans y0
      have c2:=(h2.kept (grown_of_below hb none) (by simp)).cell
      have c4:=(h4.kept (grown_of_below hb none) (by simp)).cell
      have f4:=(h4.kept (grown_of_below hb none) (by simp)).frozen
      obtain ⟨pq,cq,rfl⟩:=RowT.len hPy
      have hii:(i:Int) < (x.2.length:Int):=by omega
      obtain ⟨Y,hY⟩:∃ Y,wr.alloc (.cells #[.slice pq y.length cq] 36) = Y:=⟨_,rfl⟩
      have kY:Boxed Y wr.heap.size 36 (.slice pq y.length cq):=by rw [← hY];exact Boxed.new _ _ _
      have bY:Below X.heap.size X Y:=by rw [← hY];exact hb.alloc (by omega) _
      have cY:=kY.cell
      have c2Y:Y.cell? ⟨w.heap.size + 1,0,none⟩ = some (.int .i64 D):=(h2.kept (grown_of_below bY none) (by simp)).cell
      have hf:=HI.out d rfl 1 d' (Nat.le_refl _) y _ Y ((hPy.below (bY.mono h5s)).mono (Nat.le_trans h5s bY.size))
      have hDD:=HD1.out
      rw [← show D + 1 = _ from hDD] at hf
      have HALL:Hid ((x.2.take i).all (fitsV d) = true):=hall
      have HYY:Hid (x.2[i]? = some y):=hy
      clear hS2 hPy y0 hDD hall hy hb
      gi_wp2_with fail
      refine ⟨trivial,fun h => (by cases h),?_⟩
      refine (CallsIn.inRound l' (callsIn_wide.2 (callsIn_wide.1 hf))).mono ?_
      clear hf
      rintro e Z ⟨rfl,bz⟩
      have bZ:Below X.heap.size X Z:=below_next bY bz
      have f4Z:=(h4.kept (grown_of_below bZ none) (by simp)).frozen
      have c4Z:=(h4.kept (grown_of_below bZ none) (by simp)).cell
      clear c2 c4 f4 y1 cY c2Y kY hY bY bz
      cases hv:fitsV d y with
      | true =>
       have HE:Hid ((x.2.take (i + 1)).all (fitsV d) = true):=by
        show _ = _
        rw [List.take_add_one,show x.2[i]? = some y from HYY.out,List.all_append,show (x.2.take i).all (fitsV d) = true from HALL.out]
        simp [hv]
       clear hv HALL HYY
       gi_wp2
       go_roundw
       case rel => exact ⟨i + 1,rfl,by omega,HE.out,bZ⟩
       case measure => simp [intOf];omega
      | false =>
       have HF:Hid _:=STOP.out Z bZ (by
        show x.2.all (fitsV d) = false
        rw [List.all_eq_false]
        exact ⟨y,List.mem_of_getElem? HYY.out,by simp [hv]⟩)
       clear hv HALL HYY STOP NEXT
       gi_wp2
       exact HF.out
     ·obtain rfl:i = x.2.length:=by omega
      rw [List.take_length] at hall
      have HF:Hid _:=NEXT.out wr hb hall
      clear hall STOP NEXT
      gi_wp2
      exact HF.out
  case done =>
   rintro ys X hys ⟨h1,h2,h4,h5⟩ hK
   have hTl:res = true:=by rw [show res = _ from HR.out,← hys];exact h1
   have c4:=h4.cell
   have f4:=h4.frozen
   have g2:=grownBy_setCell' X (w.heap.size + 2) (.bool true)
   have hK2:=(g2.block W'.heap.size (Array.getElem?_eq_some_iff.1 hK).1 (by simp;omega)).trans hK
   have b4:=h4.set (.bool true)
   have hb4:=h5.grown g2 h5.size (fun r e => by cases e;omega)
   clear hseq
   gi_wp2
   refine ⟨by simp,.inl ⟨_,_,rfl,run_takeDeferred hK2,?_⟩⟩
   have g3:=grownBy_putObj' (X.setCell ⟨w.heap.size + 2,0,none⟩ (.bool true)) W'.heap.size (.deferred none)
   have b5:=b4.kept g3 (by simp;omega)
   refine ⟨_,results_bool rfl _ _ (w.heap.size + 2) _ rfl b5.cell,by rw [hTl],hb4.grown g3 (by have:=hb4.size;omega) (fun r e => by cases e;omega)⟩
  case stop =>
   rintro pre X _ ⟨hTl,h4,h5⟩ hK
   clear hseq
   gi_wp2
   refine ⟨by simp,.inl ⟨_,_,rfl,run_takeDeferred hK,?_⟩⟩
   have g3:=grownBy_putObj' X W'.heap.size (.deferred none)
   have b5:=h4.kept g3 (by simp;omega)
   exact ⟨_,results_bool rfl _ _ (w.heap.size + 2) _ rfl b5.cell,by rw [hTl],h5.grown g3 h5.size (fun r e => by cases e;omega)⟩
 ·have hgt:((50:Int) < (s.length:Int)):=by omega
  rw [fitsV_eq,decide_eq_false hlen,Bool.false_and]
  have hb4:=hB3.grown (grownBy_setCell' w3 (w.heap.size + 2) (.bool false)) hB3.size (fun r e => by cases e;omega)
  have b4:=bR3.set (.bool false)
  gi_wp2
  exact ⟨_,results_bool rfl _ _ (w.heap.size + 2) _ rfl b4.cell,rfl,hb4⟩
theorem fits_all:∀ d,d ≤ 8 → FitsIn d
 | 0,h => fits_step 0 h (fun _ e => by cases e)
 | d + 1,h => fits_step (d + 1) h (fun d' e => by cases e;exact fits_all d (by omega))
theorem fits_any (d:Nat) (s:Sel) (v:Value) (w:World) (hP:PartsAt d w.heap.size w v s) :
  Calls Tryz.prog 44 #[.agg #[v],.int .i64 0] w fun e w' => e = .returned (.bool (fitsV 8 s)) ∧ Below w.heap.size w w':=
 callsIn_wide.1 (fits_all 8 (Nat.le_refl _) 1 d (Nat.le_refl _) s v w hP)
end Go.Proofs.YtnemagmakgiheaaGreat.Mt
/- package match: places of elements. -/
namespace Go.Proofs.YtnemagmakgiheaaGreat.Mt
open Go.Proofs.YtnemagmakgiheaaGreat.Tre
open Go Go.RowKit Dm
theorem wrapU (x:Int):IntKind.u64.wrap x = x % 18446744073709551616:=by simp [IntKind.wrap,IntKind.bits,IntKind.signed]
theorem wrapU_sub {p b:Int} (hp:i64 p) (hb:i64 b) (h:b ≤ p):IntKind.u64.wrap (IntKind.u64.wrap p - IntKind.u64.wrap b) = p - b:=by
 unfold i64 at hp hb
 rw [wrapU,wrapU,wrapU]
 omega
theorem wrapU_neg {a:Int} (ha:i64 a) (h:a < 0):IntKind.u64.wrap (-IntKind.u64.wrap a) = -a:=by
 unfold i64 at ha
 rw [wrapU,wrapU]
 omega
set_option maxHeartbeats 2000000 in
theorem isInRow_any (p a b:Int) (hp:i64 p) (ha:i64 a) (hb:i64 b) (w:World) :
  Calls Tryz.prog 172 #[.int .i64 p,.int .i64 a,.int .i64 b] w fun e w' => e = .returned (.bool (inRowV p a b)) ∧ w' = w:=by
 have hs1:=fun h => wrapU_sub (p:=p) (b:=b) hp hb h
 have hs2:=fun h => wrapU_sub (p:=b) (b:=p) hb hp h
 have hn:=fun h => wrapU_neg (a:=a) ha h
 unfold i64 at hp ha hb
 unfold inRowV
 by_cases h0:0 < a
 ·rw [if_pos h0]
  by_cases h1:b ≤ p
  ·have hs:=hs1 h1
   have hV:decide (b ≤ p ∧ (p - b) % a = 0) = ((p - b) % a == 0):=by
    rw [Bool.eq_iff_iff]
    simp [h1]
   rw [hV]
   clear hs1 hs2 hn hV
   go_enter Tryz.func172,Tryz.ntmps172
   go_wp2
   go_ret
   exact ⟨rfl,rfl⟩
  ·have hb2:p < b:=by omega
   clear hs1 hs2 hn
   rw [decide_eq_false (fun h => h1 h.1)]
   go_enter Tryz.func172,Tryz.ntmps172
   go_wp2
   go_ret
   exact ⟨rfl,rfl⟩
 ·rw [if_neg h0]
  by_cases h2:a < 0
  ·rw [if_pos h2]
   by_cases h1:p ≤ b
   ·have hs:=hs2 h1
    have hm:=hn h2
    have hm0:¬ (-a = 0):=by omega
    have hm1:¬ (a = 0):=by omega
    obtain ⟨m,hm2⟩:∃ m,-a = m:=⟨_,rfl⟩
    rw [hm2] at hm hm0
    have hV:decide (p ≤ b ∧ (b - p) % -a = 0) = ((b - p) % m == 0):=by
     rw [hm2,Bool.eq_iff_iff]
     simp [h1]
    rw [hV]
    clear hs1 hs2 hn hV hm2
    go_enter Tryz.func172,Tryz.ntmps172
    go_wp2
    go_ret
    exact ⟨rfl,rfl⟩
   ·have hb2:b < p:=by omega
    clear hs1 hs2 hn
    rw [decide_eq_false (fun h => h1 h.1)]
    go_enter Tryz.func172,Tryz.ntmps172
    go_wp2
    go_ret
    exact ⟨rfl,rfl⟩
  ·rw [if_neg h2]
   clear hs1 hs2 hn
   go_enter Tryz.func172,Tryz.ntmps172
   go_wp2
   go_ret
   exact ⟨rfl,rfl⟩
section
variable (E:Env) (hE:EnvOk E) (w:World) (hT:Tr E.b w E.tb E.g E.cap E.qs)
include hT
theorem isFirst_any (e:Int):Calls Tryz.prog 169 #[.pointer (some ⟨E.tb,0,none⟩),.int .i64 e] w fun x w' => x = .returned (.bool (firstV E.es e)) ∧ w' = w:=by
 have hp:=place_any E.b E.tb E.g E.cap E.qs e w hT
 unfold firstV Env.es
 clear hT
 go_enter Tryz.func169,Tryz.ntmps169
 go_wp2_with fail
 refine hp.mono ?_
 clear hp
 rintro x w' ⟨rfl,rfl⟩
 go_wp2
 go_ret
 exact ⟨rfl,rfl⟩
include hE
set_option maxHeartbeats 1000000 in
theorem isLast_any (e:Int):Calls Tryz.prog 170 #[.pointer (some ⟨E.tb,0,none⟩),.int .i64 e] w fun x w' => x = .returned (.bool (lastV E.es e)) ∧ Below w.heap.size w w':=by
 have hp:=place_any E.b E.tb E.g E.cap E.qs e w hT
 have hq:=parent_any E.b E.tb E.g E.cap E.qs e w hT
 have hc:=children_any E.b E.tb E.g E.cap E.qs (parentV E.es e) w hT hE.ok hE.few
 unfold lastV
 unfold Env.es at *
 generalize parentV (E.qs.map Em.e) e = P at *
 generalize placeV (E.qs.map Em.e) e = L at *
 generalize childrenV (E.qs.map Em.e) P = C at *
 clear hT hE
 by_cases h:P = -1
 ·subst h
  rw [decide_eq_true rfl,Bool.true_or]
  clear hp hc
  go_enter Tryz.func170,Tryz.ntmps170
  go_wp2_with fail
  refine hq.mono ?_
  clear hq
  rintro x w' ⟨rfl,rfl⟩
  go_wp2
  go_ret
  exact ⟨rfl,Below.refl _ _⟩
 ·rw [decide_eq_false h,Bool.false_or]
  have hne:(P == -1) = false:=by simpa using h
  go_enter Tryz.func170,Tryz.ntmps170
  go_wp2_with fail
  refine hq.mono ?_
  clear hq
  rintro x w' ⟨rfl,rfl⟩
  go_wp2_with fail
  refine hp.mono ?_
  clear hp
  rintro x w2 ⟨rfl,rfl⟩
  go_wp2_with fail
  refine hc.mono ?_
  clear hc
  rintro x w3 ⟨v',rfl,hv,b3⟩
  unfold IntRow at hv
  rw [chI_len] at hv
  obtain ⟨pv,cv,rfl⟩:=owns_form hv
  clear hv
  go_wp2
  go_ret
  exact ⟨rfl,b3⟩
set_option maxHeartbeats 4000000 in
theorem isPlaced_any (e:Int) (p:Ps) (pl:Option Addr) (m c:Nat) (hp:i64 p.a ∧ i64 p.b):Calls Tryz.prog 146 #[.pointer (some ⟨E.tb,0,none⟩),.int .i64 e,.agg #[.int .i64 p.kind,.int .i64 p.a,.int .i64 p.b,.slice pl m c]] w fun x w' => x = .returned (.bool (placedV E.es e p)) ∧ Below w.heap.size w w':=by
 obtain ⟨w1,hw1⟩:∃ w1,w.alloc (.cells #[.int .i64 p.kind,.int .i64 p.a,.int .i64 p.b,.slice pl m c] 40) = w1:=⟨_,rfl⟩
 have k1:Blk w1 w.heap.size 40 [.int .i64 p.kind,.int .i64 p.a,.int .i64 p.b,.slice pl m c]:=by rw [← hw1];exact Blk.new w 40 _
 have b1:Below w.heap.size w w1:=by rw [← hw1];exact (Below.refl _ _).alloc (Nat.le_refl _) _
 have hT1:=hT.next b1
 have hpl:=fun n => place_any E.b E.tb E.g E.cap E.qs e (w1.drewN n) (hT1.drewN n)
 have hpa:=parent_any E.b E.tb E.g E.cap E.qs e w1 hT1
 have hch:=children_any E.b E.tb E.g E.cap E.qs e w1 hT1 hE.ok hE.few
 have hfi:=isFirst_any E w1 hT1 e
 have hla:=isLast_any E hE w1 hT1 e
 obtain ⟨⟨c0,c1,c2,c3⟩,_⟩:=blk4 k1
 have hPl:i64 (placeV E.es e):=by
  unfold placeV i64
  cases h:elAt E.es e with
  | none => simp
  | some q =>
   have hq:q ∈ E.es:=by
    unfold elAt at h
    split at h
    ·exact List.mem_of_getElem? h
    ·cases h
   obtain ⟨j,hj⟩:=List.getElem?_of_mem hq
   have hlen:=hE.few
   have hel:E.es.length = E.qs.length:=List.length_map ..
   simp only [Option.map_some,Option.getD_some]
   rcases Nat.eq_zero_or_pos j with rfl | hj0
   ·have:=(hE.ok.root q hj).2.2
    omega
   ·obtain ⟨p',q',_,_,hq',_,h1,h2⟩:=hE.ok.par j q hj hj0
    have h3:=hE.ok.few p' q' hq'
    have h4:=(List.getElem?_eq_some_iff.1 h2).1
    omega
 have hro:=fun W => isInRow_any (placeV E.es e) p.a p.b hPl hp.1 hp.2 W
 unfold placedV
 unfold Env.es at *
 generalize inRowV (placeV (E.qs.map Em.e) e) p.a p.b = R at *
 generalize parentV (E.qs.map Em.e) e = P at *
 generalize placeV (E.qs.map Em.e) e = L at *
 generalize firstV (E.qs.map Em.e) e = F at *
 generalize lastV (E.qs.map Em.e) e = T at *
 generalize childrenV (E.qs.map Em.e) e = C at *
 generalize p.kind = k at *
 clear hT hE hT1 hPl hp k1
 by_cases h1:k = 1
 ·subst h1
  rw [if_pos rfl]
  clear hpl hch hfi hla hro
  go_enter Tryz.func146,Tryz.ntmps146
  go_wp2_with fail
  refine hpa.mono ?_
  clear hpa
  rintro x w' ⟨rfl,rfl⟩
  go_wp2
  go_ret
  exact ⟨rfl,b1⟩
 rw [if_neg h1]
 have e1:(k == 1) = false:=by simpa using h1
 clear hpa h1
 by_cases h1:k = 2
 ·subst h1
  rw [if_pos rfl]
  clear hpl hch hla hro
  go_enter Tryz.func146,Tryz.ntmps146
  go_wp2_with fail
  refine hfi.mono ?_
  clear hfi
  rintro x w' ⟨rfl,rfl⟩
  go_wp2
  go_ret
  exact ⟨rfl,b1⟩
 rw [if_neg h1]
 have e2:(k == 2) = false:=by simpa using h1
 clear h1
 by_cases h1:k = 3
 ·subst h1
  rw [if_pos rfl]
  clear hpl hch hfi hro
  go_enter Tryz.func146,Tryz.ntmps146
  go_wp2_with fail
  refine hla.mono ?_
  clear hla
  rintro x w' ⟨rfl,b2⟩
  have b3:=below_next b1 b2
  go_wp2
  go_ret
  exact ⟨rfl,b3⟩
 rw [if_neg h1]
 have e3:(k == 3) = false:=by simpa using h1
 clear h1
 by_cases h1:k = 4
 ·subst h1
  rw [if_pos rfl]
  clear hpl hch hro
  go_enter Tryz.func146,Tryz.ntmps146
  go_wp2_with fail
  refine hfi.mono ?_
  clear hfi
  rintro x w' ⟨rfl,rfl⟩
  cases F with
  | true =>
   go_wp2_with fail
   refine hla.mono ?_
   clear hla
   rintro x w' ⟨rfl,b2⟩
   have b3:=below_next b1 b2
   go_wp2
   go_ret
   exact ⟨rfl,b3⟩
  | false =>
   clear hla
   go_wp2
   go_ret
   exact ⟨rfl,b1⟩
 rw [if_neg h1]
 have e4:(k == 4) = false:=by simpa using h1
 clear h1 hla hfi
 by_cases h1:k = 5
 ·subst h1
  rw [if_pos rfl]
  clear hpl hro
  go_enter Tryz.func146,Tryz.ntmps146
  go_wp2_with fail
  refine hch.mono ?_
  clear hch
  rintro x w' ⟨v',rfl,hv,b2⟩
  have b3:=below_next b1 b2
  unfold IntRow at hv
  rw [chI_len] at hv
  obtain ⟨pv,cv,rfl⟩:=owns_form hv
  have hz:((C.length:Int) == 0) = decide (C.length = 0):=by rw [Bool.eq_iff_iff];simp
  clear hv
  go_wp2
  go_ret
  exact ⟨by simp,b3⟩
 rw [if_neg h1]
 have e5:(k == 5) = false:=by simpa using h1
 clear h1 hch
 by_cases h1:k = 6
 ·subst h1
  rw [if_pos rfl]
  go_enter Tryz.func146,Tryz.ntmps146
  go_wp2
  go_quiet (first | (go_at_call 173;exact Calls.quiet_of_same (hpl _)) | (go_at_call 172;exact Calls.quiet_of_same (hro _)))
  go_wp2
  go_ret
  exact ⟨rfl,below_drewN' b1 _⟩
 rw [if_neg h1]
 have e6:(k == 6) = false:=by simpa using h1
 clear hpl hro
 go_enter Tryz.func146,Tryz.ntmps146
 go_wp2
 go_ret
 exact ⟨rfl,b1⟩
end
end Go.Proofs.YtnemagmakgiheaaGreat.Mt

/- package match: foundOf: the verdicts of a part. -/
set_option maxRecDepth 100000
namespace Go.Proofs.YtnemagmakgiheaaGreat.Mt
open Go.Proofs.YtnemagmakgiheaaGreat.Tre
open Go Go.RowKit Dm
def reps {α:Type} (n:Nat) (z:α):List α:=List.replicate n z
theorem reps_get {α:Type} {n i:Nat} {z x:α} (h:(reps n z)[i]? = some x):x = z:=by
 unfold reps at h
 rw [List.getElem?_replicate] at h
 split at h
 ·exact (Option.some.inj h).symm
 ·cases h
theorem reps_len {α:Type} (n:Nat) (z:α):(reps n z).length = n:=List.length_replicate ..
theorem made_one (z:Value) (n:Nat):madeCells #[z] n = (reps n z).toArray:=by
 apply Array.ext
 ·simp [madeCells,reps]
 ·intro i h1 h2
  simp [madeCells,Nat.mod_one,reps]
theorem infoRow:(Tryz.prog.info? 180).map (fun i => (i.zero,i.size,i.bytes)) = some (some (.slice none 0 0),1,24):=by kernel_rfl
theorem infoVd:(Tryz.prog.info? 182).map (fun i => (i.zero,i.size,i.bytes)) = some (some (.int .u8 0),1,1):=by kernel_rfl
theorem infoPtr:(Tryz.prog.info? 129).map (fun i => (i.zero,i.size,i.bytes)) = some (some (.pointer none),1,8):=by kernel_rfl
theorem make_of {t e:TypeId} {z:Value} {by_:Nat} (ht:Tryz.prog.underlying t = some (.slice e)) (hinfo:(Tryz.prog.info? e).map (fun i => (i.zero,i.size,i.bytes)) = some (some z,1,by_)) (hz:z.cells = #[z]) (n:Nat) (hn:n * by_ ≤ 281474976710656) (hn2:n ≤ 9223372036854775807) (w:World) :
  (Instr.makeSlice t (.int .i64 n) (.int .i64 n)).run Tryz.prog w = .ok (wide w.heap.size n) (w.alloc (.cells (reps n z).toArray e)):=by
 obtain ⟨i0,hi,hz0,hz1,hz2⟩:=info_parts hinfo
 have:=run_make w t e i0 z ht hi hz0 .i64 .i64 (n:Int) (n:Int) (by omega) (Int.le_refl _) (by rw [hz2,Int.mul_comm];omega) (by omega)
 rw [this,Int.toNat_natCast,hz1,Nat.mul_one,hz,made_one]
 rfl
theorem eqInNil {t e:TypeId} (ht:Tryz.prog.underlying t = some (.slice e)) (d:Nat) (w:World) (p:Option Addr) (n c:Nat):(Op.equalIn (d + 1) t (.slice p n c) (.slice none 0 0)).run Tryz.prog w = .ok p.isNone w:=by
 cases p <;> simp [Op.equalIn,run_underlying ht]
theorem eqlNil {t e:TypeId} (ht:Tryz.prog.underlying t = some (.slice e)) (w:World) (p:Option Addr) (n c:Nat):(binOp .eql t (.slice p n c) (.slice none 0 0)).run Tryz.prog w = .ok (.bool p.isNone) w:=by
 simp only [binOp]
 simp [show Op.equal t (.slice p n c) (.slice none 0 0) = Op.equalIn (9999 + 1) t (.slice p n c) (.slice none 0 0) from rfl,eqInNil ht 9999 w p n c]
theorem blk_alloc {W:World} {B:Nat} {t:TypeId} {cs:List Value} (h:Blk W B t cs) (o:Obj):Blk (W.alloc o) B t cs:=h.next ((Below.refl _ W).alloc (Nat.le_refl _) o)
theorem step_outer {E:Env} {γ:Ghost} {W:World} (hI:Inv E γ W) {A:Nat} {s:Sel} {pv:Value} {f:Nat} (hA:γ A = some (.asked s pv f)) {lv:Value} (kA:Blk W A 91 [ptrV E.tb,pv,.slice none 0 0,lv])
  (hlv:lv = .map none ∨ ∃ M,lv = .map (some M) ∧ γ M = some (.mapr A)) :
  Step E γ W (addG γ W.heap.size (.outer A)) ((W.alloc (.cells (reps s.length (.slice none 0 0)).toArray 180)).setCell ⟨A,2,none⟩ (wide W.heap.size s.length)) ∧
   Blk ((W.alloc (.cells (reps s.length (.slice none 0 0)).toArray 180)).setCell ⟨A,2,none⟩ (wide W.heap.size s.length)) A 91 [ptrV E.tb,pv,wide W.heap.size s.length,lv]:=by
 have hlt:=hI.lt hA
 obtain ⟨hP,hf,_⟩:=(hI.each A _ hA).2.choose_spec.2
 have h1:Step E γ W (addG γ W.heap.size (.outer A)) (W.alloc (.cells (reps s.length (.slice none 0 0)).toArray 180)):=by
  refine hI.add (Nat.le_refl _) ((Below.refl _ W).alloc (Nat.le_refl _) _) (heap_alloc_new W _) ⟨s,pv,f,?_,_,rfl,reps_len _ _,fun k r hr => ?_⟩
  ·exact addG_mono hI (Nat.le_refl _) _ _ _ hA
  ·exact .inl (reps_get hr)
 have hA1:addG γ W.heap.size (.outer A) A = some (.asked s pv f):=addG_mono hI (Nat.le_refl _) _ _ _ hA
 have k1:=blk_put (blk_alloc kA (.cells (reps s.length (.slice none 0 0)).toArray 180)) 2 (wide W.heap.size s.length)
 refine ⟨h1.trans (h1.inv.put hA1 (grown_set _ _ _ _) k1 ⟨hP,hf,_,_,rfl,.inr ⟨_,rfl,addG_same _ _ _⟩,?_⟩),k1⟩
 rcases hlv with h | ⟨M,h,hM⟩
 ·exact .inl h
 ·exact .inr ⟨M,h,addG_mono hI (Nat.le_refl _) _ _ _ hM⟩
theorem step_verd {E:Env} {γ:Ghost} {W:World} (hI:Inv E γ W) {A F k:Nat} {s:Sel} {pv:Value} {f:Nat} (hA:γ A = some (.asked s pv f)) (hF:γ F = some (.outer A)) {rows:List Value} (kF:Blk W F 180 rows) (hk:k < s.length) :
  Step E γ W (addG γ W.heap.size (.verd A k)) ((W.alloc (.cells (reps E.qs.length (.int .u8 0)).toArray 182)).setCell ⟨F,k,none⟩ (wide W.heap.size E.qs.length)) ∧
   Blk ((W.alloc (.cells (reps E.qs.length (.int .u8 0)).toArray 182)).setCell ⟨F,k,none⟩ (wide W.heap.size E.qs.length)) F 180 (rows.set k (wide W.heap.size E.qs.length)):=by
 have h1:Step E γ W (addG γ W.heap.size (.verd A k)) (W.alloc (.cells (reps E.qs.length (.int .u8 0)).toArray 182)):=by
  refine hI.add (Nat.le_refl _) ((Below.refl _ W).alloc (Nat.le_refl _) _) (heap_alloc_new W _) ⟨s,pv,f,addG_mono hI (Nat.le_refl _) _ _ _ hA,reps E.qs.length 0,?_,reps_len _ _,fun x v hv => .inl (reps_get hv)⟩
  simp [reps]
 have hF1:addG γ W.heap.size (.verd A k) F = some (.outer A):=addG_mono hI (Nat.le_refl _) _ _ _ hF
 obtain ⟨_,o,ho,s',pv',f',hA',rows',rfl,hr1,hr2⟩:=hI.each F _ hF
 rw [hA] at hA'
 cases hA'
 obtain rfl:rows' = rows:=by
  rw [show W.heap[F]? = _ from kF] at ho
  injection ho with ho
  injection ho with ho
  simpa using ho.symm
 have k1:=blk_put (blk_alloc kF (.cells (reps E.qs.length (.int .u8 0)).toArray 182)) k (wide W.heap.size E.qs.length)
 refine ⟨h1.trans (h1.inv.put hF1 (grown_set _ _ _ _) k1 ⟨s,pv,f,addG_mono hI (Nat.le_refl _) _ _ _ hA,_,rfl,by simp [hr1],fun k' r hr => ?_⟩),k1⟩
 rcases set_at hr with ⟨rfl,rfl⟩ | ⟨_,hr⟩
 ·exact .inr ⟨_,rfl,addG_same _ _ _⟩
 ·rcases hr2 k' r hr with h | ⟨V,h,hV⟩
  ·exact .inl h
  ·exact .inr ⟨V,h,addG_mono hI (Nat.le_refl _) _ _ _ hV⟩
theorem cell_row {W:World} {F:Nat} {t:TypeId} {rows:List Value} (k:Blk W F t rows) {i:Nat} {r:Value} (h:rows[i]? = some r):W.cell? ⟨F,i,none⟩ = some r ∧ W.frozen? ⟨F,i,none⟩ = false:=by
 simp [World.cell?,World.frozen?,show W.heap[F]? = _ from k,h]
set_option maxHeartbeats 4000000 in
theorem foundOf_any (E:Env) (hE:EnvOk E) (γ:Ghost) (W:World) (hI:Inv E γ W) (A:Nat) (s:Sel) (pv:Value) (f:Nat) (hA:γ A = some (.asked s pv f)) (k:Nat) (hk:k < s.length) :
  Calls Tryz.prog 125 #[ptrV A,.int .i64 k] W fun x W' => ∃ V γ',x = .returned (wide V E.qs.length) ∧ γ' V = some (.verd A k) ∧ Step E γ W γ' W':=by
 obtain ⟨⟨d,hP⟩,hfit,fv,lv,kA,hfv,hlv⟩:=hI.asked hA
 have hs50:=fits_len hfit
 obtain ⟨pp,cp,rfl⟩:=RowT.len hP
 have hfew:=hE.few
 unfold ptrV
 unfold ptrV at kA
 have HE:Hid (EnvOk E):=hE
 have HIV:Hid (Inv E γ W):=hI
 have HA:Hid (γ A = some (.asked s (.slice pp s.length cp) f)):=hA
 obtain ⟨⟨c0,c1,c2,c3⟩,f0,f1,f2,f3⟩:=blk4 kA
 have hmk:=fun X => make_of Tryz.underlying88 infoRow rfl s.length (by omega) (by omega) X
 have hmv:=fun X => make_of Tryz.underlying180 infoVd rfl E.qs.length (by omega) (by omega) X
 have heo:=fun X p n c => eqlNil Tryz.underlying88 X p n c
 have hev:=fun X p n c => eqlNil Tryz.underlying180 X p n c
 have KA:Hid (Blk W A 91 [.pointer (some ⟨E.tb,0,none⟩),.slice pp s.length cp,fv,lv]):=kA
 clear hE hI hA hP kA
 have hki:(k:Int) < (s.length:Int):=by omega
 unfold wide at hmk hmv ⊢
 go_enter Tryz.func125,Tryz.ntmps125
 obtain ⟨pf,nf,hff⟩:∃ pf nf,fv = .slice pf nf nf:=by
  rcases hfv with rfl | ⟨F,rfl,hF⟩
  ·exact ⟨_,_,rfl⟩
  ·exact ⟨_,_,rfl⟩
 subst hff
 have h1:=heo W pf nf nf
 go_upto_if 9 with fail
 clear h1
 go_cut [] (fun wx => ∃ γ1 F,Step E γ W γ1 wx ∧ γ1 A = some (.asked s (.slice pp s.length cp) f) ∧ γ1 F = some (.outer A) ∧ Blk wx A 91 [.pointer (some ⟨E.tb,0,none⟩),.slice pp s.length cp,.slice (some ⟨F,0,none⟩) s.length s.length,lv])
 case first =>
  rcases hfv with e | ⟨F,e,hF⟩
  ·cases e
   have h2:=hmk W
   obtain ⟨st,k1⟩:=step_outer HIV.out HA.out KA.out hlv
   unfold wide at st k1
   unfold ptrV at k1
   have c2':=(blk4 (blk_alloc KA.out (.cells (reps s.length (.slice none 0 0)).toArray 180))).1.2.2.1
   have f2':=(blk4 (blk_alloc KA.out (.cells (reps s.length (.slice none 0 0)).toArray 180))).2.2.2.1
   have FIN:Hid _:=(⟨_,_,st,st.mono HIV.out _ _ HA.out,addG_same _ _ _,k1⟩:∃ γ1 F,Step E γ W γ1 _ ∧ γ1 A = some (.asked s (.slice pp s.length cp) f) ∧ γ1 F = some (.outer A) ∧ Blk _ A 91 [.pointer (some ⟨E.tb,0,none⟩),.slice pp s.length cp,.slice (some ⟨F,0,none⟩) s.length s.length,lv])
   clear st k1 hmk hmv heo hev hlv
   go_wp2
   go_meet
   exact FIN.out
  ·unfold wide at e
   cases e
   have FIN:Hid _:=(⟨γ,F,Step.refl HIV.out,HA.out,hF,KA.out⟩:∃ γ1 F,Step E γ W γ1 W ∧ γ1 A = some (.asked s (.slice pp s.length cp) f) ∧ γ1 F = some (.outer A) ∧ Blk W A 91 [.pointer (some ⟨E.tb,0,none⟩),.slice pp s.length cp,.slice (some ⟨F,0,none⟩) s.length s.length,lv])
   clear hmk hmv heo hev hlv hF
   go_wp2
   go_meet
   exact FIN.out
 case rest =>
  clear c0 c1 c2 c3 f0 f1 f2 f3 KA hfv heo hmk HA hlv
  obtain ⟨γ1,F,st,hA1,hF1,kA⟩:=hcut
  obtain ⟨_,o,ho,s',pv',f',hA',rows,rfl,hr1,hr2⟩:=st.inv.each F _ hF1
  rw [hA1] at hA'
  cases hA'
  have kF:Blk wc F 180 rows:=ho
  obtain ⟨r,hr⟩:∃ r,rows[k]? = some r:=⟨_,List.getElem?_eq_getElem (by omega)⟩
  have hrk:=hr2 k r hr
  have ST:Hid (Step E γ W γ1 wc):=st
  have HA1:Hid (γ1 A = some (.asked s (.slice pp s.length cp) f)):=hA1
  have HF1:Hid (γ1 F = some (.outer A)):=hF1
  have KA:Hid (Blk wc A 91 [.pointer (some ⟨E.tb,0,none⟩),.slice pp s.length cp,.slice (some ⟨F,0,none⟩) s.length s.length,lv]):=kA
  have KF:Hid (Blk wc F 180 rows):=kF
  obtain ⟨⟨c0,c1,c2,c3⟩,f0,f1,f2,f3⟩:=blk4 kA
  obtain ⟨x0,x1⟩:=cell_row kF hr
  have HR:Hid (rows[k]? = some r):=hr
  clear hr2 hA1 hF1 kA kF st ho hr
  obtain ⟨pf,nf,hff⟩:∃ pf nf,r = .slice pf nf nf:=by
   rcases hrk with rfl | ⟨F,rfl,hF⟩
   ·exact ⟨_,_,rfl⟩
   ·exact ⟨_,_,rfl⟩
  subst hff
  have h1:=hev wc pf nf nf
  go_upto_if 26 with fail
  clear h1
  go_cut [] (fun wx => ∃ γ2 V,Step E γ W γ2 wx ∧ γ2 V = some (.verd A k) ∧ Blk wx A 91 [.pointer (some ⟨E.tb,0,none⟩),.slice pp s.length cp,.slice (some ⟨F,0,none⟩) s.length s.length,lv] ∧ wx.cell? ⟨F,k,none⟩ = some (.slice (some ⟨V,0,none⟩) E.qs.length E.qs.length))
  case first =>
   rcases hrk with e | ⟨V,e,hV⟩
   ·cases e
    have q0:Below wc.heap.size wc wc.drew:=below_drew (Below.refl _ _)
    have st2:=ST.out.inv.step q0
    have hl:=len_any E.b E.tb E.g E.cap E.qs wc.drew (st2.inv.tree HE.out)
    have h2:=hmv wc.drew
    obtain ⟨st3,k3⟩:=step_verd st2.inv HA1.out HF1.out (KF.out.next q0) hk
    have x2:=cell_row (blk_alloc KF.out (.cells (reps E.qs.length (.int .u8 0)).toArray 182)) HR.out
    obtain ⟨x2,x3⟩:=x2
    have hne:A ≠ F:=fun e => by
     have h8:=HA1.out
     have h9:=HF1.out
     rw [e] at h8
     rw [show γ1 F = _ from h9] at h8
     cases h8
    have k4:=(blk_alloc (KA.out.next q0) (.cells (reps E.qs.length (.int .u8 0)).toArray 182)).kept (grown_set _ F k (wide wc.drew.heap.size E.qs.length)) (fun e => hne (by cases e;rfl))
    have x4:((wc.drew.alloc (.cells (reps E.qs.length (.int .u8 0)).toArray 182)).setCell ⟨F,k,none⟩ (wide wc.drew.heap.size E.qs.length)).cell? ⟨F,k,none⟩ = some (wide wc.drew.heap.size E.qs.length):=(cell_row k3 (by rw [List.getElem?_set,if_pos rfl,if_pos (by omega)])).1
    have FIN:Hid _:=(⟨_,_,(ST.out.trans st2).trans st3,addG_same _ _ _,k4,x4⟩:∃ γ2 V,Step E γ W γ2 _ ∧ γ2 V = some (.verd A k) ∧ Blk _ A 91 [.pointer (some ⟨E.tb,0,none⟩),.slice pp s.length cp,.slice (some ⟨F,0,none⟩) s.length s.length,lv] ∧ ((wc.drew.alloc (.cells (reps E.qs.length (.int .u8 0)).toArray 182)).setCell ⟨F,k,none⟩ (wide wc.drew.heap.size E.qs.length)).cell? ⟨F,k,none⟩ = some (.slice (some ⟨V,0,none⟩) E.qs.length E.qs.length))
    have HS:Hid (∀ X:World,Below wc.heap.size wc X → X.cell? ⟨A,2,none⟩ = some (.slice (some ⟨F,0,none⟩) s.length s.length) ∧ X.cell? ⟨A,0,none⟩ = some (.pointer (some ⟨E.tb,0,none⟩))):=fun X hX => ⟨(blk4 (KA.out.next hX)).1.2.2.1,(blk4 (KA.out.next hX)).1.1⟩
    have q1:Below wc.heap.size wc (wc.drew.alloc (.cells (reps E.qs.length (.int .u8 0)).toArray 182)):=q0.alloc (Nat.le_refl _) _
    clear st2 st3 k3 k4 x4 hev hmv c0 c1 c2 c3 f0 f1 f2 f3 x0 x1
    unfold wide at FIN
    go_wp2
    refine Rg.wpD_begin [0,1,2,3,4,5,6,7,8,9,10] (fun X => X.cell? ⟨A,2,none⟩ = some (.slice (some ⟨F,0,none⟩) s.length s.length) ∧ X.cell? ⟨A,0,none⟩ = some (.pointer (some ⟨E.tb,0,none⟩))) (by kernel_rfl) ?_
    have HeldS:=HS.out _ q0
    refine Rg.ld 0 HeldS ?_
    simp only [Act.put,Rg.sA,Rg.sB,Rg.sC]
    refine Rg.ld 1 HeldS ?_
    simp only [Act.put,Rg.sA,Rg.sB,Rg.sC]
    refine Rg.ld 2 HeldS ?_
    simp only [Act.put,Rg.sA,Rg.sB,Rg.sC]
    refine Rg.ld 3 HeldS ?_
    simp only [Act.put,Rg.sA,Rg.sB,Rg.sC]
    refine Rg.ld 4 HeldS ?_
    simp only [Act.put,Rg.sA,Rg.sB,Rg.sC]
    refine Rg.ld 5 HeldS ?_
    simp only [Act.put,Rg.sA,Rg.sB,Rg.sC]
    refine Rg.ld 6 HeldS ?_
    simp only [Act.put,Rg.sA,Rg.sB,Rg.sC]
    refine Rg.ld 7 HeldS ?_
    simp only [Act.put,Rg.sA,Rg.sB,Rg.sC]
    refine Rg.ld 8 HeldS ?_
    simp only [Act.put,Rg.sA,Rg.sB,Rg.sC]
    refine Rg.dd 9 fun K hK => ?_
    go_simp
    go_at_call 43
    refine Calls.mono hl ?_
    clear hl
    rintro x wN ⟨rfl,rfl⟩
    refine hK _ _ (fun _ => HS.out _ q0) ?_
    clear hK K
    refine Rg.dd 10 fun K hK => ?_
    go_simp
    refine hK _ _ (fun _ => HS.out _ q1) ?_
    clear hK K
    refine Rg.pu 11 ?_
    simp only [Act.put,Rg.sA,Rg.sB,Rg.sC]
    refine Rg.dd 12 fun K hK => ?_
    go_simp
    refine hK _ _ (fun h => absurd h (by decide)) ?_
    clear hK K
    refine Rg.wpD_done (by kernel_rfl) ?_
    go_wp2
    go_meet
    exact FIN.out
   ·unfold wide at e
    cases e
    have FIN:Hid _:=(⟨γ1,V,ST.out,hV,KA.out,x0⟩:∃ γ2 V,Step E γ W γ2 wc ∧ γ2 V = some (.verd A k) ∧ Blk wc A 91 [.pointer (some ⟨E.tb,0,none⟩),.slice pp s.length cp,.slice (some ⟨F,0,none⟩) s.length s.length,lv] ∧ wc.cell? ⟨F,k,none⟩ = some (.slice (some ⟨V,0,none⟩) E.qs.length E.qs.length))
    clear hV hmv hev
    go_wp2
    go_meet
    exact FIN.out
  case rest =>
   clear c0 c1 c2 c3 f0 f1 f2 f3 x0 x1 hrk KA KF
   obtain ⟨γ2,V,st,hV,kA,x0⟩:=hcut
   obtain ⟨⟨c0,c1,c2,c3⟩,_⟩:=blk4 kA
   have FIN:Hid _:=(⟨V,γ2,rfl,hV,st⟩:∃ V' γ',Ending.returned (.slice (some ⟨V,0,none⟩) E.qs.length E.qs.length) = Ending.returned (.slice (some ⟨V',0,none⟩) E.qs.length E.qs.length) ∧ γ' V' = some (.verd A k) ∧ Step E γ W γ' wc)
   clear hev hmv st hV kA
   go_wp2
   go_ret
   exact FIN.out
end Go.Proofs.YtnemagmakgiheaaGreat.Mt
/- package match: maps from spots to what is asked there. -/
namespace Go.Proofs.YtnemagmakgiheaaGreat.Mt
open Go.Proofs.YtnemagmakgiheaaGreat.Tre
open Go Go.RowKit Dm
theorem mapLaid:laidOutB Tryz.prog = true:=by kernel_rfl
theorem keyT:Tryz.prog.keyType 179 = true:=by kernel_rfl
theorem typesFew:decide (Tryz.prog.types.size + 2 ≤ 10000) = true:=by kernel_rfl
theorem spotLt:decide (179 < Tryz.prog.types.size) = true:=by kernel_rfl
theorem spotKeyed:Maps.Keyed Tryz.prog 179:=Maps.Keyed.of_law (deep_law_gate mapLaid (of_decide_eq_true typesFew) (of_decide_eq_true spotLt) keyT (by rw [Tryz.underlying179]))
theorem zeroPs (w:World):(zeroValue 212).run Tryz.prog w = .ok (.slice none 0 0) w:=by kernel_rfl
theorem wf64 {k:Nat} (h:k < 1099511627776):(Lit.int .i64 (k:Int)).wf = true:=WalkArith.wf_i64 (by omega)
theorem cellsSpot:Tryz.prog.cellsOf 179 = 2:=by kernel_rfl
theorem cellsI:Tryz.prog.cellsOf 3 = 1:=by kernel_rfl
theorem keyL_of {k j:Nat} (hk:k < 1099511627776) (hj:j < 1099511627776):keyOf Tryz.prog 179 (.agg #[.int .i64 k,.int .i64 j]) = some (keyL k j):=by
 have hsz:∃ m,Tryz.prog.types.size = m + 1:=⟨_,rfl⟩
 obtain ⟨m,hm⟩:=hsz
 unfold keyOf
 simp only [Tryz.underlying179]
 rw [if_pos (by simp [keyT,Value.formed,Tryz.underlying179,cellsSpot]),hm]
 unfold Program.keyLits
 simp only [Tryz.underlying179,Value.cells]
 rw [if_pos (by rw [cellsSpot];exact ⟨rfl,by decide +kernel⟩)]
 simp [List.mapM_cons,cellsI,Program.keyLits,Tryz.underlying3,wf64 hk,wf64 hj,keyL]
theorem keyL_inj {k j k' j':Nat} (hk:k < 1099511627776) (hj:j < 1099511627776) (hk':k' < 1099511627776) (hj':j' < 1099511627776) (h:keyL k j = keyL k' j'):k = k' ∧ j = j':=by
 have e:=spotKeyed.inj (keyL_of hk hj) (by rw [keyL_of hk' hj',h])
 simp at e
 omega
theorem keyL_lit {k j:Nat} (hk:k < 1099511627776) (hj:j < 1099511627776):WideAt.IsKeyLit (keyL k j):=spotKeyed.key (keyL_of hk hj)
theorem MapObj.owns {W:World} {M n:Nat} {D:DataW Value} {o:Obj} (h:MapObj o n D) (ho:W.heap[M]? = some o):W.ownsMap Tryz.prog 179 held M n D:=by
 obtain ⟨es,clock,rfl,h1,h2,h3⟩:=h
 exact ⟨es,clock,ho,h1,h2,h3⟩
theorem owns_obj {W:World} {M n:Nat} {D:DataW Value} (h:W.ownsMap Tryz.prog 179 held M n D):∃ o,W.heap[M]? = some o ∧ MapObj o n D:=by
 obtain ⟨es,clock,h0,h1,h2,h3⟩:=h
 exact ⟨_,h0,es,clock,rfl,h1,h2,h3⟩
theorem Step.assign {E:Env} {γ γ':Ghost} {W X:World} (h:Step E γ W γ' X) {B:Nat} {r:Role} {o:Obj} (hB:W.heap.size ≤ B) (hn:γ' B = .none) (hn0:E.n₀ ≤ W.heap.size) (ho:X.heap[B]? = some o) (hr:RoleOk E (addG γ' B r) B o r):Step E γ W (addG γ' B r) X:=by
 have mono:∀ k x,γ' k = some x → addG γ' B r k = some x:=fun k x hk => by
  rw [addG_other r (fun e => by rw [e,hn] at hk;cases hk)]
  exact hk
 refine ⟨⟨h.inv.low,fun A r' hA => ?_⟩,h.size,fun k hk => (addG_other r (by omega)).trans (h.role k hk),h.block⟩
 by_cases e:A = B
 ·subst e
  rw [addG_same] at hA
  cases hA
  exact ⟨by omega,o,ho,hr⟩
 ·rw [addG_other r e] at hA
  obtain ⟨h1,o',ho',hr'⟩:=h.inv.each A r' hA
  exact ⟨h1,o',ho',hr'.mono mono⟩
def allSpots:List (Nat × Nat):=(List.range 50).flatMap (fun k => (List.range 1099511627776).map (fun j => (k,j)))
theorem allSpots_len:allSpots.length = 50 * 1099511627776:=by
 unfold allSpots
 rw [List.length_flatMap]
 simp only [List.length_map,List.length_range]
 rfl
theorem spots_few {ks:List (Nat × Nat)} (hn:ks.Nodup) (h:∀ k j,(k,j) ∈ ks → k < 50 ∧ j < 1099511627776):ks.length ≤ 50 * 1099511627776:=by
 rw [← allSpots_len]
 refine hn.length_le_of_subset (fun x hx => ?_)
 obtain ⟨k,j⟩:=x
 obtain ⟨h1,h2⟩:=h k j hx
 exact List.mem_flatMap.2 ⟨k,List.mem_range.2 h1,List.mem_map.2 ⟨j,List.mem_range.2 h2,rfl⟩⟩
end Go.Proofs.YtnemagmakgiheaaGreat.Mt
