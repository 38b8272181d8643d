/- A law of the walk, beside Seq's: a range over a function whose body may break off, and whose iterator leans on something (C) that the caller's rounds keep. -/
import Derived.Test.YtcmmdojlhfmddaaGreatSeq
import Derived.Test.YtcmmdojlhfmddaaGreatMtMem
import Derived.Test.YtcmmdojlhfmddaaGreatSeqZ
import Derived.RangeFuncBox
import Derived.Shelf.RegionOpen
import Derived.LoopIn
namespace Go.Proofs.YtcmmdojlhfmddaaGreat
open Go Go.RowKit
def SeqW {α:Type} (F:Fence) (n:Nat) (P:Program) (g:Nat) (lb:Array Value) (encs:α → Array Value) (n₀:Nat) (S Sp:List α → Prop) (Ok:List α → α → Prop) (k:Nat) (C:World → Prop) (w:World):Prop:=
 ∀ (l:Nat) (J Jx:List α → World → Prop) (W:World),Below w.heap.size w W → AbidesIn W.heap.size (W.heap.size + k) J → AbidesIn W.heap.size (W.heap.size + k) Jx → (∀ s X,J s X → C X) →
  (∀ pre x W1,J pre W1 → Ok pre x → W.heap.size + k ≤ W1.heap.size → YieldAt F (n - 1) P l (encs x) W1 fun e W' =>
   (e = .returned (.bool true) ∧ J (pre ++ [x]) W' ∧ KeepsIn n₀ W.heap.size (W.heap.size + k) W1 W') ∨ (e = .returned (.bool false) ∧ Jx (pre ++ [x]) W')) →
  J [] W →
  CallsIn F n P g (#[.func (.yield l) #[] #[]] ++ lb) W fun e W' => (∃ v,e = .returned v) ∧ ((∃ xs,S xs ∧ J xs W') ∨ (∃ pre,Sp pre ∧ Jx pre W'))
def postW {α:Type} (id n₀ lo hi:Nat) (I Ix:List α → World → Prop) (xs:List α) (W:World):Exit → Act → World → Prop
 | .normal,_,W' => KeepsIn n₀ lo hi W W' ∧ I xs W'
 | .exit i,_,W' => i = id ∧ KeepsIn 0 lo hi W W' ∧ Ix xs W'
 | _,_,_ => False
variable {F:Fence} {n:Nat} {P:Program}
theorem wpIn_rangeFunc_W {α:Type} {g:Operand} {ps:Array Tmp} {assign body:Code} {Q:Exit → Act → World → Prop} {a:Act} {w:World} (id:Nat)
  (hro:F.round = none) (h1:1 ≤ n) {gf:Nat} {lb:Array Value} (hg:a.eval g = .func (.func gf) #[] lb) (hFg:F.fn gf) (eg:∀ args w,(callFunc gf args).run P w = .ok (.enter gf args) w)
  {encs:α → Array Value} {n₀:Nat} {S Sp:List α → Prop} {Ok:List α → α → Prop} {k:Nat} {C:World → Prop} {w0:World} (hseq:SeqW F (n - 1) P gf lb encs n₀ S Sp Ok k C w0) (hn₀:n₀ ≤ w.heap.size) (hb0:Below w0.heap.size w0 w) (hps:∀ x,(encs x).size = ps.size)
  (I Ix:List α → World → Prop) (hI:AbidesIn w.heap.size (w.heap.size + 2 + k) I) (hIx:AbidesIn w.heap.size (w.heap.size + 2 + k) Ix) (h0:I [] w) (hIC:∀ s X,I s X → C X) (a₁:α → Act)
  (hassign:∀ (l:Nat) (x:α) (W:World) (K:Act → World → Prop),K (a₁ x) W →
   assign.wpIn (F.inRound l) (n - 1 - 1) P (Exit.then K (fun _ _ _ => False)) { tmps:=(ps.zip (encs x)).foldl (fun t (p,v) => t.setIfInBounds p v) a.tmps,defers:=[] } W)
  (hbody:∀ (l:Nat) (pre:List α) (x:α) (W:World),I pre W → Ok pre x → w.heap.size + 2 + k ≤ W.heap.size → body.wpIn (F.inRound l) (n - 1 - 1) P (postW id n₀ w.heap.size (w.heap.size + 2 + k) I Ix (pre ++ [x]) W) (a₁ x) W)
  (hdone:∀ (xs:List α) (W:World),S xs → I xs W → W.heap[w.heap.size]? = some (.deferred (some [])) → Q .normal { a with defers:={ target:=.collected w.heap.size,args:=#[] } :: a.defers } W)
  (hstop:∀ (pre:List α) (W:World),Sp pre → Ix pre W → W.heap[w.heap.size]? = some (.deferred (some [])) → (Code.exit id).wpIn F n P Q { a with defers:={ target:=.collected w.heap.size,args:=#[] } :: a.defers } W) :
  (Code.rangeFunc g ps assign body).wpIn F n P Q a w:=by
 refine wpIn_rangeFunc ?_
 intro fn hfn
 rw [hro]
 obtain ⟨rec,hrec⟩:∃ rec:LoopState → Option Code → Loop,rec = fun st pe => { state:=st,pending:=pe,fn,tmps:=a.tmps,params:=ps,assign,body,defers:=w.heap.size }:=⟨_,rfl⟩
 obtain ⟨W1,hW1⟩:∃ W1,(w.alloc (.deferred (some []))).alloc (.loop (rec .ready none)) = W1:=⟨_,rfl⟩
 have hL1:W1.heap[w.heap.size + 1]? = some (.loop (rec .ready none)):=by
  rw [← hW1];have:=World.alloc_heap_new (w.alloc (.deferred (some []))) (.loop (rec .ready none));rwa [World.size_alloc] at this
 have hK1:W1.heap[w.heap.size]? = some (.deferred (some [])):=by
  rw [← hW1];exact (Below.heap_alloc _ _ _ (by simp)).trans (World.alloc_heap_new w _)
 have hI1:I [] W1:=by rw [← hW1];exact hI.alloc _ (hI.alloc _ h0)
 have hs1:W1.heap.size = w.heap.size + 2:=by rw [← hW1];simp
 have hb1:Below w0.heap.size w0 W1:=by
  rw [← hW1];exact hb0.trans ((((Below.refl _ w).alloc (Nat.le_refl _) _).alloc (by simp) _).mono hb0.size)
 refine ⟨w.heap.size + 1,[{ target:=.collected w.heap.size,args:=#[] }],W1,{ target:=.fn (.func gf) lb,args:=#[.func (.yield (w.heap.size + 1)) #[] #[]] },W1,gf,
  #[.func (.yield (w.heap.size + 1)) #[] #[]] ++ lb,W1,?_,?_,?_,?_,fun _ => h1,?_⟩
 ·rw [← hW1,hrec];exact run_enterLoop_outer _ _ _ _ _
 ·simp only [resolve,hg]
  simp [go_sem]
 ·intro f' hf';simp [Target.leads] at hf';subst hf';exact hFg
 ·simp [invoke,go_sem,eg]
 ·refine (hseq (w.heap.size + 1)
   (fun pre W => I pre W ∧ W.heap[w.heap.size + 1]? = some (.loop (rec .ready none)) ∧ W.heap[w.heap.size]? = some (.deferred (some [])))
   (fun pre W => Ix pre W ∧ W.heap[w.heap.size + 1]? = some (.loop (rec .done (some (.exit id)))) ∧ W.heap[w.heap.size]? = some (.deferred (some [])))
   W1 hb1 ?_ ?_ (fun s X h => hIC s X h.1) ?_ ⟨hI1,hL1,hK1⟩).mono ?_
  ·intro s X Y row hs hg' hr
   rw [hs1] at hr
   refine ⟨hI s X Y row hs.1 hg' (fun r e => by have:=hr r e;omega),?_,?_⟩
   ·exact (hg'.block _ (Array.getElem?_eq_some_iff.1 hs.2.1).1 (fun e => by have:=hr _ e.symm;omega)).trans hs.2.1
   ·exact (hg'.block _ (Array.getElem?_eq_some_iff.1 hs.2.2).1 (fun e => by have:=hr _ e.symm;omega)).trans hs.2.2
  ·intro s X Y row hs hg' hr
   rw [hs1] at hr
   refine ⟨hIx s X Y row hs.1 hg' (fun r e => by have:=hr r e;omega),?_,?_⟩
   ·exact (hg'.block _ (Array.getElem?_eq_some_iff.1 hs.2.1).1 (fun e => by have:=hr _ e.symm;omega)).trans hs.2.1
   ·exact (hg'.block _ (Array.getElem?_eq_some_iff.1 hs.2.2).1 (fun e => by have:=hr _ e.symm;omega)).trans hs.2.2
  ·rintro pre x W ⟨hi,hl,hk⟩ hlen hsz
   rw [hs1] at hsz
   have hlt:w.heap.size + 1 < W.heap.size:=(Array.getElem?_eq_some_iff.1 hl).1
   have hy:=run_yield (P:=P) (args:=encs x) hl (by rw [hrec];exact hps x)
   rw [hrec] at hy
   refine ⟨fn,_,assign,body,hy,roundIn_of_wpIn hfn (hassign _ x W _ ⟨_,run_beginRound hl (by rw [hrec]),?_⟩)⟩
   have hl2:(W.putObj (w.heap.size + 1) (.loop { rec .ready none with state:=.busy })).heap[w.heap.size + 1]? = some (.loop { rec .ready none with state:=.busy }):=World.putObj_heap_same hlt
   have hk2:(W.putObj (w.heap.size + 1) (.loop { rec .ready none with state:=.busy })).heap[w.heap.size]? = some (.deferred (some [])):=(World.putObj_heap_other (by omega)).trans hk
   have hs2:(W.putObj (w.heap.size + 1) (.loop { rec .ready none with state:=.busy })).heap.size = W.heap.size:=by simp
   have hw2:KeepsIn n₀ (w.heap.size + 2) (w.heap.size + 2 + k) W (W.putObj (w.heap.size + 1) (.loop { rec .ready none with state:=.busy })):=
    KeepsIn.putObj _ (by omega) (by omega) (by omega) (by omega)
   refine wpIn_mono (hbody _ pre x _ (hI.putObj _ hi (by omega) (by omega)) hlen (by rw [hs2];exact hsz)) ?_
   rintro e a3 W3 hp
   cases e with
   | normal =>
    obtain ⟨hk3,hi3⟩:=hp
    have hl3:=(hk3.own (w.heap.size + 1) (by omega) (by omega)).trans hl2
    have hd3:=(hk3.own w.heap.size (by omega) (by omega)).trans hk2
    have hs3:=hk3.below.size
    rw [hs2] at hs3
    have hr:=run_endRound (P:=P) none hl3
    rw [hrec] at hr
    refine ⟨_,_,hr,.inl ⟨rfl,⟨hI.putObj _ hi3 (by omega) (by omega),?_,(World.putObj_heap_other (by omega)).trans hd3⟩,?_⟩⟩
    ·rw [hrec];exact World.putObj_heap_same (Array.getElem?_eq_some_iff.1 hl3).1
    ·rw [hs1]
     exact (hw2.trans (hk3.mono (Nat.le_refl _) (by omega) (Nat.le_refl _))).trans (KeepsIn.putObj _ (by omega) (by omega) (by omega) (by omega))
   | ret => exact hp.elim
   | exit id' =>
    obtain ⟨rfl,hk3,hi3⟩:=hp
    have hl3:=(hk3.own (w.heap.size + 1) (by omega) (by omega)).trans hl2
    have hd3:=(hk3.own w.heap.size (by omega) (by omega)).trans hk2
    have hs3:=hk3.below.size
    rw [hs2] at hs3
    have hr:=run_endRound (P:=P) (some (.exit id')) hl3
    rw [hrec] at hr
    refine ⟨_,_,hr,.inr ⟨rfl,hIx.putObj _ hi3 (by omega) (by omega),?_,(World.putObj_heap_other (by omega)).trans hd3⟩⟩
    rw [hrec];exact World.putObj_heap_same (Array.getElem?_eq_some_iff.1 hl3).1
   | goto t => exact hp.elim
   | panic ch => exact hp.elim
   | outgrown => exact hp.elim
  ·rintro e W2 ⟨⟨v,rfl⟩,⟨xs,hS,hi,hl,hk⟩ | ⟨xs,hS,hi,hl,hk⟩⟩
   rotate_left
   ·exact ⟨some (.exit id),_,by have:=run_endLoop (P:=P) hl (by rw [hrec];simp);rw [hrec] at this;exact this,hstop xs _ hS (hIx.putObj _ hi (by omega) (by omega)) ((World.putObj_heap_other (by omega)).trans hk)⟩
   exact ⟨none,_,by have:=run_endLoop (P:=P) hl (by rw [hrec];simp);rw [hrec] at this;exact this,hdone xs _ hS (hI.putObj _ hi (by omega) (by omega)) ((World.putObj_heap_other (by omega)).trans hk)⟩
end Go.Proofs.YtcmmdojlhfmddaaGreat

/- package match: the lists that lie in a selector, as an iterator. -/
set_option maxRecDepth 100000
namespace Go.Proofs.YtcmmdojlhfmddaaGreat.Mt
open Go.Proofs.YtcmmdojlhfmddaaGreat.Tre
open Go Go.RowKit Go.Shelf Dm
attribute [local go_sem] Oper.semAt_some
theorem isListed_any (k a b:Int) (p:Option Addr) (m c:Nat) (w:World) :
  Calls Tryz.prog 111 #[.agg #[.int .i64 k,.int .i64 a,.int .i64 b,.slice p m c]] w fun e w' => e = .returned (.bool (decide (k = 7) || decide (k = 8))) ∧ Below w.heap.size w w':=by
 have hB:Below w.heap.size w (w.alloc (.cells #[.int .i64 k,.int .i64 a,.int .i64 b,.slice p m c] 160)):=(Below.refl _ _).alloc (Nat.le_refl _) _
 by_cases h7:k = 7
 ·subst h7
  go_enter Tryz.func111,Tryz.ntmps111
  go_wp2
  go_ret
  exact ⟨rfl,hB⟩
 ·have h7':(k == 7) = false:=by simpa using h7
  rw [decide_eq_false h7,Bool.false_or]
  go_enter Tryz.func111,Tryz.ntmps111
  go_wp2
  go_ret
  exact ⟨rfl,hB⟩
def listsTo (s:Sel) (i:Nat):List (List Sel):=listsV (s.take i)
def listsIn (p:Pt) (j:Nat):List (List Sel):=((p.2.pss.take j).filter listed).map Ps.list
theorem listsTo_all (s:Sel):listsTo s s.length = listsV s:=by simp [listsTo]
theorem listsTo_next {s:Sel} {i:Nat} {p:Pt} (h:s[i]? = some p):listsTo s (i + 1) = listsTo s i ++ listsIn p p.2.pss.length:=by
 simp [listsTo,listsV,listsIn,List.take_add_one,h]
theorem listsIn_zero (p:Pt):listsIn p 0 = []:=rfl
theorem listsIn_yes {p:Pt} {j:Nat} {q:Ps} (h:p.2.pss[j]? = some q) (hl:listed q = true):listsIn p (j + 1) = listsIn p j ++ [q.list]:=by
 simp [listsIn,List.take_add_one,h,hl]
theorem listsIn_no {p:Pt} {j:Nat} {q:Ps} (h:p.2.pss[j]? = some q) (hl:listed q = false):listsIn p (j + 1) = listsIn p j:=by
 simp [listsIn,List.take_add_one,h,hl]
theorem listsIn_rest {p:Pt} {j:Nat} {q:Ps} (h:p.2.pss[j]? = some q) (hl:listed q = true):∃ r,listsIn p p.2.pss.length = listsIn p j ++ q.list :: r:=by
 have hj:=(List.getElem?_eq_some_iff.1 h).1
 have:p.2.pss = p.2.pss.take (j + 1) ++ p.2.pss.drop (j + 1):=(List.take_append_drop _ _).symm
 refine ⟨((p.2.pss.drop (j + 1)).filter listed).map Ps.list,?_⟩
 have e:=listsIn_yes h hl
 unfold listsIn at e ⊢
 rw [List.take_length]
 conv => lhs;rw [this]
 rw [List.filter_append,List.map_append,e]
 simp
theorem listsTo_rest {s:Sel} {i:Nat} {p:Pt} (h:s[i]? = some p):∃ r,listsV s = listsTo s i ++ (listsIn p p.2.pss.length ++ r):=by
 refine ⟨listsV (s.drop (i + 1)),?_⟩
 rw [← List.append_assoc,← listsTo_next h]
 unfold listsTo listsV
 rw [← List.flatMap_append,List.take_append_drop]
set_option maxHeartbeats 4000000 in
theorem listsOf1_in (n l B n₀ d m:Nat) (s:Sel) (v:Value) (w₀:World) (hP:PartsAt d m w₀ v s) (J Jx:List (Value × List Sel) → World → Prop) (W:World) (_hB:B < n₀) (hm:m ≤ n₀) (hn₀:n₀ ≤ W.heap.size) (hW:Below m w₀ W)
  (hA:AbidesIn W.heap.size W.heap.size J)
  (hY:∀ pre x W1,J pre W1 → (SelsAt d m w₀ x.1 x.2 ∧ ∃ rest,pre.map Prod.snd ++ x.2 :: rest = listsV s) → W.heap.size ≤ W1.heap.size → YieldAt Fence.wide (n - 1) Tryz.prog l #[x.1] W1 fun e W' => (e = .returned (.bool true) ∧ J (pre ++ [x]) W' ∧ Below n₀ W1 W') ∨ (e = .returned (.bool false) ∧ Jx (pre ++ [x]) W'))
  (hc:W.cell? ⟨B,0,none⟩ = some v) (h0:J [] W) :
  CallsIn Fence.wide n Tryz.prog 110 #[.func (.yield l) #[] #[],.pointer (some ⟨B,0,none⟩)] W fun e W' => (∃ v,e = .returned v) ∧ ((∃ xs,xs.map Prod.snd = listsV s ∧ J xs W') ∨ (∃ pre,True ∧ Jx pre W')):=by
 obtain ⟨pp,cp,rfl⟩:=RowT.len hP
 have hsh:=RowT.short hP
 unfold maxLen at hsh
 refine callsIn_of_wp Tryz.func110 rfl trivial ?_ rfl
 simp only [Tryz.ntmps110,List.size_toArray,List.length_cons,List.length_nil,Nat.reduceAdd,Nat.reduceSub,Array.replicate_succ,Array.replicate_zero,List.push_toArray,List.append_toArray,List.nil_append,List.cons_append]
 have HP:Hid (PartsAt d m w₀ (.slice pp s.length cp) s):=hP
 have HA:Hid (AbidesIn W.heap.size W.heap.size J):=hA
 clear hP hA
 gi_wp2
 gi_loopw [10] (fun x wr => ∃ (i:Nat) (pre:List (Value × List Sel)),x = .int .i64 i ∧ i ≤ s.length ∧ pre.map Prod.snd = listsTo s i ∧ J pre wr ∧ Below n₀ W wr) (fun x _ => s.length - (intOf x).toNat)
 case atStart => exact ⟨0,[],rfl,Nat.zero_le _,rfl,h0,Below.refl _ _⟩
 case round =>
  obtain ⟨i,pre,rfl,hi,hpre,hJ,hb⟩:=hrel
  have hs0:=hb.size
  by_cases hlt:i < s.length
  ·obtain ⟨p,hp⟩:∃ p,s[i]? = some p:=⟨_,List.getElem?_eq_getElem hlt⟩
   obtain ⟨bk,off,vi,vc,va,vp,rfl,hbk,hcap,hmx,_,⟨x0,x1,x2,x3,x4,x5⟩,q1,q2,q3,q4,_,_⟩:=PartsAt.get HP.out hp
   have cw:∀ o,wr.cell? ⟨bk,o,none⟩ = w₀.cell? ⟨bk,o,none⟩:=fun o => (hW.trans (hb.mono hm)).cell (p:=⟨bk,o,none⟩) hbk
   rw [← cw] at x0 x1 x2 x3 x4 x5
   unfold maxLen at hmx
   have HQ:Hid (RowT 4 (PsT (SelsAt d m w₀)) m w₀ vp p.2.pss):=q4
   have hps:=RowT.short q4
   unfold maxLen at hps
   obtain ⟨p4,c4,rfl⟩:=RowT.len q4
   obtain ⟨p1,c1,rfl⟩:=SlR.len q1
   obtain ⟨p2,c2,rfl⟩:=SlR.len q2
   obtain ⟨p3,c3,rfl⟩:=SlR.len q3
   have hii:(i:Int) < (s.length:Int):=by omega
   obtain ⟨rs,hrs⟩:=listsTo_rest hp
   have HRS:Hid (_ = _):=hrs
   have HN:Hid (_ = _):=listsTo_next hp
   have HPRE:Hid (pre.map Prod.snd = listsTo s i):=hpre
   clear q1 q2 q3 q4 hc cw hrs hpre
   gi_wp2
   gi_loopw [18] (fun x wx => ∃ (j:Nat) (pre':List (Value × List Sel)),x = .int .i64 j ∧ j ≤ p.2.pss.length ∧ pre'.map Prod.snd = listsTo s i ++ listsIn p j ∧ J pre' wx ∧ Below n₀ W wx) (fun x _ => p.2.pss.length - (intOf x).toNat)
   case atStart =>
    exact ⟨0,pre,rfl,Nat.zero_le _,by rw [listsIn_zero,List.append_nil];exact HPRE.out,HA.out.alloc _ hJ,hb.alloc (by omega) _⟩
   case round =>
    clear x0 x1 x2 x3 x4 x5 HPRE hJ hb hs0
    obtain ⟨j,pre',rfl,hj,hpre,hJ,hb⟩:=hrel
    have hs0:=hb.size
    by_cases hlt2:j < p.2.pss.length
    ·obtain ⟨q,hq⟩:∃ q,p.2.pss[j]? = some q:=⟨_,List.getElem?_eq_getElem hlt2⟩
     obtain ⟨bk2,off2,vl,rfl,hbk2,hcap2,hmx2,_,hQ,y0,y1,y2,y3⟩:=pss_get HQ.out hq
     have cw:∀ o,wr.cell? ⟨bk2,o,none⟩ = w₀.cell? ⟨bk2,o,none⟩:=fun o => (hW.trans (hb.mono hm)).cell (p:=⟨bk2,o,none⟩) hbk2
     rw [← cw] at y0 y1 y2 y3
     unfold maxLen at hmx2
     obtain ⟨pl,cl,rfl⟩:=SelsAt.len hQ
     have hji:(j:Int) < (p.2.pss.length:Int):=by omega
     obtain ⟨X,hX⟩:∃ X,wr.alloc (.cells #[.int .i64 q.kind,.int .i64 q.a,.int .i64 q.b,.slice pl q.list.length cl] 160) = X:=⟨_,rfl⟩
     have kX:Blk X wr.heap.size 160 [.int .i64 q.kind,.int .i64 q.a,.int .i64 q.b,.slice pl q.list.length cl]:=by rw [← hX];exact Blk.new wr 160 _
     have bX:Below n₀ W X:=by rw [← hX];exact hb.alloc (by omega) _
     have jX:J pre' X:=by rw [← hX];exact HA.out.alloc _ hJ
     obtain ⟨⟨z0,z1,z2,z3⟩,_⟩:=blk4 kX
     have hl:=isListed_any q.kind q.a q.b pl q.list.length cl X
     have hlq:(decide (q.kind = 7) || decide (q.kind = 8)) = listed q:=rfl
     rw [hlq] at hl
     have HQ2:Hid (SelsAt d m w₀ (.slice pl q.list.length cl) q.list):=hQ
     have HPRE:Hid (pre'.map Prod.snd = listsTo s i ++ listsIn p j):=hpre
     have HY:Hid (∀ pre x W1,J pre W1 → (SelsAt d m w₀ x.1 x.2 ∧ ∃ rest,pre.map Prod.snd ++ x.2 :: rest = listsV s) → W.heap.size ≤ W1.heap.size → YieldAt Fence.wide (n - 1) Tryz.prog l #[x.1] W1 fun e W' => (e = .returned (.bool true) ∧ J (pre ++ [x]) W' ∧ Below n₀ W1 W') ∨ (e = .returned (.bool false) ∧ Jx (pre ++ [x]) W')):=hY
     clear cw hQ hpre hlq hY
     gi_wp2_with fail
     refine ⟨trivial,fun h => (by cases h),?_⟩
     refine (callsIn_wide.2 hl).mono ?_
     clear hl
     rintro e X2 ⟨rfl,b2⟩
     have k2:=kX.next b2
     have bX2:Below n₀ W X2:=bX.trans (b2.mono (Nat.le_trans hn₀ bX.size))
     have jX2:J pre' X2:=HA.out _ _ _ none jX (grown_of_below b2 none) (fun _ h => by cases h)
     obtain ⟨⟨t0,t1,t2,t3⟩,_⟩:=blk4 k2
     clear z0 z1 z2 z3 y0 y1 y2 y3 kX k2 hX b2 bX jX hJ hb
     cases hls:listed q with
     | true =>
      obtain ⟨fn,tmps,assign,body,hy,hR⟩:=HY.out pre' (.slice pl q.list.length cl,q.list) X2 jX2 ⟨HQ2.out,by
       obtain ⟨r,hr⟩:=listsIn_rest hq hls
       refine ⟨r ++ rs,?_⟩
       show _ = listsV s
       rw [show listsV s = _ from HRS.out,hr,show pre'.map Prod.snd = _ from HPRE.out]
       simp⟩ bX2.size
      have HE:Hid ((pre' ++ [(Value.slice pl q.list.length cl,q.list)]).map Prod.snd = listsTo s i ++ listsIn p (j + 1)):=by
       show _ = _
       rw [listsIn_yes hq hls,List.map_append,show pre'.map Prod.snd = _ from HPRE.out]
       simp
      clear HY HPRE hls
      gi_wp2_with fail
      refine ⟨fun h => (by cases h),hR.mono ?_⟩
      rintro e w2 (⟨rfl,hJ2,hb2⟩ | ⟨rfl,hJ2⟩)
      ·have hB2:=bX2.trans hb2
       gi_wp2
       go_roundw
       case rel => exact ⟨j + 1,_,rfl,by omega,HE.out,hJ2,hB2⟩
       case measure => simp [intOf];omega
      ·gi_wp2
       refine bodyPost_ret (results_none rfl _ _ _) rfl ?_
       exact ⟨⟨_,rfl⟩,.inr ⟨_,trivial,hJ2⟩⟩
     | false =>
      have HE:Hid (pre'.map Prod.snd = listsTo s i ++ listsIn p (j + 1)):=by
       show _ = _
       rw [listsIn_no hq hls]
       exact HPRE.out
      clear HY HPRE hls
      gi_wp2
      refine ⟨fun _ h => (by cases h),?_⟩
      gi_wp2
      go_roundw
      case rel => exact ⟨j + 1,_,rfl,by omega,HE.out,jX2,bX2⟩
      case measure => simp [intOf];omega
    ·obtain rfl:j = p.2.pss.length:=by omega
     have HE:Hid (pre'.map Prod.snd = listsTo s (i + 1)):=by rw [show listsTo s (i + 1) = _ from HN.out];exact hpre
     have hge:¬ ((p.2.pss.length:Int) < (p.2.pss.length:Int)):=by omega
     clear hpre HRS HN HQ
     gi_wp2
     go_roundw
     case rel => exact ⟨i + 1,pre',rfl,by omega,HE.out,hJ,hb⟩
     case measure => simp [intOf];omega
  ·obtain rfl:i = s.length:=by omega
   have HE:Hid (pre.map Prod.snd = listsV s):=by rw [← listsTo_all s];exact hpre
   clear hpre hc
   gi_wp2
   go_end0
   exact ⟨⟨_,rfl⟩,.inl ⟨pre,HE.out,hJ⟩⟩
theorem listsOf_in (n:Nat) (v:Value) (hv:∃ p m c,v = .slice p m c) (w:World) :
  CallsIn Fence.wide n Tryz.prog 92 #[.agg #[v]] w fun e w' => e = .returned (.func (.func 110) #[] #[.pointer (some ⟨w.heap.size,0,none⟩)]) ∧ w' = w.alloc (.cells #[v] 117):=by
 obtain ⟨p,m,c,rfl⟩:=hv
 refine callsIn_of_wp Tryz.func92 rfl trivial ?_ rfl
 simp only [Tryz.ntmps92,List.size_toArray,List.length_cons,List.length_nil,Nat.reduceAdd,Nat.reduceSub,Array.replicate_succ,Array.replicate_zero,List.push_toArray,List.append_toArray,List.nil_append,List.cons_append]
 gi_wp2
 go_ret
 exact ⟨rfl,rfl⟩
theorem egLists:∀ args w,(callFunc 110 args).run Tryz.prog w = .ok (.enter 110 args) w:=enters_of Tryz.func110 (by kernel_rfl) rfl
theorem listsOf_seq (n B n₀ d m:Nat) (s:Sel) (v:Value) (w₀:World) (hP:PartsAt d m w₀ v s) (w:World) (hB:B < n₀) (hm:m ≤ n₀) (hn₀:n₀ ≤ w.heap.size) (hW:Below m w₀ w) (hc:w.cell? ⟨B,0,none⟩ = some v) :
  SeqZ Fence.wide n Tryz.prog 110 #[.pointer (some ⟨B,0,none⟩)] (fun x:Value × List Sel => #[x.1]) n₀ (fun xs => xs.map Prod.snd = listsV s) (fun _ => True) (fun pre x => SelsAt d m w₀ x.1 x.2 ∧ ∃ rest,pre.map Prod.snd ++ x.2 :: rest = listsV s) 0 w:=fun l J Jx W hW' hJ _ hY h0 =>
 listsOf1_in n l B n₀ d m s v w₀ hP J Jx W hB hm (Nat.le_trans hn₀ hW'.size) (hW.trans (hW'.mono (Nat.le_trans hm hn₀))) hJ
  (fun pre x W1 h1 h2 h3 => (hY pre x W1 h1 h2 h3).mono (fun _ _ h => h.elim (fun h => .inl ⟨h.1,h.2.1,h.2.2.below⟩) (fun h => .inr h)))
  ((hW'.cell (p:=⟨B,0,none⟩) (by simp;omega)).trans hc) h0
end Go.Proofs.YtcmmdojlhfmddaaGreat.Mt
