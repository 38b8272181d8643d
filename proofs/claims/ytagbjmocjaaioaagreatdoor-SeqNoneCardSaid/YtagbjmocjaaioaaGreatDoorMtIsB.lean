/- package match: the lists that lie in a selector, as an iterator. -/
import Derived.Test.YtagbjmocjaaioaaGreatDoorMtMem
import Derived.Test.YtagbjmocjaaioaaGreatDoorSeqZ
import Derived.Test.YtagbjmocjaaioaaGreatDoorSeqW
import Derived.Test.YtagbjmocjaaioaaGreatDoorMtInv
import Derived.Test.YtagbjmocjaaioaaGreatDoorRgn
import Derived.Test.YtagbjmocjaaioaaGreatDoorMtNext
import Derived.RangeFuncBox
import Derived.Shelf.RegionOpen
import Derived.LoopIn
import Derived.WideLaws
import Derived.Laws.EntriesVeiled
import Derived.OwnWalkIn
import Derived.Maps.OwnIn
set_option maxRecDepth 100000
namespace Go.Proofs.YtagbjmocjaaioaaGreatDoor.Mt
open Go.Proofs.YtagbjmocjaaioaaGreatDoor.Tre
open Go Go.RowKit Go.Shelf Dm
attribute [local go_sem] Oper.semAt_some
theorem isListed_any (k a b:Int) (p:Option Addr) (m c:Nat) (w:World) :
  Calls Tryz.prog 257 #[.agg #[.int .i64 k,.int .i64 a,.int .i64 b,.slice p m c]] w fun e w' => e = .returned (.bool (decide (k = 7) || decide (k = 8))) ∧ Below w.heap.size w w':=by
 have hB:Below w.heap.size w (w.alloc (.cells #[.int .i64 k,.int .i64 a,.int .i64 b,.slice p m c] 174)):=(Below.refl _ _).alloc (Nat.le_refl _) _
 by_cases h7:k = 7
 ·subst h7
  go_enter Tryz.func257,Tryz.ntmps257
  go_wp2
  go_ret
  exact ⟨rfl,hB⟩
 ·have h7':(k == 7) = false:=by simpa using h7
  rw [decide_eq_false h7,Bool.false_or]
  go_enter Tryz.func257,Tryz.ntmps257
  go_wp2
  go_ret
  exact ⟨rfl,hB⟩
def listsTo (s:Sel) (i:Nat):List (List Sel):=listsV (s.take i)
def listsIn (p:Pt) (j:Nat):List (List Sel):=((p.2.pss.take j).filter listed).map Ps.list
theorem listsTo_all (s:Sel):listsTo s s.length = listsV s:=by simp [listsTo]
theorem listsTo_next {s:Sel} {i:Nat} {p:Pt} (h:s[i]? = some p):listsTo s (i + 1) = listsTo s i ++ listsIn p p.2.pss.length:=by
 simp [listsTo,listsV,listsIn,List.take_add_one,h]
theorem listsIn_zero (p:Pt):listsIn p 0 = []:=rfl
theorem listsIn_yes {p:Pt} {j:Nat} {q:Ps} (h:p.2.pss[j]? = some q) (hl:listed q = true):listsIn p (j + 1) = listsIn p j ++ [q.list]:=by
 simp [listsIn,List.take_add_one,h,hl]
theorem listsIn_no {p:Pt} {j:Nat} {q:Ps} (h:p.2.pss[j]? = some q) (hl:listed q = false):listsIn p (j + 1) = listsIn p j:=by
 simp [listsIn,List.take_add_one,h,hl]
theorem listsIn_rest {p:Pt} {j:Nat} {q:Ps} (h:p.2.pss[j]? = some q) (hl:listed q = true):∃ r,listsIn p p.2.pss.length = listsIn p j ++ q.list :: r:=by
 have hj:=(List.getElem?_eq_some_iff.1 h).1
 have:p.2.pss = p.2.pss.take (j + 1) ++ p.2.pss.drop (j + 1):=(List.take_append_drop _ _).symm
 refine ⟨((p.2.pss.drop (j + 1)).filter listed).map Ps.list,?_⟩
 have e:=listsIn_yes h hl
 unfold listsIn at e ⊢
 rw [List.take_length]
 conv => lhs;rw [this]
 rw [List.filter_append,List.map_append,e]
 simp
theorem listsTo_rest {s:Sel} {i:Nat} {p:Pt} (h:s[i]? = some p):∃ r,listsV s = listsTo s i ++ (listsIn p p.2.pss.length ++ r):=by
 refine ⟨listsV (s.drop (i + 1)),?_⟩
 rw [← List.append_assoc,← listsTo_next h]
 unfold listsTo listsV
 rw [← List.flatMap_append,List.take_append_drop]
set_option maxHeartbeats 4000000 in
theorem listsOf1_in (n l B n₀ d m:Nat) (s:Sel) (v:Value) (w₀:World) (hP:PartsAt d m w₀ v s) (J Jx:List (Value × List Sel) → World → Prop) (W:World) (_hB:B < n₀) (hm:m ≤ n₀) (hn₀:n₀ ≤ W.heap.size) (hW:Below m w₀ W)
  (hA:AbidesIn W.heap.size W.heap.size J)
  (hY:∀ pre x W1,J pre W1 → (SelsAt d m w₀ x.1 x.2 ∧ ∃ rest,pre.map Prod.snd ++ x.2 :: rest = listsV s) → W.heap.size ≤ W1.heap.size → YieldAt Fence.wide (n - 1) Tryz.prog l #[x.1] W1 fun e W' => (e = .returned (.bool true) ∧ J (pre ++ [x]) W' ∧ Below n₀ W1 W') ∨ (e = .returned (.bool false) ∧ Jx (pre ++ [x]) W'))
  (hc:W.cell? ⟨B,0,none⟩ = some v) (h0:J [] W) :
  CallsIn Fence.wide n Tryz.prog 256 #[.func (.yield l) #[] #[],.pointer (some ⟨B,0,none⟩)] W fun e W' => (∃ v,e = .returned v) ∧ ((∃ xs,xs.map Prod.snd = listsV s ∧ J xs W') ∨ (∃ pre,True ∧ Jx pre W')):=by
 obtain ⟨pp,cp,rfl⟩:=RowT.len hP
 have hsh:=RowT.short hP
 unfold maxLen at hsh
 refine callsIn_of_wp Tryz.func256 rfl trivial ?_ rfl
 simp only [Tryz.ntmps256,List.size_toArray,List.length_cons,List.length_nil,Nat.reduceAdd,Nat.reduceSub,Array.replicate_succ,Array.replicate_zero,List.push_toArray,List.append_toArray,List.nil_append,List.cons_append]
 have HP:Hid (PartsAt d m w₀ (.slice pp s.length cp) s):=hP
 have HA:Hid (AbidesIn W.heap.size W.heap.size J):=hA
 clear hP hA
 gi_wp2
 gi_loopw [10] (fun x wr => ∃ (i:Nat) (pre:List (Value × List Sel)),x = .int .i64 i ∧ i ≤ s.length ∧ pre.map Prod.snd = listsTo s i ∧ J pre wr ∧ Below n₀ W wr) (fun x _ => s.length - (intOf x).toNat)
 case atStart => exact ⟨0,[],rfl,Nat.zero_le _,rfl,h0,Below.refl _ _⟩
 case round =>
  obtain ⟨i,pre,rfl,hi,hpre,hJ,hb⟩:=hrel
  have hs0:=hb.size
  by_cases hlt:i < s.length
  ·obtain ⟨p,hp⟩:∃ p,s[i]? = some p:=⟨_,List.getElem?_eq_getElem hlt⟩
   obtain ⟨bk,off,vi,vc,va,vp,rfl,hbk,hcap,hmx,_,⟨x0,x1,x2,x3,x4,x5⟩,q1,q2,q3,q4,_,_⟩:=PartsAt.get HP.out hp
   have cw:∀ o,wr.cell? ⟨bk,o,none⟩ = w₀.cell? ⟨bk,o,none⟩:=fun o => (hW.trans (hb.mono hm)).cell (p:=⟨bk,o,none⟩) hbk
   rw [← cw] at x0 x1 x2 x3 x4 x5
   unfold maxLen at hmx
   have HQ:Hid (RowT 4 (PsT (SelsAt d m w₀)) m w₀ vp p.2.pss):=q4
   have hps:=RowT.short q4
   unfold maxLen at hps
   obtain ⟨p4,c4,rfl⟩:=RowT.len q4
   obtain ⟨p1,c1,rfl⟩:=SlR.len q1
   obtain ⟨p2,c2,rfl⟩:=SlR.len q2
   obtain ⟨p3,c3,rfl⟩:=SlR.len q3
   have hii:(i:Int) < (s.length:Int):=by omega
   obtain ⟨rs,hrs⟩:=listsTo_rest hp
   have HRS:Hid (_ = _):=hrs
   have HN:Hid (_ = _):=listsTo_next hp
   have HPRE:Hid (pre.map Prod.snd = listsTo s i):=hpre
   clear q1 q2 q3 q4 hc cw hrs hpre
   gi_wp2
   gi_loopw [18] (fun x wx => ∃ (j:Nat) (pre':List (Value × List Sel)),x = .int .i64 j ∧ j ≤ p.2.pss.length ∧ pre'.map Prod.snd = listsTo s i ++ listsIn p j ∧ J pre' wx ∧ Below n₀ W wx) (fun x _ => p.2.pss.length - (intOf x).toNat)
   case atStart =>
    exact ⟨0,pre,rfl,Nat.zero_le _,by rw [listsIn_zero,List.append_nil];exact HPRE.out,HA.out.alloc _ hJ,hb.alloc (by omega) _⟩
   case round =>
    clear x0 x1 x2 x3 x4 x5 HPRE hJ hb hs0
    obtain ⟨j,pre',rfl,hj,hpre,hJ,hb⟩:=hrel
    have hs0:=hb.size
    by_cases hlt2:j < p.2.pss.length
    ·obtain ⟨q,hq⟩:∃ q,p.2.pss[j]? = some q:=⟨_,List.getElem?_eq_getElem hlt2⟩
     obtain ⟨bk2,off2,vl,rfl,hbk2,hcap2,hmx2,_,hQ,y0,y1,y2,y3⟩:=pss_get HQ.out hq
     have cw:∀ o,wr.cell? ⟨bk2,o,none⟩ = w₀.cell? ⟨bk2,o,none⟩:=fun o => (hW.trans (hb.mono hm)).cell (p:=⟨bk2,o,none⟩) hbk2
     rw [← cw] at y0 y1 y2 y3
     unfold maxLen at hmx2
     obtain ⟨pl,cl,rfl⟩:=SelsAt.len hQ
     have hji:(j:Int) < (p.2.pss.length:Int):=by omega
     obtain ⟨X,hX⟩:∃ X,wr.alloc (.cells #[.int .i64 q.kind,.int .i64 q.a,.int .i64 q.b,.slice pl q.list.length cl] 174) = X:=⟨_,rfl⟩
     have kX:Blk X wr.heap.size 174 [.int .i64 q.kind,.int .i64 q.a,.int .i64 q.b,.slice pl q.list.length cl]:=by rw [← hX];exact Blk.new wr 174 _
     have bX:Below n₀ W X:=by rw [← hX];exact hb.alloc (by omega) _
     have jX:J pre' X:=by rw [← hX];exact HA.out.alloc _ hJ
     obtain ⟨⟨z0,z1,z2,z3⟩,_⟩:=blk4 kX
     have hl:=isListed_any q.kind q.a q.b pl q.list.length cl X
     have hlq:(decide (q.kind = 7) || decide (q.kind = 8)) = listed q:=rfl
     rw [hlq] at hl
     have HQ2:Hid (SelsAt d m w₀ (.slice pl q.list.length cl) q.list):=hQ
     have HPRE:Hid (pre'.map Prod.snd = listsTo s i ++ listsIn p j):=hpre
     have HY:Hid (∀ pre x W1,J pre W1 → (SelsAt d m w₀ x.1 x.2 ∧ ∃ rest,pre.map Prod.snd ++ x.2 :: rest = listsV s) → W.heap.size ≤ W1.heap.size → YieldAt Fence.wide (n - 1) Tryz.prog l #[x.1] W1 fun e W' => (e = .returned (.bool true) ∧ J (pre ++ [x]) W' ∧ Below n₀ W1 W') ∨ (e = .returned (.bool false) ∧ Jx (pre ++ [x]) W')):=hY
     clear cw hQ hpre hlq hY
     gi_wp2_with fail
     refine ⟨trivial,fun h => (by cases h),?_⟩
     refine (callsIn_wide.2 hl).mono ?_
     clear hl
     rintro e X2 ⟨rfl,b2⟩
     have k2:=kX.next b2
     have bX2:Below n₀ W X2:=bX.trans (b2.mono (Nat.le_trans hn₀ bX.size))
     have jX2:J pre' X2:=HA.out _ _ _ none jX (grown_of_below b2 none) (fun _ h => by cases h)
     obtain ⟨⟨t0,t1,t2,t3⟩,_⟩:=blk4 k2
     clear z0 z1 z2 z3 y0 y1 y2 y3 kX k2 hX b2 bX jX hJ hb
     cases hls:listed q with
     | true =>
      obtain ⟨fn,tmps,assign,body,hy,hR⟩:=HY.out pre' (.slice pl q.list.length cl,q.list) X2 jX2 ⟨HQ2.out,by
       obtain ⟨r,hr⟩:=listsIn_rest hq hls
       refine ⟨r ++ rs,?_⟩
       show _ = listsV s
       rw [show listsV s = _ from HRS.out,hr,show pre'.map Prod.snd = _ from HPRE.out]
       simp⟩ bX2.size
      have HE:Hid ((pre' ++ [(Value.slice pl q.list.length cl,q.list)]).map Prod.snd = listsTo s i ++ listsIn p (j + 1)):=by
       show _ = _
       rw [listsIn_yes hq hls,List.map_append,show pre'.map Prod.snd = _ from HPRE.out]
       simp
      clear HY HPRE hls
      gi_wp2_with fail
      refine ⟨fun h => (by cases h),hR.mono ?_⟩
      rintro e w2 (⟨rfl,hJ2,hb2⟩ | ⟨rfl,hJ2⟩)
      ·have hB2:=bX2.trans hb2
       gi_wp2
       go_roundw
       case rel => exact ⟨j + 1,_,rfl,by omega,HE.out,hJ2,hB2⟩
       case measure => simp [intOf];omega
      ·gi_wp2
       refine bodyPost_ret (results_none rfl _ _ _) rfl ?_
       exact ⟨⟨_,rfl⟩,.inr ⟨_,trivial,hJ2⟩⟩
     | false =>
      have HE:Hid (pre'.map Prod.snd = listsTo s i ++ listsIn p (j + 1)):=by
       show _ = _
       rw [listsIn_no hq hls]
       exact HPRE.out
      clear HY HPRE hls
      gi_wp2
      refine ⟨fun _ h => (by cases h),?_⟩
      gi_wp2
      go_roundw
      case rel => exact ⟨j + 1,_,rfl,by omega,HE.out,jX2,bX2⟩
      case measure => simp [intOf];omega
    ·obtain rfl:j = p.2.pss.length:=by omega
     have HE:Hid (pre'.map Prod.snd = listsTo s (i + 1)):=by rw [show listsTo s (i + 1) = _ from HN.out];exact hpre
     have hge:¬ ((p.2.pss.length:Int) < (p.2.pss.length:Int)):=by omega
     clear hpre HRS HN HQ
     gi_wp2
     go_roundw
     case rel => exact ⟨i + 1,pre',rfl,by omega,HE.out,hJ,hb⟩
     case measure => simp [intOf];omega
  ·obtain rfl:i = s.length:=by omega
   have HE:Hid (pre.map Prod.snd = listsV s):=by rw [← listsTo_all s];exact hpre
   clear hpre hc
   gi_wp2
   go_end0
   exact ⟨⟨_,rfl⟩,.inl ⟨pre,HE.out,hJ⟩⟩
theorem listsOf_in (n:Nat) (v:Value) (hv:∃ p m c,v = .slice p m c) (w:World) :
  CallsIn Fence.wide n Tryz.prog 215 #[.agg #[v]] w fun e w' => e = .returned (.func (.func 256) #[] #[.pointer (some ⟨w.heap.size,0,none⟩)]) ∧ w' = w.alloc (.cells #[v] 86):=by
 obtain ⟨p,m,c,rfl⟩:=hv
 refine callsIn_of_wp Tryz.func215 rfl trivial ?_ rfl
 simp only [Tryz.ntmps215,List.size_toArray,List.length_cons,List.length_nil,Nat.reduceAdd,Nat.reduceSub,Array.replicate_succ,Array.replicate_zero,List.push_toArray,List.append_toArray,List.nil_append,List.cons_append]
 gi_wp2
 go_ret
 exact ⟨rfl,rfl⟩
theorem egLists:∀ args w,(callFunc 256 args).run Tryz.prog w = .ok (.enter 256 args) w:=enters_of Tryz.func256 (by kernel_rfl) rfl
theorem listsOf_seq (n B n₀ d m:Nat) (s:Sel) (v:Value) (w₀:World) (hP:PartsAt d m w₀ v s) (w:World) (hB:B < n₀) (hm:m ≤ n₀) (hn₀:n₀ ≤ w.heap.size) (hW:Below m w₀ w) (hc:w.cell? ⟨B,0,none⟩ = some v) :
  SeqZ Fence.wide n Tryz.prog 256 #[.pointer (some ⟨B,0,none⟩)] (fun x:Value × List Sel => #[x.1]) n₀ (fun xs => xs.map Prod.snd = listsV s) (fun _ => True) (fun pre x => SelsAt d m w₀ x.1 x.2 ∧ ∃ rest,pre.map Prod.snd ++ x.2 :: rest = listsV s) 0 w:=fun l J Jx W hW' hJ _ hY h0 =>
 listsOf1_in n l B n₀ d m s v w₀ hP J Jx W hB hm (Nat.le_trans hn₀ hW'.size) (hW.trans (hW'.mono (Nat.le_trans hm hn₀))) hJ
  (fun pre x W1 h1 h2 h3 => (hY pre x W1 h1 h2 h3).mono (fun _ _ h => h.elim (fun h => .inl ⟨h.1,h.2.1,h.2.2.below⟩) (fun h => .inr h)))
  ((hW'.cell (p:=⟨B,0,none⟩) (by simp;omega)).trans hc) h0
end Go.Proofs.YtagbjmocjaaioaaGreatDoor.Mt

/- package match: foundOf: the verdicts of a part. -/
set_option maxRecDepth 100000
namespace Go.Proofs.YtagbjmocjaaioaaGreatDoor.Mt
open Go.Proofs.YtagbjmocjaaioaaGreatDoor.Tre
open Go Go.RowKit Dm
def reps {α:Type} (n:Nat) (z:α):List α:=List.replicate n z
theorem reps_get {α:Type} {n i:Nat} {z x:α} (h:(reps n z)[i]? = some x):x = z:=by
 unfold reps at h
 rw [List.getElem?_replicate] at h
 split at h
 ·exact (Option.some.inj h).symm
 ·cases h
theorem reps_len {α:Type} (n:Nat) (z:α):(reps n z).length = n:=List.length_replicate ..
theorem made_one (z:Value) (n:Nat):madeCells #[z] n = (reps n z).toArray:=by
 apply Array.ext
 ·simp [madeCells,reps]
 ·intro i h1 h2
  simp [madeCells,Nat.mod_one,reps]
theorem infoRow:(Tryz.prog.info? 314).map (fun i => (i.zero,i.size,i.bytes)) = some (some (.slice none 0 0),1,24):=by kernel_rfl
theorem infoVd:(Tryz.prog.info? 316).map (fun i => (i.zero,i.size,i.bytes)) = some (some (.int .u8 0),1,1):=by kernel_rfl
theorem infoPtr:(Tryz.prog.info? 257).map (fun i => (i.zero,i.size,i.bytes)) = some (some (.pointer none),1,8):=by kernel_rfl
theorem make_of {t e:TypeId} {z:Value} {by_:Nat} (ht:Tryz.prog.underlying t = some (.slice e)) (hinfo:(Tryz.prog.info? e).map (fun i => (i.zero,i.size,i.bytes)) = some (some z,1,by_)) (hz:z.cells = #[z]) (n:Nat) (hn:n * by_ ≤ 281474976710656) (hn2:n ≤ 9223372036854775807) (w:World) :
  (Instr.makeSlice t (.int .i64 n) (.int .i64 n)).run Tryz.prog w = .ok (wide w.heap.size n) (w.alloc (.cells (reps n z).toArray e)):=by
 obtain ⟨i0,hi,hz0,hz1,hz2⟩:=info_parts hinfo
 have:=run_make w t e i0 z ht hi hz0 .i64 .i64 (n:Int) (n:Int) (by omega) (Int.le_refl _) (by rw [hz2,Int.mul_comm];omega) (by omega)
 rw [this,Int.toNat_natCast,hz1,Nat.mul_one,hz,made_one]
 rfl
theorem eqInNil {t e:TypeId} (ht:Tryz.prog.underlying t = some (.slice e)) (d:Nat) (w:World) (p:Option Addr) (n c:Nat):(Op.equalIn (d + 1) t (.slice p n c) (.slice none 0 0)).run Tryz.prog w = .ok p.isNone w:=by
 cases p <;> simp [Op.equalIn,run_underlying ht]
theorem eqlNil {t e:TypeId} (ht:Tryz.prog.underlying t = some (.slice e)) (w:World) (p:Option Addr) (n c:Nat):(binOp .eql t (.slice p n c) (.slice none 0 0)).run Tryz.prog w = .ok (.bool p.isNone) w:=by
 simp only [binOp]
 simp [show Op.equal t (.slice p n c) (.slice none 0 0) = Op.equalIn (9999 + 1) t (.slice p n c) (.slice none 0 0) from rfl,eqInNil ht 9999 w p n c]
theorem blk_alloc {W:World} {B:Nat} {t:TypeId} {cs:List Value} (h:Blk W B t cs) (o:Obj):Blk (W.alloc o) B t cs:=h.next ((Below.refl _ W).alloc (Nat.le_refl _) o)
theorem step_outer {E:Env} {γ:Ghost} {W:World} (hI:Inv E γ W) {A:Nat} {s:Sel} {pv:Value} {f:Nat} (hA:γ A = some (.asked s pv f)) {lv:Value} (kA:Blk W A 225 [ptrV E.tb,pv,.slice none 0 0,lv])
  (hlv:lv = .map none ∨ ∃ M,lv = .map (some M) ∧ γ M = some (.mapr A)) :
  Step E γ W (addG γ W.heap.size (.outer A)) ((W.alloc (.cells (reps s.length (.slice none 0 0)).toArray 314)).setCell ⟨A,2,none⟩ (wide W.heap.size s.length)) ∧
   Blk ((W.alloc (.cells (reps s.length (.slice none 0 0)).toArray 314)).setCell ⟨A,2,none⟩ (wide W.heap.size s.length)) A 225 [ptrV E.tb,pv,wide W.heap.size s.length,lv]:=by
 have hlt:=hI.lt hA
 obtain ⟨hP,hf,_⟩:=(hI.each A _ hA).2.choose_spec.2
 have h1:Step E γ W (addG γ W.heap.size (.outer A)) (W.alloc (.cells (reps s.length (.slice none 0 0)).toArray 314)):=by
  refine hI.add (Nat.le_refl _) ((Below.refl _ W).alloc (Nat.le_refl _) _) (heap_alloc_new W _) ⟨s,pv,f,?_,_,rfl,reps_len _ _,fun k r hr => ?_⟩
  ·exact addG_mono hI (Nat.le_refl _) _ _ _ hA
  ·exact .inl (reps_get hr)
 have hA1:addG γ W.heap.size (.outer A) A = some (.asked s pv f):=addG_mono hI (Nat.le_refl _) _ _ _ hA
 have k1:=blk_put (blk_alloc kA (.cells (reps s.length (.slice none 0 0)).toArray 314)) 2 (wide W.heap.size s.length)
 refine ⟨h1.trans (h1.inv.put hA1 (grown_set _ _ _ _) k1 ⟨hP,hf,_,_,rfl,.inr ⟨_,rfl,addG_same _ _ _⟩,?_⟩),k1⟩
 rcases hlv with h | ⟨M,h,hM⟩
 ·exact .inl h
 ·exact .inr ⟨M,h,addG_mono hI (Nat.le_refl _) _ _ _ hM⟩
theorem step_verd {E:Env} {γ:Ghost} {W:World} (hI:Inv E γ W) {A F k:Nat} {s:Sel} {pv:Value} {f:Nat} (hA:γ A = some (.asked s pv f)) (hF:γ F = some (.outer A)) {rows:List Value} (kF:Blk W F 314 rows) (hk:k < s.length) :
  Step E γ W (addG γ W.heap.size (.verd A k)) ((W.alloc (.cells (reps E.qs.length (.int .u8 0)).toArray 316)).setCell ⟨F,k,none⟩ (wide W.heap.size E.qs.length)) ∧
   Blk ((W.alloc (.cells (reps E.qs.length (.int .u8 0)).toArray 316)).setCell ⟨F,k,none⟩ (wide W.heap.size E.qs.length)) F 314 (rows.set k (wide W.heap.size E.qs.length)):=by
 have h1:Step E γ W (addG γ W.heap.size (.verd A k)) (W.alloc (.cells (reps E.qs.length (.int .u8 0)).toArray 316)):=by
  refine hI.add (Nat.le_refl _) ((Below.refl _ W).alloc (Nat.le_refl _) _) (heap_alloc_new W _) ⟨s,pv,f,addG_mono hI (Nat.le_refl _) _ _ _ hA,reps E.qs.length 0,?_,reps_len _ _,fun x v hv => .inl (reps_get hv)⟩
  simp [reps]
 have hF1:addG γ W.heap.size (.verd A k) F = some (.outer A):=addG_mono hI (Nat.le_refl _) _ _ _ hF
 obtain ⟨_,o,ho,s',pv',f',hA',rows',rfl,hr1,hr2⟩:=hI.each F _ hF
 rw [hA] at hA'
 cases hA'
 obtain rfl:rows' = rows:=by
  rw [show W.heap[F]? = _ from kF] at ho
  injection ho with ho
  injection ho with ho
  simpa using ho.symm
 have k1:=blk_put (blk_alloc kF (.cells (reps E.qs.length (.int .u8 0)).toArray 316)) k (wide W.heap.size E.qs.length)
 refine ⟨h1.trans (h1.inv.put hF1 (grown_set _ _ _ _) k1 ⟨s,pv,f,addG_mono hI (Nat.le_refl _) _ _ _ hA,_,rfl,by simp [hr1],fun k' r hr => ?_⟩),k1⟩
 rcases set_at hr with ⟨rfl,rfl⟩ | ⟨_,hr⟩
 ·exact .inr ⟨_,rfl,addG_same _ _ _⟩
 ·rcases hr2 k' r hr with h | ⟨V,h,hV⟩
  ·exact .inl h
  ·exact .inr ⟨V,h,addG_mono hI (Nat.le_refl _) _ _ _ hV⟩
theorem cell_row {W:World} {F:Nat} {t:TypeId} {rows:List Value} (k:Blk W F t rows) {i:Nat} {r:Value} (h:rows[i]? = some r):W.cell? ⟨F,i,none⟩ = some r ∧ W.frozen? ⟨F,i,none⟩ = false:=by
 simp [World.cell?,World.frozen?,show W.heap[F]? = _ from k,h]
set_option maxHeartbeats 4000000 in
theorem foundOf_any (E:Env) (hE:EnvOk E) (γ:Ghost) (W:World) (hI:Inv E γ W) (A:Nat) (s:Sel) (pv:Value) (f:Nat) (hA:γ A = some (.asked s pv f)) (k:Nat) (hk:k < s.length) :
  Calls Tryz.prog 289 #[ptrV A,.int .i64 k] W fun x W' => ∃ V γ',x = .returned (wide V E.qs.length) ∧ γ' V = some (.verd A k) ∧ Step E γ W γ' W':=by
 obtain ⟨⟨d,hP⟩,hfit,fv,lv,kA,hfv,hlv⟩:=hI.asked hA
 have hs50:=fits_len hfit
 obtain ⟨pp,cp,rfl⟩:=RowT.len hP
 have hfew:=hE.few
 unfold ptrV
 unfold ptrV at kA
 have HE:Hid (EnvOk E):=hE
 have HIV:Hid (Inv E γ W):=hI
 have HA:Hid (γ A = some (.asked s (.slice pp s.length cp) f)):=hA
 obtain ⟨⟨c0,c1,c2,c3⟩,f0,f1,f2,f3⟩:=blk4 kA
 have hmk:=fun X => make_of Tryz.underlying222 infoRow rfl s.length (by omega) (by omega) X
 have hmv:=fun X => make_of Tryz.underlying314 infoVd rfl E.qs.length (by omega) (by omega) X
 have heo:=fun X p n c => eqlNil Tryz.underlying222 X p n c
 have hev:=fun X p n c => eqlNil Tryz.underlying314 X p n c
 have KA:Hid (Blk W A 225 [.pointer (some ⟨E.tb,0,none⟩),.slice pp s.length cp,fv,lv]):=kA
 clear hE hI hA hP kA
 have hki:(k:Int) < (s.length:Int):=by omega
 unfold wide at hmk hmv ⊢
 go_enter Tryz.func289,Tryz.ntmps289
 obtain ⟨pf,nf,hff⟩:∃ pf nf,fv = .slice pf nf nf:=by
  rcases hfv with rfl | ⟨F,rfl,hF⟩
  ·exact ⟨_,_,rfl⟩
  ·exact ⟨_,_,rfl⟩
 subst hff
 have h1:=heo W pf nf nf
 go_upto_if 9 with fail
 clear h1
 go_cut [] (fun wx => ∃ γ1 F,Step E γ W γ1 wx ∧ γ1 A = some (.asked s (.slice pp s.length cp) f) ∧ γ1 F = some (.outer A) ∧ Blk wx A 225 [.pointer (some ⟨E.tb,0,none⟩),.slice pp s.length cp,.slice (some ⟨F,0,none⟩) s.length s.length,lv])
 case first =>
  rcases hfv with e | ⟨F,e,hF⟩
  ·cases e
   have h2:=hmk W
   obtain ⟨st,k1⟩:=step_outer HIV.out HA.out KA.out hlv
   unfold wide at st k1
   unfold ptrV at k1
   have c2':=(blk4 (blk_alloc KA.out (.cells (reps s.length (.slice none 0 0)).toArray 314))).1.2.2.1
   have f2':=(blk4 (blk_alloc KA.out (.cells (reps s.length (.slice none 0 0)).toArray 314))).2.2.2.1
   have FIN:Hid _:=(⟨_,_,st,st.mono HIV.out _ _ HA.out,addG_same _ _ _,k1⟩:∃ γ1 F,Step E γ W γ1 _ ∧ γ1 A = some (.asked s (.slice pp s.length cp) f) ∧ γ1 F = some (.outer A) ∧ Blk _ A 225 [.pointer (some ⟨E.tb,0,none⟩),.slice pp s.length cp,.slice (some ⟨F,0,none⟩) s.length s.length,lv])
   clear st k1 hmk hmv heo hev hlv
   go_wp2
   go_meet
   exact FIN.out
  ·unfold wide at e
   cases e
   have FIN:Hid _:=(⟨γ,F,Step.refl HIV.out,HA.out,hF,KA.out⟩:∃ γ1 F,Step E γ W γ1 W ∧ γ1 A = some (.asked s (.slice pp s.length cp) f) ∧ γ1 F = some (.outer A) ∧ Blk W A 225 [.pointer (some ⟨E.tb,0,none⟩),.slice pp s.length cp,.slice (some ⟨F,0,none⟩) s.length s.length,lv])
   clear hmk hmv heo hev hlv hF
   go_wp2
   go_meet
   exact FIN.out
 case rest =>
  clear c0 c1 c2 c3 f0 f1 f2 f3 KA hfv heo hmk HA hlv
  obtain ⟨γ1,F,st,hA1,hF1,kA⟩:=hcut
  obtain ⟨_,o,ho,s',pv',f',hA',rows,rfl,hr1,hr2⟩:=st.inv.each F _ hF1
  rw [hA1] at hA'
  cases hA'
  have kF:Blk wc F 314 rows:=ho
  obtain ⟨r,hr⟩:∃ r,rows[k]? = some r:=⟨_,List.getElem?_eq_getElem (by omega)⟩
  have hrk:=hr2 k r hr
  have ST:Hid (Step E γ W γ1 wc):=st
  have HA1:Hid (γ1 A = some (.asked s (.slice pp s.length cp) f)):=hA1
  have HF1:Hid (γ1 F = some (.outer A)):=hF1
  have KA:Hid (Blk wc A 225 [.pointer (some ⟨E.tb,0,none⟩),.slice pp s.length cp,.slice (some ⟨F,0,none⟩) s.length s.length,lv]):=kA
  have KF:Hid (Blk wc F 314 rows):=kF
  obtain ⟨⟨c0,c1,c2,c3⟩,f0,f1,f2,f3⟩:=blk4 kA
  obtain ⟨x0,x1⟩:=cell_row kF hr
  have HR:Hid (rows[k]? = some r):=hr
  clear hr2 hA1 hF1 kA kF st ho hr
  obtain ⟨pf,nf,hff⟩:∃ pf nf,r = .slice pf nf nf:=by
   rcases hrk with rfl | ⟨F,rfl,hF⟩
   ·exact ⟨_,_,rfl⟩
   ·exact ⟨_,_,rfl⟩
  subst hff
  have h1:=hev wc pf nf nf
  go_upto_if 26 with fail
  clear h1
  go_cut [] (fun wx => ∃ γ2 V,Step E γ W γ2 wx ∧ γ2 V = some (.verd A k) ∧ Blk wx A 225 [.pointer (some ⟨E.tb,0,none⟩),.slice pp s.length cp,.slice (some ⟨F,0,none⟩) s.length s.length,lv] ∧ wx.cell? ⟨F,k,none⟩ = some (.slice (some ⟨V,0,none⟩) E.qs.length E.qs.length))
  case first =>
   rcases hrk with e | ⟨V,e,hV⟩
   ·cases e
    have q0:Below wc.heap.size wc wc.drew:=below_drew (Below.refl _ _)
    have st2:=ST.out.inv.step q0
    have hl:=len_any E.b E.tb E.g E.cap E.qs wc.drew (st2.inv.tree HE.out)
    have h2:=hmv wc.drew
    obtain ⟨st3,k3⟩:=step_verd st2.inv HA1.out HF1.out (KF.out.next q0) hk
    have x2:=cell_row (blk_alloc KF.out (.cells (reps E.qs.length (.int .u8 0)).toArray 316)) HR.out
    obtain ⟨x2,x3⟩:=x2
    have hne:A ≠ F:=fun e => by
     have h8:=HA1.out
     have h9:=HF1.out
     rw [e] at h8
     rw [show γ1 F = _ from h9] at h8
     cases h8
    have k4:=(blk_alloc (KA.out.next q0) (.cells (reps E.qs.length (.int .u8 0)).toArray 316)).kept (grown_set _ F k (wide wc.drew.heap.size E.qs.length)) (fun e => hne (by cases e;rfl))
    have x4:((wc.drew.alloc (.cells (reps E.qs.length (.int .u8 0)).toArray 316)).setCell ⟨F,k,none⟩ (wide wc.drew.heap.size E.qs.length)).cell? ⟨F,k,none⟩ = some (wide wc.drew.heap.size E.qs.length):=(cell_row k3 (by rw [List.getElem?_set,if_pos rfl,if_pos (by omega)])).1
    have FIN:Hid _:=(⟨_,_,(ST.out.trans st2).trans st3,addG_same _ _ _,k4,x4⟩:∃ γ2 V,Step E γ W γ2 _ ∧ γ2 V = some (.verd A k) ∧ Blk _ A 225 [.pointer (some ⟨E.tb,0,none⟩),.slice pp s.length cp,.slice (some ⟨F,0,none⟩) s.length s.length,lv] ∧ ((wc.drew.alloc (.cells (reps E.qs.length (.int .u8 0)).toArray 316)).setCell ⟨F,k,none⟩ (wide wc.drew.heap.size E.qs.length)).cell? ⟨F,k,none⟩ = some (.slice (some ⟨V,0,none⟩) E.qs.length E.qs.length))
    have HS:Hid (∀ X:World,Below wc.heap.size wc X → X.cell? ⟨A,2,none⟩ = some (.slice (some ⟨F,0,none⟩) s.length s.length) ∧ X.cell? ⟨A,0,none⟩ = some (.pointer (some ⟨E.tb,0,none⟩))):=fun X hX => ⟨(blk4 (KA.out.next hX)).1.2.2.1,(blk4 (KA.out.next hX)).1.1⟩
    have q1:Below wc.heap.size wc (wc.drew.alloc (.cells (reps E.qs.length (.int .u8 0)).toArray 316)):=q0.alloc (Nat.le_refl _) _
    clear st2 st3 k3 k4 x4 hev hmv c0 c1 c2 c3 f0 f1 f2 f3 x0 x1
    unfold wide at FIN
    go_wp2
    refine Rg.wpD_begin [0,1,2,3,4,5,6,7,8,9,10] (fun X => X.cell? ⟨A,2,none⟩ = some (.slice (some ⟨F,0,none⟩) s.length s.length) ∧ X.cell? ⟨A,0,none⟩ = some (.pointer (some ⟨E.tb,0,none⟩))) (by kernel_rfl) ?_
    have HeldS:=HS.out _ q0
    refine Rg.ld 0 HeldS ?_
    simp only [Act.put,Rg.sA,Rg.sB,Rg.sC]
    refine Rg.ld 1 HeldS ?_
    simp only [Act.put,Rg.sA,Rg.sB,Rg.sC]
    refine Rg.ld 2 HeldS ?_
    simp only [Act.put,Rg.sA,Rg.sB,Rg.sC]
    refine Rg.ld 3 HeldS ?_
    simp only [Act.put,Rg.sA,Rg.sB,Rg.sC]
    refine Rg.ld 4 HeldS ?_
    simp only [Act.put,Rg.sA,Rg.sB,Rg.sC]
    refine Rg.ld 5 HeldS ?_
    simp only [Act.put,Rg.sA,Rg.sB,Rg.sC]
    refine Rg.ld 6 HeldS ?_
    simp only [Act.put,Rg.sA,Rg.sB,Rg.sC]
    refine Rg.ld 7 HeldS ?_
    simp only [Act.put,Rg.sA,Rg.sB,Rg.sC]
    refine Rg.ld 8 HeldS ?_
    simp only [Act.put,Rg.sA,Rg.sB,Rg.sC]
    refine Rg.dd 9 fun K hK => ?_
    go_simp
    go_at_call 76
    refine Calls.mono hl ?_
    clear hl
    rintro x wN ⟨rfl,rfl⟩
    refine hK _ _ (fun _ => HS.out _ q0) ?_
    clear hK K
    refine Rg.dd 10 fun K hK => ?_
    go_simp
    refine hK _ _ (fun _ => HS.out _ q1) ?_
    clear hK K
    refine Rg.pu 11 ?_
    simp only [Act.put,Rg.sA,Rg.sB,Rg.sC]
    refine Rg.dd 12 fun K hK => ?_
    go_simp
    refine hK _ _ (fun h => absurd h (by decide)) ?_
    clear hK K
    refine Rg.wpD_done (by kernel_rfl) ?_
    go_wp2
    go_meet
    exact FIN.out
   ·unfold wide at e
    cases e
    have FIN:Hid _:=(⟨γ1,V,ST.out,hV,KA.out,x0⟩:∃ γ2 V,Step E γ W γ2 wc ∧ γ2 V = some (.verd A k) ∧ Blk wc A 225 [.pointer (some ⟨E.tb,0,none⟩),.slice pp s.length cp,.slice (some ⟨F,0,none⟩) s.length s.length,lv] ∧ wc.cell? ⟨F,k,none⟩ = some (.slice (some ⟨V,0,none⟩) E.qs.length E.qs.length))
    clear hV hmv hev
    go_wp2
    go_meet
    exact FIN.out
  case rest =>
   clear c0 c1 c2 c3 f0 f1 f2 f3 x0 x1 hrk KA KF
   obtain ⟨γ2,V,st,hV,kA,x0⟩:=hcut
   obtain ⟨⟨c0,c1,c2,c3⟩,_⟩:=blk4 kA
   have FIN:Hid _:=(⟨V,γ2,rfl,hV,st⟩:∃ V' γ',Ending.returned (.slice (some ⟨V,0,none⟩) E.qs.length E.qs.length) = Ending.returned (.slice (some ⟨V',0,none⟩) E.qs.length E.qs.length) ∧ γ' V' = some (.verd A k) ∧ Step E γ W γ' wc)
   clear hev hmv st hV kA
   go_wp2
   go_ret
   exact FIN.out
end Go.Proofs.YtagbjmocjaaioaaGreatDoor.Mt

/- package match: the elements to which a combinator leads, as an iterator. -/
set_option maxRecDepth 100000
namespace Go.Proofs.YtagbjmocjaaioaaGreatDoor.Mt
open Go.Proofs.YtagbjmocjaaioaaGreatDoor.Tre
open Go Go.RowKit Go.Shelf Dm
attribute [local go_sem] Oper.semAt_some
/-! ### the way -/
def wayF (tb:Nat) (comb:Int):Value:=if comb = 1 ∨ comb = 2 then .func (.func 77) #[.pointer (some ⟨tb,0,none⟩)] #[] else if comb = 3 ∨ comb = 4 then .func (.func 343) #[.pointer (some ⟨tb,0,none⟩)] #[] else .func (.func 344) #[] #[]
theorem way_any (tb:Nat) (comb:Int) (w:World) :
  Calls Tryz.prog 321 #[.pointer (some ⟨tb,0,none⟩),.int .i64 comb] w fun e w' => e = .returned (.tuple #[wayF tb comb,.bool (farV comb)]) ∧ w' = w:=by
 by_cases h1:comb = 1
 ·subst h1
  go_enter Tryz.func321,Tryz.ntmps321
  go_wp2
  go_ret2
  exact ⟨rfl,rfl⟩
 have e1:(comb == 1) = false:=by simpa using h1
 by_cases h2:comb = 2
 ·subst h2
  go_enter Tryz.func321,Tryz.ntmps321
  go_wp2
  go_ret2
  exact ⟨rfl,rfl⟩
 have e2:(comb == 2) = false:=by simpa using h2
 by_cases h3:comb = 3
 ·subst h3
  go_enter Tryz.func321,Tryz.ntmps321
  go_wp2
  go_ret2
  exact ⟨rfl,rfl⟩
 have e3:(comb == 3) = false:=by simpa using h3
 by_cases h4:comb = 4
 ·subst h4
  go_enter Tryz.func321,Tryz.ntmps321
  go_wp2
  go_ret2
  exact ⟨rfl,rfl⟩
 have e4:(comb == 4) = false:=by simpa using h4
 have hF:wayF tb comb = .func (.func 344) #[] #[]:=by unfold wayF;rw [if_neg (by omega),if_neg (by omega)]
 have hf:farV comb = false:=decide_eq_false (by omega)
 rw [hF,hf]
 go_enter Tryz.func321,Tryz.ntmps321
 go_wp2
 go_ret2
 exact ⟨rfl,rfl⟩
def Ahead (tb:Nat) (e comb:Int) (w:World) (x:Ending) (w':World):Prop:=
 x = .returned (.func (.func 322) #[] #[.pointer (some ⟨w.heap.size + 1,0,none⟩),.pointer (some ⟨w.heap.size,0,none⟩),.pointer (some ⟨w.heap.size + 2,0,none⟩)]) ∧
  Boxed w' w.heap.size 3 (.int .i64 e) ∧ Boxed w' (w.heap.size + 1) 48 (wayF tb comb) ∧ Boxed w' (w.heap.size + 2) 4 (.bool (farV comb)) ∧ Below w.heap.size w w' ∧ w'.heap.size = w.heap.size + 3
set_option maxHeartbeats 1000000 in
theorem ahead_any (tb:Nat) (e comb:Int) (w:World) :
  Calls Tryz.prog 290 #[.pointer (some ⟨tb,0,none⟩),.int .i64 e,.int .i64 comb] w (Ahead tb e comb w):=by
 unfold Ahead
 have hw:=way_any tb comb (w.alloc (.cells #[.int .i64 e] 3))
 obtain ⟨W3,h3⟩:∃ W3,((w.alloc (.cells #[.int .i64 e] 3)).alloc (.cells #[.nilFunc] 48)).alloc (.cells #[.bool false] 4) = W3:=⟨_,rfl⟩
 have s3:W3.heap.size = w.heap.size + 3:=by rw [← h3];simp
 have b3:Below w.heap.size w W3:=by rw [← h3];exact (((Below.refl _ w).alloc (Nat.le_refl _) _).alloc (by simp) _).alloc (by simp;omega) _
 have x0:Boxed W3 w.heap.size 3 (.int .i64 e):=by rw [← h3];exact ((Boxed.new _ _ _).alloc _).alloc _
 have x1:Boxed W3 (w.heap.size + 1) 48 .nilFunc:=by
  rw [← h3]
  have:=(Boxed.new (w.alloc (.cells #[.int .i64 e] 3)) 48 .nilFunc).alloc (.cells #[.bool false] 4)
  rwa [World.size_alloc] at this
 have x2:Boxed W3 (w.heap.size + 2) 4 (.bool false):=by
  rw [← h3]
  have:=Boxed.new ((w.alloc (.cells #[.int .i64 e] 3)).alloc (.cells #[.nilFunc] 48)) 4 (.bool false)
  rwa [World.size_alloc,World.size_alloc] at this
 have c1:=x1.cell
 have f1:=x1.frozen
 have c2:=x2.cell
 have f2:=x2.frozen
 by_cases h1:comb = 1 ∨ comb = 2
 ·have hF:wayF tb comb = .func (.func 77) #[.pointer (some ⟨tb,0,none⟩)] #[]:=if_pos h1
  rw [hF] at hw ⊢
  clear hF
  have g1:=grownBy_setCell' W3 (w.heap.size + 1) (.func (.func 77) #[.pointer (some ⟨tb,0,none⟩)] #[])
  have g2:=grownBy_setCell' (W3.setCell ⟨w.heap.size + 1,0,none⟩ (.func (.func 77) #[.pointer (some ⟨tb,0,none⟩)] #[])) (w.heap.size + 2) (.bool (farV comb))
  have y1:=(x1.set (.func (.func 77) #[.pointer (some ⟨tb,0,none⟩)] #[])).kept g2 (by simp)
  have y2:=(x2.kept g1 (by simp)).set (.bool (farV comb))
  have c2':=(x2.kept g1 (by simp)).cell
  have f2':=(x2.kept g1 (by simp)).frozen
  have y0:=(x0.kept g1 (by simp)).kept g2 (by simp)
  have b9:=(b3.grown g1 b3.size (fun r e => by cases e;omega)).grown g2 (by have:=g1.size;omega) (fun r e => by cases e;omega)
  have s9:((W3.setCell ⟨w.heap.size + 1,0,none⟩ (.func (.func 77) #[.pointer (some ⟨tb,0,none⟩)] #[])).setCell ⟨w.heap.size + 2,0,none⟩ (.bool (farV comb))).heap.size = w.heap.size + 3:=by simp [World.setCell,s3]
  go_enter Tryz.func290,Tryz.ntmps290
  go_wp2_with fail
  refine hw.mono ?_
  clear hw
  rintro x w' ⟨rfl,rfl⟩
  go_wp2
  go_ret
  exact ⟨rfl,y0,y1,y2,b9,s9⟩
 by_cases h2:comb = 3 ∨ comb = 4
 ·have hF:wayF tb comb = .func (.func 343) #[.pointer (some ⟨tb,0,none⟩)] #[]:=by unfold wayF;rw [if_neg h1,if_pos h2]
  rw [hF] at hw ⊢
  clear hF
  have g1:=grownBy_setCell' W3 (w.heap.size + 1) (.func (.func 343) #[.pointer (some ⟨tb,0,none⟩)] #[])
  have g2:=grownBy_setCell' (W3.setCell ⟨w.heap.size + 1,0,none⟩ (.func (.func 343) #[.pointer (some ⟨tb,0,none⟩)] #[])) (w.heap.size + 2) (.bool (farV comb))
  have y1:=(x1.set (.func (.func 343) #[.pointer (some ⟨tb,0,none⟩)] #[])).kept g2 (by simp)
  have y2:=(x2.kept g1 (by simp)).set (.bool (farV comb))
  have c2':=(x2.kept g1 (by simp)).cell
  have f2':=(x2.kept g1 (by simp)).frozen
  have y0:=(x0.kept g1 (by simp)).kept g2 (by simp)
  have b9:=(b3.grown g1 b3.size (fun r e => by cases e;omega)).grown g2 (by have:=g1.size;omega) (fun r e => by cases e;omega)
  have s9:((W3.setCell ⟨w.heap.size + 1,0,none⟩ (.func (.func 343) #[.pointer (some ⟨tb,0,none⟩)] #[])).setCell ⟨w.heap.size + 2,0,none⟩ (.bool (farV comb))).heap.size = w.heap.size + 3:=by simp [World.setCell,s3]
  go_enter Tryz.func290,Tryz.ntmps290
  go_wp2_with fail
  refine hw.mono ?_
  clear hw
  rintro x w' ⟨rfl,rfl⟩
  go_wp2
  go_ret
  exact ⟨rfl,y0,y1,y2,b9,s9⟩
 ·have hF:wayF tb comb = .func (.func 344) #[] #[]:=by unfold wayF;rw [if_neg h1,if_neg h2]
  rw [hF] at hw ⊢
  clear hF
  have g1:=grownBy_setCell' W3 (w.heap.size + 1) (.func (.func 344) #[] #[])
  have g2:=grownBy_setCell' (W3.setCell ⟨w.heap.size + 1,0,none⟩ (.func (.func 344) #[] #[])) (w.heap.size + 2) (.bool (farV comb))
  have y1:=(x1.set (.func (.func 344) #[] #[])).kept g2 (by simp)
  have y2:=(x2.kept g1 (by simp)).set (.bool (farV comb))
  have c2':=(x2.kept g1 (by simp)).cell
  have f2':=(x2.kept g1 (by simp)).frozen
  have y0:=(x0.kept g1 (by simp)).kept g2 (by simp)
  have b9:=(b3.grown g1 b3.size (fun r e => by cases e;omega)).grown g2 (by have:=g1.size;omega) (fun r e => by cases e;omega)
  have s9:((W3.setCell ⟨w.heap.size + 1,0,none⟩ (.func (.func 344) #[] #[])).setCell ⟨w.heap.size + 2,0,none⟩ (.bool (farV comb))).heap.size = w.heap.size + 3:=by simp [World.setCell,s3]
  go_enter Tryz.func290,Tryz.ntmps290
  go_wp2_with fail
  refine hw.mono ?_
  clear hw
  rintro x w' ⟨rfl,rfl⟩
  go_wp2
  go_ret
  exact ⟨rfl,y0,y1,y2,b9,s9⟩
end Go.Proofs.YtagbjmocjaaioaaGreatDoor.Mt

/- package match: the elements to which a combinator leads, as an iterator. -/
set_option maxRecDepth 100000
namespace Go.Proofs.YtagbjmocjaaioaaGreatDoor.Mt
open Go.Proofs.YtagbjmocjaaioaaGreatDoor.Tre
open Go Go.RowKit Go.Shelf Dm
attribute [local go_sem] Oper.semAt_some
set_option maxHeartbeats 2000000 in
theorem ahead1P_in (E:Env) (hE:EnvOk E) (n l Bn Be Bf:Nat) (comb:Int) (hcb:comb = 1 ∨ comb = 2) (e:Nat) (he:e < E.qs.length) (J Jx:List Nat → World → Prop) (W:World)
  (hC:∀ s X,J s X → X.cell? ⟨Bn,0,none⟩ = some (wayF E.tb comb) ∧ X.cell? ⟨Be,0,none⟩ = some (.int .i64 e) ∧ X.cell? ⟨Bf,0,none⟩ = some (.bool (farV comb)) ∧ Tr E.b X E.tb E.g E.cap E.qs)
  (hY:∀ pre x W1,J pre W1 → (∃ rest,pre ++ x :: rest = aheadV E.es comb e) → W.heap.size ≤ W1.heap.size → YieldAt Fence.wide (n - 1) Tryz.prog l #[.int .i64 (x:Nat)] W1 fun x' W' => (x' = .returned (.bool true) ∧ J (pre ++ [x]) W' ∧ W1.heap.size ≤ W'.heap.size) ∨ (x' = .returned (.bool false) ∧ Jx (pre ++ [x]) W'))
  (h0:J [] W) :
  CallsIn Fence.wide n Tryz.prog 322 #[.func (.yield l) #[] #[],.pointer (some ⟨Bn,0,none⟩),.pointer (some ⟨Be,0,none⟩),.pointer (some ⟨Bf,0,none⟩)] W fun x W' => (∃ v,x = .returned v) ∧ ((∃ xs,xs = aheadV E.es comb e ∧ J xs W') ∨ (∃ pre,True ∧ Jx pre W')):=by
 have hF:wayF E.tb comb = .func (.func 77) #[.pointer (some ⟨E.tb,0,none⟩)] #[]:=by unfold wayF;rw [if_pos hcb]
 have nx:∀ (x:Nat) (X:World),Tr E.b X E.tb E.g E.cap E.qs → Calls Tryz.prog 77 #[.pointer (some ⟨E.tb,0,none⟩),.int .i64 x] X fun r X' => r = .returned (.int .i64 (nextV E.es comb x)) ∧ X' = X:=fun x X hT => by
  unfold nextV
  rw [if_pos hcb]
  exact parent_any E.b E.tb E.g E.cap E.qs x X hT
 refine callsIn_of_wp Tryz.func322 rfl trivial ?_ rfl
 simp only [Tryz.ntmps322,List.size_toArray,List.length_cons,List.length_nil,Nat.reduceAdd,Nat.reduceSub,Array.replicate_succ,Array.replicate_zero,List.push_toArray,List.append_toArray,List.nil_append,List.cons_append]
 rw [hF] at hC
 obtain ⟨c1,c2,c3,hT⟩:=hC _ _ h0
 have n1:=nx e W hT
 have NX:Hid _:=nx
 have HC:Hid _:=hC
 have HY:Hid _:=hY
 have hlen:E.es.length = E.qs.length:=List.length_map ..
 have NLT:Hid (∀ k:Nat,k < E.qs.length → nextV E.es comb k = -1 ∨ ∃ j:Nat,nextV E.es comb k = j ∧ j < k):=fun k hk => nextV_lt hE.ok (by rw [hlen];exact hk) comb
 have HST:Hid (aheadV E.es comb e = restV E.es comb e (nextV E.es comb e)):=chain_succ _ _ _ _
 clear hT hE nx hC hF hlen hY hcb
 gi_wp2_with fail
 refine ⟨trivial,fun h => (by cases h),?_⟩
 refine (callsIn_wide.2 n1).mono ?_
 clear n1
 rintro r W' ⟨rfl,rfl⟩
 gi_wp2
 gi_loopw [5] (fun x wr => ∃ (y:Int) (pre:List Nat) (f:Nat),x = .int .i64 y ∧ aheadV E.es comb e = pre ++ restV E.es comb f y ∧ (y = -1 ∨ ∃ j:Nat,y = j ∧ j < E.qs.length ∧ j < f) ∧ J pre wr ∧ W'.heap.size ≤ wr.heap.size) (fun x _ => (intOf x + 1).toNat)
 case atStart =>
  refine ⟨_,[],e,rfl,HST.out,?_,h0,Nat.le_refl _⟩
  rcases NLT.out e he with h | ⟨j,h,hj⟩
  ·exact .inl h
  ·exact .inr ⟨j,h,by omega,hj⟩
 case round =>
  clear c1 c2 c3
  obtain ⟨y,pre,f,rfl,hx,hy,hJ,hsz⟩:=hrel
  obtain ⟨c1,c2,c3,hT⟩:=HC.out _ _ hJ
  rcases hy with rfl | ⟨j,rfl,hj,hjf⟩
  ·rw [restV_end,List.append_nil] at hx
   have HX:Hid (_ = _):=hx
   clear hx HST hT
   gi_wp2
   refine ⟨fun _ h => (by cases h),?_⟩
   gi_wp2
   go_end0
   exact ⟨⟨_,rfl⟩,.inl ⟨pre,HX.out.symm,hJ⟩⟩
  ·rw [restV_at] at hx
   obtain ⟨fn,tmps,assign,body,hy,hR⟩:=HY.out pre j wr hJ ⟨_,hx.symm⟩ hsz
   have HX:Hid (_ = _):=hx
   have hne:((j:Int) != -1) = true:=by simp [bne]
   clear hx HST hT
   gi_wp2_with fail
   refine ⟨fun h => (by cases h),hR.mono ?_⟩
   rintro r w2 (⟨rfl,hJ2,hsz2⟩ | ⟨rfl,hJ2⟩)
   ·clear c1 c2 c3
    obtain ⟨c1,c2,c3,hT⟩:=HC.out _ _ hJ2
    cases hfar:farV comb with
    | false =>
     rw [hfar] at c3
     have HE:Hid (aheadV E.es comb e = pre ++ [j]):=by
      have:=HX.out
      show _ = _
      rw [show aheadV E.es comb e = _ from HX.out,hfar]
      rfl
     clear HX hT
     gi_wp2
     go_end0
     exact ⟨⟨_,rfl⟩,.inl ⟨_,HE.out.symm,hJ2⟩⟩
    | true =>
     rw [hfar] at c3
     have n1:=NX.out j w2 hT
     obtain ⟨f',rfl⟩:∃ f',f = f' + 1:=⟨f - 1,by omega⟩
     have HE:Hid (aheadV E.es comb e = (pre ++ [j]) ++ restV E.es comb f' (nextV E.es comb j)):=by
      show _ = _
      rw [show aheadV E.es comb e = _ from HX.out,if_pos hfar,chain_succ]
      simp
     have hlt:=NLT.out j hj
     have HL:Hid _:=hlt
     clear HX hT hlt
     gi_wp2_with fail
     refine ⟨trivial,fun h => (by cases h),?_⟩
     refine (callsIn_wide.2 n1).mono ?_
     clear n1
     rintro r W3 ⟨rfl,rfl⟩
     gi_wp2
     go_roundw
     case rel =>
      refine ⟨_,pre ++ [j],f',rfl,HE.out,?_,hJ2,Nat.le_trans hsz hsz2⟩
      rcases HL.out with h | ⟨k,h,hk⟩
      ·exact .inl h
      ·exact .inr ⟨k,h,by omega,by omega⟩
     case measure =>
      rcases HL.out with h | ⟨k,h,hk⟩
      ·simp [intOf,h]
      ·simp [intOf,h];omega
   ·gi_wp2
    go_end0
    exact ⟨⟨_,rfl⟩,.inr ⟨_,trivial,hJ2⟩⟩
set_option maxHeartbeats 2000000 in
theorem ahead1B_in (E:Env) (hE:EnvOk E) (n l Bn Be Bf:Nat) (comb:Int) (hcb:comb = 3 ∨ comb = 4) (e:Nat) (he:e < E.qs.length) (J Jx:List Nat → World → Prop) (W:World)
  (hC:∀ s X,J s X → X.cell? ⟨Bn,0,none⟩ = some (wayF E.tb comb) ∧ X.cell? ⟨Be,0,none⟩ = some (.int .i64 e) ∧ X.cell? ⟨Bf,0,none⟩ = some (.bool (farV comb)) ∧ Tr E.b X E.tb E.g E.cap E.qs)
  (hY:∀ pre x W1,J pre W1 → (∃ rest,pre ++ x :: rest = aheadV E.es comb e) → W.heap.size ≤ W1.heap.size → YieldAt Fence.wide (n - 1) Tryz.prog l #[.int .i64 (x:Nat)] W1 fun x' W' => (x' = .returned (.bool true) ∧ J (pre ++ [x]) W' ∧ W1.heap.size ≤ W'.heap.size) ∨ (x' = .returned (.bool false) ∧ Jx (pre ++ [x]) W'))
  (h0:J [] W) :
  CallsIn Fence.wide n Tryz.prog 322 #[.func (.yield l) #[] #[],.pointer (some ⟨Bn,0,none⟩),.pointer (some ⟨Be,0,none⟩),.pointer (some ⟨Bf,0,none⟩)] W fun x W' => (∃ v,x = .returned v) ∧ ((∃ xs,xs = aheadV E.es comb e ∧ J xs W') ∨ (∃ pre,True ∧ Jx pre W')):=by
 have hF:wayF E.tb comb = .func (.func 343) #[.pointer (some ⟨E.tb,0,none⟩)] #[]:=by unfold wayF;rw [if_neg (by omega),if_pos hcb]
 have nx:∀ (x:Nat) (X:World),Tr E.b X E.tb E.g E.cap E.qs → Calls Tryz.prog 343 #[.pointer (some ⟨E.tb,0,none⟩),.int .i64 x] X fun r X' => r = .returned (.int .i64 (nextV E.es comb x)) ∧ X' = X:=fun x X hT => by
  unfold nextV
  rw [if_neg (by omega),if_pos hcb]
  exact before_any E.b E.tb E.g E.cap E.qs x X hT hE.ok hE.few
 refine callsIn_of_wp Tryz.func322 rfl trivial ?_ rfl
 simp only [Tryz.ntmps322,List.size_toArray,List.length_cons,List.length_nil,Nat.reduceAdd,Nat.reduceSub,Array.replicate_succ,Array.replicate_zero,List.push_toArray,List.append_toArray,List.nil_append,List.cons_append]
 rw [hF] at hC
 obtain ⟨c1,c2,c3,hT⟩:=hC _ _ h0
 have n1:=nx e W hT
 have NX:Hid _:=nx
 have HC:Hid _:=hC
 have HY:Hid _:=hY
 have hlen:E.es.length = E.qs.length:=List.length_map ..
 have NLT:Hid (∀ k:Nat,k < E.qs.length → nextV E.es comb k = -1 ∨ ∃ j:Nat,nextV E.es comb k = j ∧ j < k):=fun k hk => nextV_lt hE.ok (by rw [hlen];exact hk) comb
 have HST:Hid (aheadV E.es comb e = restV E.es comb e (nextV E.es comb e)):=chain_succ _ _ _ _
 clear hT hE nx hC hF hlen hY hcb
 gi_wp2_with fail
 refine ⟨trivial,fun h => (by cases h),?_⟩
 refine (callsIn_wide.2 n1).mono ?_
 clear n1
 rintro r W' ⟨rfl,rfl⟩
 gi_wp2
 gi_loopw [5] (fun x wr => ∃ (y:Int) (pre:List Nat) (f:Nat),x = .int .i64 y ∧ aheadV E.es comb e = pre ++ restV E.es comb f y ∧ (y = -1 ∨ ∃ j:Nat,y = j ∧ j < E.qs.length ∧ j < f) ∧ J pre wr ∧ W'.heap.size ≤ wr.heap.size) (fun x _ => (intOf x + 1).toNat)
 case atStart =>
  refine ⟨_,[],e,rfl,HST.out,?_,h0,Nat.le_refl _⟩
  rcases NLT.out e he with h | ⟨j,h,hj⟩
  ·exact .inl h
  ·exact .inr ⟨j,h,by omega,hj⟩
 case round =>
  clear c1 c2 c3
  obtain ⟨y,pre,f,rfl,hx,hy,hJ,hsz⟩:=hrel
  obtain ⟨c1,c2,c3,hT⟩:=HC.out _ _ hJ
  rcases hy with rfl | ⟨j,rfl,hj,hjf⟩
  ·rw [restV_end,List.append_nil] at hx
   have HX:Hid (_ = _):=hx
   clear hx HST hT
   gi_wp2
   refine ⟨fun _ h => (by cases h),?_⟩
   gi_wp2
   go_end0
   exact ⟨⟨_,rfl⟩,.inl ⟨pre,HX.out.symm,hJ⟩⟩
  ·rw [restV_at] at hx
   obtain ⟨fn,tmps,assign,body,hy,hR⟩:=HY.out pre j wr hJ ⟨_,hx.symm⟩ hsz
   have HX:Hid (_ = _):=hx
   have hne:((j:Int) != -1) = true:=by simp [bne]
   clear hx HST hT
   gi_wp2_with fail
   refine ⟨fun h => (by cases h),hR.mono ?_⟩
   rintro r w2 (⟨rfl,hJ2,hsz2⟩ | ⟨rfl,hJ2⟩)
   ·clear c1 c2 c3
    obtain ⟨c1,c2,c3,hT⟩:=HC.out _ _ hJ2
    cases hfar:farV comb with
    | false =>
     rw [hfar] at c3
     have HE:Hid (aheadV E.es comb e = pre ++ [j]):=by
      have:=HX.out
      show _ = _
      rw [show aheadV E.es comb e = _ from HX.out,hfar]
      rfl
     clear HX hT
     gi_wp2
     go_end0
     exact ⟨⟨_,rfl⟩,.inl ⟨_,HE.out.symm,hJ2⟩⟩
    | true =>
     rw [hfar] at c3
     have n1:=NX.out j w2 hT
     obtain ⟨f',rfl⟩:∃ f',f = f' + 1:=⟨f - 1,by omega⟩
     have HE:Hid (aheadV E.es comb e = (pre ++ [j]) ++ restV E.es comb f' (nextV E.es comb j)):=by
      show _ = _
      rw [show aheadV E.es comb e = _ from HX.out,if_pos hfar,chain_succ]
      simp
     have hlt:=NLT.out j hj
     have HL:Hid _:=hlt
     clear HX hT hlt
     gi_wp2_with fail
     refine ⟨trivial,fun h => (by cases h),?_⟩
     refine (callsIn_wide.2 n1).mono ?_
     clear n1
     rintro r W3 ⟨rfl,rfl⟩
     gi_wp2
     go_roundw
     case rel =>
      refine ⟨_,pre ++ [j],f',rfl,HE.out,?_,hJ2,Nat.le_trans hsz hsz2⟩
      rcases HL.out with h | ⟨k,h,hk⟩
      ·exact .inl h
      ·exact .inr ⟨k,h,by omega,by omega⟩
     case measure =>
      rcases HL.out with h | ⟨k,h,hk⟩
      ·simp [intOf,h]
      ·simp [intOf,h];omega
   ·gi_wp2
    go_end0
    exact ⟨⟨_,rfl⟩,.inr ⟨_,trivial,hJ2⟩⟩
theorem way1_any (x:Int) (w:World):Calls Tryz.prog 344 #[.int .i64 x] w fun r w' => r = .returned (.int .i64 (-1)) ∧ w' = w:=by
 go_enter Tryz.func344,Tryz.ntmps344
 go_wp2
 go_ret
 exact ⟨rfl,rfl⟩
set_option maxHeartbeats 2000000 in
theorem ahead1N_in (E:Env) (hE:EnvOk E) (n l Bn Be Bf:Nat) (comb:Int) (hcb:¬ (comb = 1 ∨ comb = 2) ∧ ¬ (comb = 3 ∨ comb = 4)) (e:Nat) (he:e < E.qs.length) (J Jx:List Nat → World → Prop) (W:World)
  (hC:∀ s X,J s X → X.cell? ⟨Bn,0,none⟩ = some (wayF E.tb comb) ∧ X.cell? ⟨Be,0,none⟩ = some (.int .i64 e) ∧ X.cell? ⟨Bf,0,none⟩ = some (.bool (farV comb)) ∧ Tr E.b X E.tb E.g E.cap E.qs)
  (hY:∀ pre x W1,J pre W1 → (∃ rest,pre ++ x :: rest = aheadV E.es comb e) → W.heap.size ≤ W1.heap.size → YieldAt Fence.wide (n - 1) Tryz.prog l #[.int .i64 (x:Nat)] W1 fun x' W' => (x' = .returned (.bool true) ∧ J (pre ++ [x]) W' ∧ W1.heap.size ≤ W'.heap.size) ∨ (x' = .returned (.bool false) ∧ Jx (pre ++ [x]) W'))
  (h0:J [] W) :
  CallsIn Fence.wide n Tryz.prog 322 #[.func (.yield l) #[] #[],.pointer (some ⟨Bn,0,none⟩),.pointer (some ⟨Be,0,none⟩),.pointer (some ⟨Bf,0,none⟩)] W fun x W' => (∃ v,x = .returned v) ∧ ((∃ xs,xs = aheadV E.es comb e ∧ J xs W') ∨ (∃ pre,True ∧ Jx pre W')):=by
 have hF:wayF E.tb comb = .func (.func 344) #[] #[]:=by unfold wayF;rw [if_neg hcb.1,if_neg hcb.2]
 have nx:∀ (x:Nat) (X:World),Tr E.b X E.tb E.g E.cap E.qs → Calls Tryz.prog 344 #[.int .i64 x] X fun r X' => r = .returned (.int .i64 (nextV E.es comb x)) ∧ X' = X:=fun x X hT => by
  unfold nextV
  rw [if_neg hcb.1,if_neg hcb.2]
  exact way1_any x X
 refine callsIn_of_wp Tryz.func322 rfl trivial ?_ rfl
 simp only [Tryz.ntmps322,List.size_toArray,List.length_cons,List.length_nil,Nat.reduceAdd,Nat.reduceSub,Array.replicate_succ,Array.replicate_zero,List.push_toArray,List.append_toArray,List.nil_append,List.cons_append]
 rw [hF] at hC
 obtain ⟨c1,c2,c3,hT⟩:=hC _ _ h0
 have n1:=nx e W hT
 have NX:Hid _:=nx
 have HC:Hid _:=hC
 have HY:Hid _:=hY
 have hlen:E.es.length = E.qs.length:=List.length_map ..
 have NLT:Hid (∀ k:Nat,k < E.qs.length → nextV E.es comb k = -1 ∨ ∃ j:Nat,nextV E.es comb k = j ∧ j < k):=fun k hk => nextV_lt hE.ok (by rw [hlen];exact hk) comb
 have HST:Hid (aheadV E.es comb e = restV E.es comb e (nextV E.es comb e)):=chain_succ _ _ _ _
 clear hT hE nx hC hF hlen hY hcb
 gi_wp2_with fail
 refine ⟨trivial,fun h => (by cases h),?_⟩
 refine (callsIn_wide.2 n1).mono ?_
 clear n1
 rintro r W' ⟨rfl,rfl⟩
 gi_wp2
 gi_loopw [5] (fun x wr => ∃ (y:Int) (pre:List Nat) (f:Nat),x = .int .i64 y ∧ aheadV E.es comb e = pre ++ restV E.es comb f y ∧ (y = -1 ∨ ∃ j:Nat,y = j ∧ j < E.qs.length ∧ j < f) ∧ J pre wr ∧ W'.heap.size ≤ wr.heap.size) (fun x _ => (intOf x + 1).toNat)
 case atStart =>
  refine ⟨_,[],e,rfl,HST.out,?_,h0,Nat.le_refl _⟩
  rcases NLT.out e he with h | ⟨j,h,hj⟩
  ·exact .inl h
  ·exact .inr ⟨j,h,by omega,hj⟩
 case round =>
  clear c1 c2 c3
  obtain ⟨y,pre,f,rfl,hx,hy,hJ,hsz⟩:=hrel
  obtain ⟨c1,c2,c3,hT⟩:=HC.out _ _ hJ
  rcases hy with rfl | ⟨j,rfl,hj,hjf⟩
  ·rw [restV_end,List.append_nil] at hx
   have HX:Hid (_ = _):=hx
   clear hx HST hT
   gi_wp2
   refine ⟨fun _ h => (by cases h),?_⟩
   gi_wp2
   go_end0
   exact ⟨⟨_,rfl⟩,.inl ⟨pre,HX.out.symm,hJ⟩⟩
  ·rw [restV_at] at hx
   obtain ⟨fn,tmps,assign,body,hy,hR⟩:=HY.out pre j wr hJ ⟨_,hx.symm⟩ hsz
   have HX:Hid (_ = _):=hx
   have hne:((j:Int) != -1) = true:=by simp [bne]
   clear hx HST hT
   gi_wp2_with fail
   refine ⟨fun h => (by cases h),hR.mono ?_⟩
   rintro r w2 (⟨rfl,hJ2,hsz2⟩ | ⟨rfl,hJ2⟩)
   ·clear c1 c2 c3
    obtain ⟨c1,c2,c3,hT⟩:=HC.out _ _ hJ2
    cases hfar:farV comb with
    | false =>
     rw [hfar] at c3
     have HE:Hid (aheadV E.es comb e = pre ++ [j]):=by
      have:=HX.out
      show _ = _
      rw [show aheadV E.es comb e = _ from HX.out,hfar]
      rfl
     clear HX hT
     gi_wp2
     go_end0
     exact ⟨⟨_,rfl⟩,.inl ⟨_,HE.out.symm,hJ2⟩⟩
    | true =>
     rw [hfar] at c3
     have n1:=NX.out j w2 hT
     obtain ⟨f',rfl⟩:∃ f',f = f' + 1:=⟨f - 1,by omega⟩
     have HE:Hid (aheadV E.es comb e = (pre ++ [j]) ++ restV E.es comb f' (nextV E.es comb j)):=by
      show _ = _
      rw [show aheadV E.es comb e = _ from HX.out,if_pos hfar,chain_succ]
      simp
     have hlt:=NLT.out j hj
     have HL:Hid _:=hlt
     clear HX hT hlt
     gi_wp2_with fail
     refine ⟨trivial,fun h => (by cases h),?_⟩
     refine (callsIn_wide.2 n1).mono ?_
     clear n1
     rintro r W3 ⟨rfl,rfl⟩
     gi_wp2
     go_roundw
     case rel =>
      refine ⟨_,pre ++ [j],f',rfl,HE.out,?_,hJ2,Nat.le_trans hsz hsz2⟩
      rcases HL.out with h | ⟨k,h,hk⟩
      ·exact .inl h
      ·exact .inr ⟨k,h,by omega,by omega⟩
     case measure =>
      rcases HL.out with h | ⟨k,h,hk⟩
      ·simp [intOf,h]
      ·simp [intOf,h];omega
   ·gi_wp2
    go_end0
    exact ⟨⟨_,rfl⟩,.inr ⟨_,trivial,hJ2⟩⟩
end Go.Proofs.YtagbjmocjaaioaaGreatDoor.Mt

/- The elements ahead, one by one: what is known of one tells of those that were passed. -/
namespace Go.Proofs.YtagbjmocjaaioaaGreatDoor.Mt
open Go.Proofs.YtagbjmocjaaioaaGreatDoor.Tre
open Go Dm
section
variable {E:Env} (hE:EnvOk E) {f k e:Nat} {s:Sel} (he:e < E.qs.length)
include hE he
theorem vd_at {a b:List Nat} {y:Nat} (h:aheadV E.es (partAt s k).1 e = a ++ y :: b):y < E.qs.length ∧ vdV E f s k y = (y :: b).any (uptoV (anyV E.es f) E.es s (k - 1)):=by
 have hl:E.es.length = E.qs.length:=List.length_map ..
 obtain ⟨h1,rfl⟩:=ahead_tail hE.ok (by rw [hl];exact he) h
 exact ⟨by rw [← hl];exact h1,rfl⟩
theorem res_at {a b:List Nat} {y:Nat} (h:aheadV E.es (partAt s k).1 e = a ++ y :: b) (ha:∀ z ∈ a,uptoV (anyV E.es f) E.es s (k - 1) z = false) :
  (aheadV E.es (partAt s k).1 e).any (uptoV (anyV E.es f) E.es s (k - 1)) = vdV E f s k y ∧ ∀ z ∈ a,z < E.qs.length ∧ vdV E f s k z = vdV E f s k y:=by
 have hy:=(vd_at hE he (f:=f) h).2
 have none:∀ l:List Nat,(∀ z ∈ l,uptoV (anyV E.es f) E.es s (k - 1) z = false) → l.any (uptoV (anyV E.es f) E.es s (k - 1)) = false:=fun l hl => by
  rw [List.any_eq_false]
  intro z hz
  rw [hl z hz]
  simp
 constructor
 ·rw [h,List.any_append,none a ha,Bool.false_or,hy]
 ·intro z hz
  obtain ⟨c,d,rfl⟩:=List.append_of_mem hz
  have h2:aheadV E.es (partAt s k).1 e = c ++ z :: (d ++ y :: b):=by rw [h];simp
  obtain ⟨h3,h4⟩:=vd_at hE he (f:=f) h2
  refine ⟨h3,?_⟩
  rw [h4,List.any_cons,ha z hz,Bool.false_or,List.any_append,none d (fun x hx => ha x (by simp [hx])),Bool.false_or,hy]
theorem res_none {a:List Nat} (h:a = aheadV E.es (partAt s k).1 e) (ha:∀ z ∈ a,uptoV (anyV E.es f) E.es s (k - 1) z = false) :
  (aheadV E.es (partAt s k).1 e).any (uptoV (anyV E.es f) E.es s (k - 1)) = false ∧ ∀ z ∈ a,z < E.qs.length ∧ vdV E f s k z = false:=by
 have none:∀ l:List Nat,(∀ z ∈ l,uptoV (anyV E.es f) E.es s (k - 1) z = false) → l.any (uptoV (anyV E.es f) E.es s (k - 1)) = false:=fun l hl => by
  rw [List.any_eq_false]
  intro z hz
  rw [hl z hz]
  simp
 constructor
 ·rw [← h];exact none a ha
 ·intro z hz
  obtain ⟨c,d,rfl⟩:=List.append_of_mem hz
  obtain ⟨h3,h4⟩:=vd_at hE he (f:=f) h.symm
  exact ⟨h3,by rw [h4];exact none _ (fun x hx => ha x (List.mem_append_right _ hx))⟩
theorem res_yes {a b:List Nat} {y:Nat} (h:aheadV E.es (partAt s k).1 e = a ++ y :: b) (ha:∀ z ∈ a,uptoV (anyV E.es f) E.es s (k - 1) z = false) (hy:uptoV (anyV E.es f) E.es s (k - 1) y = true) :
  (aheadV E.es (partAt s k).1 e).any (uptoV (anyV E.es f) E.es s (k - 1)) = true ∧ ∀ z ∈ a ++ [y],z < E.qs.length ∧ vdV E f s k z = true:=by
 obtain ⟨h1,h2⟩:=vd_at hE he (f:=f) h
 have h3:vdV E f s k y = true:=by rw [h2,List.any_cons,hy,Bool.true_or]
 obtain ⟨h4,h5⟩:=res_at hE he h ha
 rw [h3] at h4 h5
 refine ⟨h4,fun z hz => ?_⟩
 rcases List.mem_append.1 hz with hz | hz
 ·exact h5 z hz
 ·obtain rfl:z = y:=by simpa using hz
  exact ⟨h1,h3⟩
end
end Go.Proofs.YtagbjmocjaaioaaGreatDoor.Mt

/- package match: isAhead. -/
namespace Go.Proofs.YtagbjmocjaaioaaGreatDoor.Mt
open Go.Proofs.YtagbjmocjaaioaaGreatDoor.Tre
open Go Go.RowKit Go.Shelf Dm
attribute [local go_sem] Oper.semAt_some
theorem egAhead:∀ args w,(callFunc 322 args).run Tryz.prog w = .ok (.enter 322 args) w:=enters_of Tryz.func322 (by kernel_rfl) rfl
def AheadC (E:Env) (comb:Int) (e Bn Be Bf:Nat) (X:World):Prop:=X.cell? ⟨Bn,0,none⟩ = some (wayF E.tb comb) ∧ X.cell? ⟨Be,0,none⟩ = some (.int .i64 e) ∧ X.cell? ⟨Bf,0,none⟩ = some (.bool (farV comb)) ∧ Tr E.b X E.tb E.g E.cap E.qs
theorem ahead_seq (E:Env) (hE:EnvOk E) (n Bn Be Bf:Nat) (comb:Int) (e:Nat) (he:e < E.qs.length) (w:World) :
  SeqW Fence.wide n Tryz.prog 322 #[.pointer (some ⟨Bn,0,none⟩),.pointer (some ⟨Be,0,none⟩),.pointer (some ⟨Bf,0,none⟩)] (fun x:Nat => #[.int .i64 x]) 0 (fun xs => xs = aheadV E.es comb e) (fun _ => True) (fun pre x => ∃ rest,pre ++ x :: rest = aheadV E.es comb e) 0 (AheadC E comb e Bn Be Bf) w:=fun l J Jx W _ _ _ hC hY h0 => by
 have hY':∀ pre x W1,J pre W1 → (∃ rest,pre ++ x :: rest = aheadV E.es comb e) → W.heap.size ≤ W1.heap.size → YieldAt Fence.wide (n - 1) Tryz.prog l #[.int .i64 (x:Nat)] W1 fun x' W' => (x' = .returned (.bool true) ∧ J (pre ++ [x]) W' ∧ W1.heap.size ≤ W'.heap.size) ∨ (x' = .returned (.bool false) ∧ Jx (pre ++ [x]) W'):=fun pre x W1 h1 h2 h3 => (hY pre x W1 h1 h2 (by omega)).mono (fun _ _ h => h.imp (fun h => ⟨h.1,h.2.1,h.2.2.below.size⟩) id)
 by_cases h1:comb = 1 ∨ comb = 2
 ·exact ahead1P_in E hE n l Bn Be Bf comb h1 e he J Jx W hC hY' h0
 by_cases h2:comb = 3 ∨ comb = 4
 ·exact ahead1B_in E hE n l Bn Be Bf comb h2 e he J Jx W hC hY' h0
 ·exact ahead1N_in E hE n l Bn Be Bf comb ⟨h1,h2⟩ e he J Jx W hC hY' h0
end Go.Proofs.YtagbjmocjaaioaaGreatDoor.Mt

/- package match: where isAhead's loops stand. -/
namespace Go.Proofs.YtagbjmocjaaioaaGreatDoor.Mt
open Go.Proofs.YtagbjmocjaaioaaGreatDoor.Tre
open Go Go.RowKit Go.Shelf Dm
def UpToK (E:Env) (A f:Nat) (s:Sel) (pv:Value) (k:Nat):Prop:=∀ (γ:Ghost) (W:World),Inv E γ W → γ A = some (.asked s pv f) → ∀ x:Nat,x < E.qs.length →
 Calls Tryz.prog 216 #[.pointer (some ⟨A,0,none⟩),.int .i64 k,.int .i64 x] W fun r W' => r = .returned (.bool (uptoV (anyV E.es f) E.es s k x)) ∧ ∃ γ',Step E γ W γ' W'
def onlyN (K:Act → World → Prop):Exit → Act → World → Prop
 | .normal,a,w => K a w
 | _,_,_ => False
theorem wpIn_onlyN {F:Fence} {n:Nat} {P:Program} {c:Code} {Q:Exit → Act → World → Prop} {a:Act} {w:World} (h:c.wpIn F n P (onlyN (fun a w => Q .normal a w)) a w):c.wpIn F n P Q a w:=
 wpIn_mono h (fun e a w h => by cases e <;> first | exact h | exact h.elim)
structure Loop (E:Env) (V B:Nat) (γ1:Ghost) (X1:World) (ps:List Nat) (u:Int) (pw:Value) (γ':Ghost) (X:World):Prop where
 st:Step E γ1 X1 γ' X
 free:∀ b,X1.heap.size ≤ b → b < B + 8 → γ' b = .none
 fo:Boxed X B 314 (.slice (some ⟨V,0,none⟩) E.qs.length E.qs.length)
 vb:Boxed X (B + 1) 316 (.int .u8 u)
 pb:Boxed X (B + 2) 58 pw
 row:IntRow (B + 8) X pw (chI ps)
 rowf:∀ g,pw.ownBlock = some g → γ' g = .none
 base:B = X1.heap.size
 here:B + 6 ≤ X.heap.size
 low:E.n₀ ≤ X1.heap.size
section
variable {E:Env} {V B:Nat} {γ1:Ghost} {X1:World} {ps:List Nat} {u:Int} {pw:Value} {γ':Ghost} {X Y:World}
theorem Loop.abide (h:Loop E V B γ1 X1 ps u pw γ' X) {row:Option Nat} (hg:X.grownBy Y row) (hr:∀ b,row = some b → B + 6 ≤ b ∧ b < B + 8):Loop E V B γ1 X1 ps u pw γ' Y:=by
 have far:∀ b,b < B + 6 → some b ≠ row:=fun b hb e => by have:=hr b e.symm;omega
 refine ⟨h.st.aside hg (fun b e => ⟨by have:=hr b e;have:=h.base;omega,h.free b (by have:=hr b e;have:=h.base;omega) (hr b e).2⟩) h.low,h.free,h.fo.kept hg (far _ (by omega)),h.vb.kept hg (far _ (by omega)),h.pb.kept hg (far _ (by omega)),?_,h.rowf,h.base,Nat.le_trans h.here hg.size,h.low⟩
 refine owns_same h.row (fun g hgb => hg.block g (owns_lt h.row hgb).2 (fun e => ?_))
 have:=(owns_lt h.row hgb).1
 have:=hr g e.symm
 omega
theorem Loop.step (h:Loop E V B γ1 X1 ps u pw γ' X) {γ'':Ghost} (hs:Step E γ' X γ'' Y) (h8:B + 8 ≤ X.heap.size):Loop E V B γ1 X1 ps u pw γ'' Y:=by
 have fr:∀ b,X1.heap.size ≤ b → b < B + 8 → γ'' b = .none:=fun b h1 h2 => hs.none (by omega) (h.free b h1 h2)
 have bx:∀ {t:TypeId} {v:Value} {b:Nat},Boxed X b t v → X1.heap.size ≤ b → b < B + 8 → Boxed Y b t v:=fun hb h1 h2 => (hs.block _ hb.lt (h.free _ h1 h2)).trans hb
 have hB:=h.base
 refine ⟨h.st.trans hs,fr,bx h.fo (by omega) (by omega),bx h.vb (by omega) (by omega),bx h.pb (by omega) (by omega),owns_same h.row (fun g hgb => hs.block g (owns_lt h.row hgb).2 (h.rowf g hgb)),fun g hgb => hs.none (owns_lt h.row hgb).2 (h.rowf g hgb),h.base,Nat.le_trans h.here hs.size,h.low⟩
theorem Loop.setV (h:Loop E V B γ1 X1 ps u pw γ' X) (v:Int):Loop E V B γ1 X1 ps v pw γ' (X.setCell ⟨B + 1,0,none⟩ (.int .u8 v)):=by
 have hg:=grownBy_setCell' X (B + 1) (.int .u8 v)
 have hB:=h.base
 refine ⟨h.st.aside hg (fun b e => by cases e;exact ⟨by omega,h.free _ (by omega) (by omega)⟩) h.low,h.free,h.fo.kept hg (by simp),h.vb.set _,h.pb.kept hg (by simp),?_,h.rowf,h.base,Nat.le_trans h.here hg.size,h.low⟩
 exact owns_same h.row (fun g hgb => hg.block g (owns_lt h.row hgb).2 (fun e => by cases e;have:=(owns_lt h.row hgb).1;omega))
theorem Loop.push (h:Loop E V B γ1 X1 ps u pw γ' X) (h8:B + 8 ≤ X.heap.size) {o:Obj} {y:Nat} {pw':Value} {w2:World}
  (hown:w2.ownsRow (B + 8) 3 1 pw' ((chI ps).length + 1) ((chI ps).map (Value.int .i64) ++ [.int .i64 (y:Int)])) (hg:(X.alloc o).grownBy w2 pw.ownBlock) (hat:pw'.ownBlock = pw.ownBlock ∨ pw'.ownBlock = some (X.alloc o).heap.size) :
  Loop E V B γ1 X1 (ps ++ [y]) u pw' γ' (w2.setCell ⟨B + 2,0,none⟩ pw') ∧ Boxed w2 (B + 2) 58 pw:=by
 have hB:=h.base
 have hA:=h.abide (Y:=X.alloc o) (World.grownBy_alloc X o none) (fun _ e => by cases e)
 have ne:∀ b,b < B + 8 → some b ≠ pw.ownBlock:=fun b hb e => by have:=(owns_lt h.row e.symm).1;omega
 have g2:=grownBy_setCell' w2 (B + 2) pw'
 have p2:=hA.pb.kept hg (ne _ (by omega))
 have new':γ' (X.alloc o).heap.size = .none:=hA.st.inv.new (Nat.le_refl _)
 have st2:Step E γ1 X1 γ' w2:=hA.st.aside hg (fun b e => ⟨by have:=(owns_lt h.row e).1;omega,h.rowf b e⟩) h.low
 have rf:∀ g,pw'.ownBlock = some g → γ' g = .none:=fun g e => by
  rcases hat with h1 | h1
  ·exact h.rowf g (h1.symm.trans e)
  ·rw [h1] at e;cases e;exact new'
 refine ⟨⟨st2.aside g2 (fun b e => by cases e;exact ⟨by omega,h.free _ (by omega) (by omega)⟩) h.low,h.free,(hA.fo.kept hg (ne _ (by omega))).kept g2 (by simp),(hA.vb.kept hg (ne _ (by omega))).kept g2 (by simp),p2.set _,?_,rf,h.base,?_,h.low⟩,p2⟩
 ·have e1:chI (ps ++ [y]) = chI ps ++ [(y:Int)]:=by simp [chI]
  unfold IntRow
  rw [e1,List.length_append,List.length_singleton,List.map_append]
  exact owns_same hown (fun g hgb => g2.block g (owns_lt hown hgb).2 (fun e => by cases e;have:=(owns_lt hown hgb).1;omega))
 ·have:=h.here
  have h1:=hg.size
  have h2:=g2.size
  rw [World.size_alloc] at h1
  omega
theorem Loop.look (h:Loop E V B γ1 X1 ps u pw γ' X) {A k f:Nat} {s:Sel} {pv:Value} (hV:γ' V = some (.verd A k)) (hA:γ' A = some (.asked s pv f)) {y:Nat} (hy:y < E.qs.length) :
  ∃ v,X.cell? ⟨V,y,none⟩ = some (.int .u8 v) ∧ X.frozen? ⟨V,y,none⟩ = false ∧ (v = 0 ∨ (v = 1 ∧ vdV E f s k y = true) ∨ (v = 2 ∧ vdV E f s k y = false)):=by
 obtain ⟨_,o,ho,s',pv',f',hA',vs,rfl,h1,h2⟩:=h.st.inv.each V _ hV
 rw [hA] at hA'
 cases hA'
 have hv:vs[y]? = some (vs[y]'(by omega)):=List.getElem?_eq_getElem (by omega)
 have kV:Blk X V 316 (vs.map (Value.int .u8)):=ho
 obtain ⟨c,fz⟩:=cell_row kV (show (vs.map (Value.int .u8))[y]? = some (.int .u8 vs[y]) by rw [List.getElem?_map,hv];rfl)
 exact ⟨_,c,fz,h2 y _ hv⟩
theorem Loop.note (h:Loop E V B γ1 X1 ps u pw γ' X) {A k f:Nat} {s:Sel} {pv:Value} (hV:γ' V = some (.verd A k)) (hA:γ' A = some (.asked s pv f)) {y:Nat} (hok:(u = 1 ∧ vdV E f s k y = true) ∨ (u = 2 ∧ vdV E f s k y = false)) :
  Loop E V B γ1 X1 ps u pw γ' (X.setCell ⟨V,y,none⟩ (.int .u8 u)):=by
 obtain ⟨_,o,ho,s',pv',f',hA',vs,rfl,h1,h2⟩:=h.st.inv.each V _ hV
 rw [hA] at hA'
 cases hA'
 have kV:Blk X V 316 (vs.map (Value.int .u8)):=ho
 have k2:=blk_put kV y (.int .u8 u)
 have hg:=grown_set X V y (.int .u8 u)
 have hB:=h.base
 have e1:(vs.map (Value.int .u8)).set y (.int .u8 u) = (vs.set y u).map (Value.int .u8):=by rw [List.map_set]
 rw [e1] at k2
 have hs:=h.st.inv.put hV hg k2 ⟨s,pv,f,hA,_,rfl,by simp [h1],fun x v hv => by
  rcases set_at hv with ⟨rfl,rfl⟩ | ⟨_,hv⟩
  ·exact .inr hok
  ·exact h2 x v hv⟩
 have ne:∀ b,X1.heap.size ≤ b → b < B + 8 → some b ≠ some V:=fun b h1 h2 e => by cases e;rw [h.free V h1 h2] at hV;cases hV
 refine ⟨h.st.trans hs,h.free,h.fo.kept hg (ne _ (by omega) (by omega)),h.vb.kept hg (ne _ (by omega) (by omega)),h.pb.kept hg (ne _ (by omega) (by omega)),?_,h.rowf,h.base,Nat.le_trans h.here hg.size,h.low⟩
 exact owns_same h.row (fun g hgb => hg.block g (owns_lt h.row hgb).2 (fun e => by cases e;rw [h.rowf V hgb] at hV;cases hV))
end
end Go.Proofs.YtagbjmocjaaioaaGreatDoor.Mt

/- package match: isAhead at every part and element, where isUpTo is known of the part ahead. -/
set_option maxRecDepth 100000
namespace Go.Proofs.YtagbjmocjaaioaaGreatDoor.Mt
open Go.Proofs.YtagbjmocjaaioaaGreatDoor.Tre
open Go Go.RowKit Go.Shelf Dm
attribute [local go_sem] Oper.semAt_some
def AhI (E:Env) (V e f k:Nat) (s:Sel) (comb:Int) (γ1:Ghost) (X1:World) (pre:List Nat) (X:World):Prop:=
 ∃ γ' pw,Loop E V X1.heap.size γ1 X1 pre 2 pw γ' X ∧ (∀ z ∈ pre,uptoV (anyV E.es f) E.es s (k - 1) z = false) ∧ Boxed X (X1.heap.size + 3) 3 (.int .i64 e) ∧ Boxed X (X1.heap.size + 4) 48 (wayF E.tb comb) ∧ Boxed X (X1.heap.size + 5) 4 (.bool (farV comb))
def AhX (E:Env) (V f k:Nat) (s:Sel) (res:Bool) (γ1:Ghost) (X1:World) (_:List Nat) (X:World):Prop:=
 ∃ ps u γ' pw,Loop E V X1.heap.size γ1 X1 ps u pw γ' X ∧ ((u = 1 ∧ res = true) ∨ (u = 2 ∧ res = false)) ∧ ∀ y ∈ ps,y < E.qs.length ∧ vdV E f s k y = res
set_option maxHeartbeats 8000000 in
theorem isAhead_in (E:Env) (hE:EnvOk E) (n:Nat) (hn:1 ≤ n) (γ:Ghost) (W:World) (hI:Inv E γ W) (A:Nat) (s:Sel) (pv:Value) (f:Nat) (hA:γ A = some (.asked s pv f)) (k:Nat) (hk:k < s.length) (hk0:0 < k) (HU:UpToK E A f s pv (k - 1)) (e:Nat) (he:e < E.qs.length) :
  CallsIn Fence.wide n Tryz.prog 259 #[.pointer (some ⟨A,0,none⟩),.int .i64 k,.int .i64 e] W fun r W' => r = .returned (.bool ((aheadV E.es (partAt s k).1 e).any (uptoV (anyV E.es f) E.es s (k - 1)))) ∧ ∃ γ',Step E γ W γ' W':=by
 obtain ⟨W2,hW2⟩:∃ W2,(W.alloc (.cells #[.pointer (some ⟨A,0,none⟩)] 257)).alloc (.cells #[.int .i64 k] 3) = W2:=⟨_,rfl⟩
 have bW2:Below W.heap.size W W2:=by rw [← hW2];exact ((Below.refl _ W).alloc (Nat.le_refl _) _).alloc (by simp) _
 have sW2:W2.heap.size = W.heap.size + 2:=by rw [← hW2];simp
 have st2:=hI.step bW2
 have a2:Boxed W2 W.heap.size 257 (.pointer (some ⟨A,0,none⟩)):=by rw [← hW2];exact (Boxed.new _ _ _).alloc _
 have k2:Boxed W2 (W.heap.size + 1) 3 (.int .i64 k):=by
  rw [← hW2]
  have:=Boxed.new (W.alloc (.cells #[.pointer (some ⟨A,0,none⟩)] 257)) 3 (.int .i64 k)
  rwa [World.size_alloc] at this
 have hfo:=foundOf_any E hE γ W2 st2.inv A s pv f hA k hk
 unfold ptrV wide at hfo
 have a2c:=a2.cell
 have k2c:=k2.cell
 have HI:Hid (Inv E γ W):=hI
 have HE:Hid (EnvOk E):=hE
 have HUU:Hid (UpToK E A f s pv (k - 1)):=HU
 obtain ⟨res,hres⟩:∃ r,r = (aheadV E.es (partAt s k).1 e).any (uptoV (anyV E.es f) E.es s (k - 1)):=⟨_,rfl⟩
 rw [← hres]
 have HR:Hid (res = _):=hres
 clear hI hE HU hres
 refine callsIn_of_wp_marks Tryz.func259 rfl trivial ?_ rfl
 simp only [Tryz.ntmps259,List.size_toArray,List.length_cons,List.length_nil,Nat.reduceAdd,Nat.reduceSub,Array.replicate_succ,Array.replicate_zero,List.push_toArray,List.append_toArray,List.nil_append,List.cons_append]
 gi_wp2_with fail
 refine ⟨trivial,?_⟩
 refine (callsIn_wide.2 hfo).mono ?_
 clear hfo
 rintro r X1 ⟨V,γ1,rfl,hV,st1⟩
 have hI0:=HI.out
 have free2:∀ b,W.heap.size ≤ b → γ b = none:=fun b hb => hI0.new hb
 have a1:Boxed X1 W.heap.size 257 (.pointer (some ⟨A,0,none⟩)):=(st1.block _ a2.lt (free2 _ (Nat.le_refl _))).trans a2
 have k1:Boxed X1 (W.heap.size + 1) 3 (.int .i64 k):=(st1.block _ k2.lt (free2 _ (by omega))).trans k2
 have hA1:γ1 A = some (.asked s pv f):=st1.mono st2.inv _ _ hA
 obtain ⟨X4,hX4⟩:∃ X4,((X1.alloc (.cells #[.slice (some ⟨V,0,none⟩) E.qs.length E.qs.length] 314)).alloc (.cells #[.int .u8 2] 316)).alloc (.cells #[.slice none 0 0] 58) = X4:=⟨_,rfl⟩
 have b4:Below X1.heap.size X1 X4:=by rw [← hX4];exact (((Below.refl _ X1).alloc (Nat.le_refl _) _).alloc (by simp) _).alloc (by simp;omega) _
 have s4:X4.heap.size = X1.heap.size + 3:=by rw [← hX4];simp
 have fo4:Boxed X4 X1.heap.size 314 (.slice (some ⟨V,0,none⟩) E.qs.length E.qs.length):=by rw [← hX4];exact ((Boxed.new _ _ _).alloc _).alloc _
 have vb4:Boxed X4 (X1.heap.size + 1) 316 (.int .u8 2):=by
  rw [← hX4]
  have:=(Boxed.new (X1.alloc (.cells #[.slice (some ⟨V,0,none⟩) E.qs.length E.qs.length] 314)) 316 (.int .u8 2)).alloc (.cells #[.slice none 0 0] 58)
  rwa [World.size_alloc] at this
 have pb4:Boxed X4 (X1.heap.size + 2) 58 (.slice none 0 0):=by
  rw [← hX4]
  have:=Boxed.new ((X1.alloc (.cells #[.slice (some ⟨V,0,none⟩) E.qs.length E.qs.length] 314)).alloc (.cells #[.int .u8 2] 316)) 58 (.slice none 0 0)
  rwa [World.size_alloc,World.size_alloc] at this
 have st4:=st1.inv.step b4
 clear a2c k2c a2 k2 hW2
 gi_wp2_with fail
 rename_i K0 hK0 K1 hK1
 obtain ⟨⟨d,hP⟩,hfit,fv,lv,kA,_,_⟩:=st4.inv.asked hA1
 obtain ⟨pp,cp,rfl⟩:=RowT.len hP
 obtain ⟨p,hp⟩:∃ p,s[k]? = some p:=⟨_,List.getElem?_eq_getElem hk⟩
 obtain ⟨bk,off,vi,vc,va,vp,rfl,hbk,hcap,hmx,_,⟨x0,_⟩,_⟩:=PartsAt.get hP hp
 unfold maxLen at hmx
 have hcomb:partAt s k = p:=partAt_eq hp
 have hs50:=fits_len hfit
 have hki:(k:Int) < (s.length:Int):=by omega
 have hlow:E.w₀.heap.size ≤ X4.heap.size:=st4.inv.low.size
 have hbk2:bk < E.w₀.heap.size:=hbk
 unfold ptrV at kA
 have HS:Hid (∀ X:World,Below X4.heap.size X4 X → X.cell? ⟨W.heap.size,0,none⟩ = some (.pointer (some ⟨A,0,none⟩)) ∧ X.cell? ⟨W.heap.size + 1,0,none⟩ = some (.int .i64 k) ∧ X.cell? ⟨A,0,none⟩ = some (.pointer (some ⟨E.tb,0,none⟩)) ∧ X.cell? ⟨A,1,none⟩ = some (.slice (some ⟨bk,off,none⟩) s.length cp) ∧ X.cell? ⟨bk,off + k * 6,none⟩ = some (.int .i64 p.1)):=fun X hX =>
  ⟨(hX.cell (p:=⟨W.heap.size,0,none⟩) (by have:=a1.lt;simp;omega)).trans ((b4.cell (p:=⟨W.heap.size,0,none⟩) a1.lt).trans a1.cell),(hX.cell (p:=⟨W.heap.size + 1,0,none⟩) (by have:=k1.lt;simp;omega)).trans ((b4.cell (p:=⟨W.heap.size + 1,0,none⟩) k1.lt).trans k1.cell),(blk4 (kA.next hX)).1.1,(blk4 (kA.next hX)).1.2.1,(hX.cell (p:=⟨bk,off + k * 6,none⟩) (by simp;omega)).trans x0⟩
 have q0:Below X4.heap.size X4 X4.drew:=below_drew (Below.refl _ _)
 have hah:=ahead_any E.tb e p.1 X4.drew
 have HeldS:=HS.out _ q0
 clear hX4 kA x0 hP
 refine wpIn_onlyN (wpIn_wide.2 ?_)
 refine Rg.wpD_begin [0,1,2,3,4,5,6,7,8,9,10,11,12] (fun X => X.cell? ⟨W.heap.size,0,none⟩ = some (.pointer (some ⟨A,0,none⟩)) ∧ X.cell? ⟨W.heap.size + 1,0,none⟩ = some (.int .i64 k) ∧ X.cell? ⟨A,0,none⟩ = some (.pointer (some ⟨E.tb,0,none⟩)) ∧ X.cell? ⟨A,1,none⟩ = some (.slice (some ⟨bk,off,none⟩) s.length cp) ∧ X.cell? ⟨bk,off + k * 6,none⟩ = some (.int .i64 p.1)) (by kernel_rfl) ?_
 refine Rg.ld 0 HeldS ?_
 simp only [Act.put,Rg.sA,Rg.sB,Rg.sC]
 refine Rg.ld 1 HeldS ?_
 simp only [Act.put,Rg.sA,Rg.sB,Rg.sC]
 refine Rg.ld 2 HeldS ?_
 simp only [Act.put,Rg.sA,Rg.sB,Rg.sC]
 refine Rg.ld 3 HeldS ?_
 simp only [Act.put,Rg.sA,Rg.sB,Rg.sC]
 refine Rg.ld 4 HeldS ?_
 simp only [Act.put,Rg.sA,Rg.sB,Rg.sC]
 refine Rg.ld 5 HeldS ?_
 simp only [Act.put,Rg.sA,Rg.sB,Rg.sC]
 refine Rg.ld 6 HeldS ?_
 simp only [Act.put,Rg.sA,Rg.sB,Rg.sC]
 refine Rg.ld 7 HeldS ?_
 simp only [Act.put,Rg.sA,Rg.sB,Rg.sC]
 refine Rg.ld 8 HeldS ?_
 simp only [Act.put,Rg.sA,Rg.sB,Rg.sC]
 refine Rg.ld 9 HeldS ?_
 simp only [Act.put,Rg.sA,Rg.sB,Rg.sC]
 refine Rg.ld 10 HeldS ?_
 simp only [Act.put,Rg.sA,Rg.sB,Rg.sC]
 refine Rg.ld 11 HeldS ?_
 simp only [Act.put,Rg.sA,Rg.sB,Rg.sC]
 refine Rg.ld 12 HeldS ?_
 simp only [Act.put,Rg.sA,Rg.sB,Rg.sC]
 refine Rg.dd 13 fun K hK => ?_
 go_simp
 go_at_call 290
 refine Calls.mono hah ?_
 clear hah
 rintro r X7 ⟨rfl,e7,n7,f7,b7,s7⟩
 refine hK _ _ (fun h => absurd h (by decide)) ?_
 clear hK K HeldS
 refine Rg.wpD_done (by kernel_rfl) ?_
 simp only [onlyN]
 simp only [show X4.drew.heap.size = X4.heap.size from rfl,s4] at e7 n7 f7 b7 s7 ⊢
 have st7:Step E γ1 X1 γ1 X7:=st1.inv.step (Below.trans (below_drew b4) (b7.mono (by omega)))
 have lt1:=st1.inv.lt hV
 have lowX:E.n₀ ≤ X1.heap.size:=st1.inv.low.size
 have free1:∀ b,X1.heap.size ≤ b → γ1 b = none:=fun b hb => st1.inv.new hb
 have L0:Loop E V X1.heap.size γ1 X1 [] 2 (.slice none 0 0) γ1 X7:=by
  have bb:Below X4.heap.size X4 X7:=Below.trans q0 (by rw [s4];exact b7)
  have g7:=grown_of_below bb none
  exact ⟨st7,fun b h1 _ => free1 b h1,fo4.kept g7 (by simp),vb4.kept g7 (by simp),pb4.kept g7 (by simp),World.ownsRow_nil _ _ _ _,fun g h => by simp [Value.ownBlock] at h,rfl,by omega,lowX⟩
 clear fo4 vb4 pb4 HS st4 st7 q0 b7
 have HK0:Hid (∀ (a:Act) (w:World),_ → K0 a w):=hK0
 have CONT:Hid (∀ (ps:List Nat) (u:Int) (pw:Value) (γ':Ghost) (X:World),Loop E V X1.heap.size γ1 X1 ps u pw γ' X → ((u = 1 ∧ res = true) ∨ (u = 2 ∧ res = false)) → (∀ y ∈ ps,y < E.qs.length ∧ vdV E f s k y = res) → X.heap[X1.heap.size + 6]? = some (.deferred (some [])) →
   K0 { tmps:=#[(.pointer (some ⟨A,0,none⟩)),(.int .i64 k),(.int .i64 e),(.pointer (some ⟨W.heap.size,0,none⟩)),(.pointer (some ⟨W.heap.size + 1,0,none⟩)),undef,(.bool false),(.pointer (some ⟨X1.heap.size,0,none⟩)),(.pointer (some ⟨X1.heap.size + 1,0,none⟩)),(.pointer (some ⟨X1.heap.size + 2,0,none⟩)),undef,undef,undef,(.pointer (some ⟨A,0,none⟩)),(.int .i64 k),(.slice (some ⟨V,0,none⟩) E.qs.length E.qs.length),(.pointer (some ⟨A,0,none⟩)),(.pointer (some ⟨A,0,none⟩)),(.pointer (some ⟨A,0,none⟩)),(.pointer (some ⟨E.tb,0,none⟩)),(.int .i64 e),(.pointer (some ⟨A,0,none⟩)),(.pointer (some ⟨A,0,none⟩)),(.pointer (some ⟨A,1,none⟩)),(.slice (some ⟨bk,off,none⟩) s.length cp),(.int .i64 k),(.pointer (some ⟨bk,off + k * 6,none⟩)),(.pointer (some ⟨bk,off + k * 6,none⟩)),(.int .i64 p.1),(.func (.func 322) #[] #[.pointer (some ⟨X1.heap.size + 4,0,none⟩),.pointer (some ⟨X1.heap.size + 3,0,none⟩),.pointer (some ⟨X1.heap.size + 5,0,none⟩)]),undef,undef,undef,undef,undef,undef,undef,undef,undef,undef,undef,undef,undef,undef,undef,undef,undef,undef,undef,undef,undef,undef,undef,undef,undef,undef,undef,undef,undef,undef,undef,undef],defers:=[{ target:=.collected (X1.heap.size + 6),args:=#[] }] } X):=by
  intro ps u pw γ' X hL hu hps hdf
  have hV':γ' V = some (.verd A k):=(hL.st.role V lt1).trans hV
  have hA':γ' A = some (.asked s (.slice (some ⟨bk,off,none⟩) s.length cp) f):=(hL.st.role A (st1.inv.lt hA1)).trans hA1
  have hform:∃ pq cq,pw = .slice pq ps.length cq:=by
   obtain ⟨pq,cq,h⟩:=owns_form hL.row
   rw [chI_len] at h
   exact ⟨pq,cq,h⟩
  obtain ⟨pq,cq,rfl⟩:=hform
  have cf:=hL.fo.cell
  have cv:=hL.vb.cell
  have cpb:=hL.pb.cell
  have HV':Hid (_ = _):=hV'
  have HA':Hid (_ = _):=hA'
  have HPS:Hid (∀ y ∈ ps,y < E.qs.length ∧ vdV E f s k y = res):=hps
  have HU0:Hid ((u = 1 ∧ res = true) ∨ (u = 2 ∧ res = false)):=hu
  have HL0:Hid (Loop E V X1.heap.size γ1 X1 ps u (.slice pq ps.length cq) γ' X):=hL
  have HDF:Hid (_ = _):=hdf
  have hfew:=HE.out.few
  have hpl:ps.length ≤ 9223372036854775807:=by have:=hL.row.at.short;rwa [chI_len] at this
  refine HK0.out _ _ ?_
  clear HK0 hps hu hL hdf hV' hA'
  gi_wp2
  gi_loopw [51] (fun x wr => ∃ i:Nat,x = .int .i64 i ∧ i ≤ ps.length ∧ Loop E V X1.heap.size γ1 X1 ps u (.slice pq ps.length cq) γ' wr ∧ wr.heap[X1.heap.size + 6]? = some (.deferred (some []))) (fun x _ => ps.length - (intOf x).toNat)
  case atStart => exact ⟨0,rfl,Nat.zero_le _,HL0.out,HDF.out⟩
  case round =>
   clear cf cv cpb
   obtain ⟨i,rfl,hi,hLr,hd⟩:=hrel
   have HLr:Hid _:=hLr
   have HD:Hid (_ = _):=hd
   have cf:=hLr.fo.cell
   have cv:=hLr.vb.cell
   by_cases hlt:i < ps.length
   ·obtain ⟨y,hy⟩:∃ y,ps[i]? = some y:=⟨_,List.getElem?_eq_getElem hlt⟩
    obtain ⟨hyN,hyv⟩:=HPS.out y (List.mem_of_getElem? hy)
    obtain ⟨bq,oq,rfl,_,hcq,hmq,hcell⟩:=hLr.row.at.get (k:=i) (t:=(y:Int)) (by unfold chI;rw [List.getElem?_map,hy];rfl)
    have z0:=hcell 0 _ rfl
    simp only [Nat.mul_one,Nat.add_zero] at z0
    rw [chI_len] at hcq
    unfold maxLen at hmq
    obtain ⟨v,c,fz,_⟩:=hLr.look HV'.out HA'.out hyN
    have NX:=hLr.note HV'.out HA'.out (y:=y) (by rw [hyv];exact HU0.out)
    have HNX:Hid _:=NX
    have hne:X1.heap.size + 6 ≠ V:=by omega
    have hd2:(wr.setCell ⟨V,y,none⟩ (.int .u8 u)).heap[X1.heap.size + 6]? = some (.deferred (some [])):=(Below.heap_setCell _ _ _ _ (by simpa using hne)).trans hd
    have HD2:Hid (_ = _):=hd2
    have hii:(i:Int) < (ps.length:Int):=by omega
    have hyi:(y:Int) < (E.qs.length:Int):=by omega
    clear hcell NX hd2 hyv hy hLr hd
    gi_wp2
    go_roundw
    case rel => exact ⟨i + 1,rfl,by omega,HNX.out,HD2.out⟩
    case measure => simp [intOf];omega
   ·have hii:¬ ((i:Int) < (ps.length:Int)):=by omega
    clear hLr hd
    have st9:=HLr.out.st.aside (grownBy_putObj' wr (X1.heap.size + 6) (.deferred none)) (fun b e => by cases e;exact ⟨by omega,HLr.out.free _ (by omega) (by omega)⟩) lowX
    have FIN:Hid (∃ γ9,Step E γ W γ9 _):=⟨_,(st2.trans st1).trans st9⟩
    clear st9
    rcases HU0.out with ⟨rfl,hr⟩ | ⟨rfl,hr⟩
    ·have HRR:Hid (_ = _):=hr
     clear hr
     gi_wp2
     refine ⟨by simp,.inl ⟨_,_,rfl,run_takeDeferred HD.out,?_⟩⟩
     exact ⟨_,results_tmp rfl _ _ _,by rw [show res = _ from HRR.out];rfl,FIN.out⟩
    ·have HRR:Hid (_ = _):=hr
     clear hr
     gi_wp2
     refine ⟨by simp,.inl ⟨_,_,rfl,run_takeDeferred HD.out,?_⟩⟩
     exact ⟨_,results_tmp rfl _ _ _,by rw [show res = _ from HRR.out];rfl,FIN.out⟩
 have hseq:=ahead_seq E HE.out (n - 1) (X1.heap.size + 4) (X1.heap.size + 3) (X1.heap.size + 5) p.1 e he X7
 have h7:X7.heap.size = X1.heap.size + 6:=by omega
 have ba:∀ b,b < W.heap.size + 2 → W.heap.size ≤ b → γ1 b = none:=fun b h1 h2 => (st1.role b (by omega)).trans (free2 b h2)
 have hlenA:∀ (f':Nat) (x:Int),(chain E.es p.1 f' x).length ≤ f':=by
  intro f'
  induction f' with
  | zero => intro x;exact Nat.le_refl _
  | succ f' ih =>
   intro x
   rw [chain_succ]
   unfold restV
   split
   ·exact Nat.zero_le _
   ·split
    ·have:=ih (nextV E.es p.1 x);simp;omega
    ·simp
 have HLEN:Hid (∀ (f':Nat) (x:Int),(chain E.es p.1 f' x).length ≤ f'):=hlenA
 rw [hcomb] at HR
 clear hlenA
 gi_wp2
 refine wpIn_rangeFunc_W 0 rfl hn (gf:=322) (lb:=#[.pointer (some ⟨X1.heap.size + 4,0,none⟩),.pointer (some ⟨X1.heap.size + 3,0,none⟩),.pointer (some ⟨X1.heap.size + 5,0,none⟩)]) rfl trivial egAhead hseq (Nat.zero_le _) (Below.refl _ _) (fun _ => rfl)
  (AhI E V e f k s p.1 γ1 X1)
  (AhX E V f k s res γ1 X1)
  ?hI ?hIx ⟨γ1,_,L0,fun z h => (by cases h),e7,n7,f7⟩ ?hIC
  (fun x => { tmps:=#[(.pointer (some ⟨A,0,none⟩)),(.int .i64 k),(.int .i64 e),(.pointer (some ⟨W.heap.size,0,none⟩)),(.pointer (some ⟨W.heap.size + 1,0,none⟩)),undef,(.bool false),(.pointer (some ⟨X1.heap.size,0,none⟩)),(.pointer (some ⟨X1.heap.size + 1,0,none⟩)),(.pointer (some ⟨X1.heap.size + 2,0,none⟩)),(.int .i64 (x:Nat)),undef,undef,(.pointer (some ⟨A,0,none⟩)),(.int .i64 k),(.slice (some ⟨V,0,none⟩) E.qs.length E.qs.length),(.pointer (some ⟨A,0,none⟩)),(.pointer (some ⟨A,0,none⟩)),(.pointer (some ⟨A,0,none⟩)),(.pointer (some ⟨E.tb,0,none⟩)),(.int .i64 e),(.pointer (some ⟨A,0,none⟩)),(.pointer (some ⟨A,0,none⟩)),(.pointer (some ⟨A,1,none⟩)),(.slice (some ⟨bk,off,none⟩) s.length cp),(.int .i64 k),(.pointer (some ⟨bk,off + k * 6,none⟩)),(.pointer (some ⟨bk,off + k * 6,none⟩)),(.int .i64 p.1),(.func (.func 322) #[] #[.pointer (some ⟨X1.heap.size + 4,0,none⟩),.pointer (some ⟨X1.heap.size + 3,0,none⟩),.pointer (some ⟨X1.heap.size + 5,0,none⟩)]),(.int .i64 (x:Nat)),undef,undef,undef,undef,undef,undef,undef,undef,undef,undef,undef,undef,undef,undef,undef,undef,undef,undef,undef,undef,undef,undef,undef,undef,undef,undef,undef,undef,undef,undef,undef],defers:=[] }) ?assign ?body ?done ?stop
 case hI =>
  rintro pre X Y row ⟨γ',pw,hL,h2,h3,h4,h5⟩ hg hr
  have far:∀ b,b < X1.heap.size + 6 → some b ≠ row:=fun b hb e => by have:=hr b e.symm;omega
  exact ⟨γ',pw,hL.abide hg (fun b e => by have:=hr b e;omega),h2,h3.kept hg (far _ (by omega)),h4.kept hg (far _ (by omega)),h5.kept hg (far _ (by omega))⟩
 case hIx =>
  rintro pre X Y row ⟨ps,u,γ',pw,hL,h2,h3⟩ hg hr
  exact ⟨ps,u,γ',pw,hL.abide hg (fun b e => by have:=hr b e;omega),h2,h3⟩
 case hIC =>
  rintro pre X ⟨γ',pw,hL,h2,h3,h4,h5⟩
  exact ⟨h4.cell,h3.cell,h5.cell,hL.st.inv.tree HE.out⟩
 case assign =>
  intro l x X K hK
  gi_wp2
  exact hK
 case body =>
  rintro l' pre x X ⟨γ',pw,hL,hno,h3,h4,h5⟩ ⟨rest,hok⟩ hsz
  rw [h7] at hsz
  have h8:X1.heap.size + 8 ≤ X.heap.size:=by omega
  have hok':aheadV E.es (partAt s k).1 e = pre ++ x :: rest:=by rw [hcomb];exact hok.symm
  have hx:=(vd_at HE.out he (f:=f) hok').1
  have hlen:pre.length < 4097:=by
   have h1:=HLEN.out (e + 1) e
   have h2:(aheadV E.es p.1 e).length = pre.length + (rest.length + 1):=by rw [← hok];simp
   unfold aheadV at h2
   have:=HE.out.few
   omega
  have hV':γ' V = some (.verd A k):=(hL.st.role V lt1).trans hV
  have hA':γ' A = some (.asked s (.slice (some ⟨bk,off,none⟩) s.length cp) f):=(hL.st.role A (st1.inv.lt hA1)).trans hA1
  have aX:Boxed X W.heap.size 257 (.pointer (some ⟨A,0,none⟩)):=(hL.st.block _ a1.lt (ba _ (by omega) (Nat.le_refl _))).trans a1
  have kX:Boxed X (W.heap.size + 1) 3 (.int .i64 k):=(hL.st.block _ k1.lt (ba _ (by omega) (by omega))).trans k1
  obtain ⟨v,cV,fV,hv⟩:=hL.look hV' hA' hx
  have hxi:(x:Int) < (E.qs.length:Int):=by omega
  have cf:=hL.fo.cell
  have cv:=hL.vb.cell
  have fv':=hL.vb.frozen
  have KP:Hid (∀ (b:Nat) (u:Value),X1.heap.size ≤ b → b < X1.heap.size + 6 → ∀ Y,KeepsIn 0 (X1.heap.size + 6) (X1.heap.size + 8) X Y → KeepsIn 0 (X1.heap.size + 6) (X1.heap.size + 8) X (Y.setCell ⟨b,0,none⟩ u)):=fun b u h1 h2 Y hY => hY.trans ⟨(Below.refl 0 Y).grown (grownBy_setCell' Y b u) (Nat.zero_le _) (fun _ _ => Nat.zero_le _),fun r r1 r2 => Below.heap_setCell _ _ _ _ (by simp;omega)⟩
  have HLX:Hid _:=hL
  have HHV:Hid (_ = _):=hV'
  have HHA:Hid (_ = _):=hA'
  have HNO:Hid (∀ z ∈ pre,uptoV (anyV E.es f) E.es s (k - 1) z = false):=hno
  have HOK:Hid (_ = _):=hok'
  by_cases hv0:v = 0
  ·subst hv0
   have hform:∃ pq cq,pw = .slice pq pre.length cq:=by
    obtain ⟨pq,cq,h⟩:=owns_form hL.row
    rw [chI_len] at h
    exact ⟨pq,cq,h⟩
   obtain ⟨pq,cq,rfl⟩:=hform
   have cpb:=hL.pb.cell
   have fpb:=hL.pb.frozen
   obtain ⟨i0,hi,hz0,hz1,hz2⟩:=info_parts infoInt
   have r1:(X.alloc (.cells #[.int .i64 (x:Int)] 3)).ownsRow (X1.heap.size + 8) 3 1 (.slice pq pre.length cq) (chI pre).length ((chI pre).map (Value.int .i64)):=(show IntRow _ _ _ _ from hL.row).alloc _
   have hcl:(chI pre).length = pre.length:=chI_len pre
   have hw1:IntKind.i64.wrap ((k:Int) - 1) = ((k - 1:Nat):Int):=by rw [IntKind.wrap_i64];omega
   have HAX:Hid (Boxed X W.heap.size 257 (.pointer (some ⟨A,0,none⟩))):=aX
   have HKX:Hid (Boxed X (W.heap.size + 1) 3 (.int .i64 k)):=kX
   have H3:Hid _:=h3
   have H4:Hid _:=h4
   have H5:Hid _:=h5
   have AFTER:Hid (∀ (q4:Option Addr) (c4:Nat) (w4:World),w4.ownsRow (X1.heap.size + 8) 3 1 (.slice q4 (pre.length + 1) c4) (pre.length + 1) ((chI pre).map (Value.int .i64) ++ [.int .i64 (x:Int)]) → (X.alloc (.cells #[.int .i64 (x:Int)] 3)).grownBy w4 (Value.slice pq pre.length cq).ownBlock → ((Value.slice q4 (pre.length + 1) c4).ownBlock = (Value.slice pq pre.length cq).ownBlock ∨ (Value.slice q4 (pre.length + 1) c4).ownBlock = some (X.alloc (.cells #[.int .i64 (x:Int)] 3)).heap.size) →
     w4.cell? ⟨X1.heap.size + 2,0,none⟩ = some (.slice pq pre.length cq) ∧ w4.frozen? ⟨X1.heap.size + 2,0,none⟩ = false ∧
     (w4.setCell ⟨X1.heap.size + 2,0,none⟩ (.slice q4 (pre.length + 1) c4)).cell? ⟨W.heap.size,0,none⟩ = some (.pointer (some ⟨A,0,none⟩)) ∧
     (w4.setCell ⟨X1.heap.size + 2,0,none⟩ (.slice q4 (pre.length + 1) c4)).cell? ⟨W.heap.size + 1,0,none⟩ = some (.int .i64 k) ∧
     Hid (Loop E V X1.heap.size γ1 X1 (pre ++ [x]) 2 (.slice q4 (pre.length + 1) c4) γ' (w4.setCell ⟨X1.heap.size + 2,0,none⟩ (.slice q4 (pre.length + 1) c4)) ∧
      KeepsIn 0 (X1.heap.size + 6) (X1.heap.size + 8) X (w4.setCell ⟨X1.heap.size + 2,0,none⟩ (.slice q4 (pre.length + 1) c4)) ∧
      Boxed (w4.setCell ⟨X1.heap.size + 2,0,none⟩ (.slice q4 (pre.length + 1) c4)) (X1.heap.size + 3) 3 (.int .i64 e) ∧ Boxed (w4.setCell ⟨X1.heap.size + 2,0,none⟩ (.slice q4 (pre.length + 1) c4)) (X1.heap.size + 4) 48 (wayF E.tb p.1) ∧ Boxed (w4.setCell ⟨X1.heap.size + 2,0,none⟩ (.slice q4 (pre.length + 1) c4)) (X1.heap.size + 5) 4 (.bool (farV p.1)) ∧ X1.heap.size + 8 ≤ (w4.setCell ⟨X1.heap.size + 2,0,none⟩ (.slice q4 (pre.length + 1) c4)).heap.size)):=by
    intro q4 c4 w4 hown4 hgrow4 hat4
    obtain ⟨L4,p4⟩:=hL.push h8 (by rw [hcl];exact hown4) hgrow4 hat4
    have g2:=grownBy_setCell' w4 (X1.heap.size + 2) (.slice q4 (pre.length + 1) c4)
    have ne:∀ b,b < X1.heap.size + 8 → some b ≠ (Value.slice pq pre.length cq).ownBlock:=fun b hb e => by have:=(owns_lt hL.row e.symm).1;omega
    have sz4:=hgrow4.size
    rw [World.size_alloc] at sz4
    have bx:∀ {t:TypeId} {v:Value} {b:Nat},Boxed X b t v → b < X1.heap.size + 8 → b ≠ X1.heap.size + 2 → Boxed (w4.setCell ⟨X1.heap.size + 2,0,none⟩ (.slice q4 (pre.length + 1) c4)) b t v:=fun hb h1 h2 => ((hb.alloc _).kept hgrow4 (ne _ h1)).kept g2 (by simpa using h2)
    refine ⟨p4.cell,p4.frozen,Boxed.cell (show Boxed _ W.heap.size 257 _ from (L4.st.block _ a1.lt (ba _ (by omega) (Nat.le_refl _))).trans a1),Boxed.cell (show Boxed _ (W.heap.size + 1) 3 _ from (L4.st.block _ k1.lt (ba _ (by omega) (by omega))).trans k1),L4,KP.out _ _ (by omega) (by omega) _ ⟨((Below.refl 0 X).alloc (Nat.zero_le _) _).grown hgrow4 (Nat.zero_le _) (fun _ _ => Nat.zero_le _),fun r r1 r2 => (hgrow4.block r (by simp;omega) (ne _ (by omega))).trans (Below.heap_alloc _ _ _ (by omega))⟩,bx h3 (by omega) (by omega),bx h4 (by omega) (by omega),bx h5 (by omega) (by omega),by have:=g2.size;omega⟩
   clear hL hV' hA' hno hok hok' hv h3 h4 h5 aX kX
   gi_wp2_with (gi_at_builtin;refine wpListIn_append_own_at _ rfl _ _ 58 rfl (X1.heap.size + 8) 3 i0 (.int .i64 0) 1 8 Tryz.underlying58 hi hz0 hz1 hz2 rfl (by decide) (.slice pq pre.length cq) _ _ rfl r1 ⟨X.heap.size,0,none⟩ 1 1 [.int .i64 (x:Int)] rfl rfl (cells_plain X [.int .i64 (x:Int)] _) (fun u hu => by simp at hu;subst hu;rfl) (by rw [hcl];unfold maxLen;omega) (by rw [hcl];omega) (by simp;omega) ?_;intro pw' w4 hown4 hgrow4 hnil4 hat4;rw [hcl] at hown4;obtain ⟨q4,c4,rfl⟩:=owns_form hown4;obtain ⟨s0,s1,aY,kY,LY⟩:=AFTER.out q4 c4 w4 hown4 hgrow4 hat4)
   clear s0 s1 cV fV cf cv fv' cpb fpb hown4 hgrow4 hnil4 hat4 r1
   obtain ⟨Y,hY⟩:∃ Y,w4.setCell ⟨X1.heap.size + 2,0,none⟩ (.slice q4 (pre.length + 1) c4) = Y:=⟨_,rfl⟩
   rw [hY] at LY aY kY ⊢
   have hU:=HUU.out γ' Y LY.out.1.st.inv HHA.out x hx
   refine ⟨trivial,fun h => (by cases h),?_⟩
   refine (CallsIn.inRound l' (callsIn_wide.2 hU)).mono ?_
   clear hU
   rintro r Z ⟨rfl,γ'',stZ⟩
   obtain ⟨LY1,LY2,LY3,LY4,LY5,LY6⟩:=LY.out
   have LZ:=LY1.step stZ LY6
   have bx:∀ {t:TypeId} {v:Value} {b:Nat},Boxed Y b t v → X1.heap.size ≤ b → b < X1.heap.size + 8 → Boxed Z b t v:=fun hb h1 h2 => (stZ.block _ hb.lt (LY1.free _ h1 h2)).trans hb
   have KZ:KeepsIn 0 (X1.heap.size + 6) (X1.heap.size + 8) X Z:=LY2.trans ⟨⟨stZ.inv.low.os.trans LY1.st.inv.low.os.symm,stZ.inv.low.tape.trans LY1.st.inv.low.tape.symm,stZ.inv.low.output.trans LY1.st.inv.low.output.symm,stZ.size,fun _ h => absurd h (Nat.not_lt_zero _)⟩,fun r r1 r2 => stZ.block r (by omega) (LY1.free r (by omega) (by omega))⟩
   have cvZ:=LZ.vb.cell
   have fvZ:=LZ.vb.frozen
   cases hup:uptoV (anyV E.es f) E.es s (k - 1) x with
   | true =>
    obtain ⟨hr1,hr2⟩:=res_yes HE.out he (f:=f) HOK.out HNO.out hup
    rw [hcomb] at hr1
    have hres:res = true:=by rw [show res = _ from HR.out];exact hr1
    have FIN:Hid (KeepsIn 0 X7.heap.size (X7.heap.size + 2 + 0) X (Z.setCell ⟨X1.heap.size + 1,0,none⟩ (.int .u8 1)) ∧ AhX E V f k s res γ1 X1 (pre ++ [x]) (Z.setCell ⟨X1.heap.size + 1,0,none⟩ (.int .u8 1))):=by
     rw [h7]
     exact ⟨KP.out _ _ (by omega) (by omega) _ KZ,_,1,_,_,LZ.setV 1,.inl ⟨rfl,hres⟩,fun y hy => by rw [hres];exact hr2 y hy⟩
    clear LZ bx KZ LY1 LY2 LY3 LY4 LY5 LY6 stZ hup hr1 hr2 hres h7 s7
    gi_wp2
    exact ⟨rfl,FIN.out⟩
   | false =>
    have FIN:Hid (KeepsIn 0 X7.heap.size (X7.heap.size + 2 + 0) X Z ∧ AhI E V e f k s p.1 γ1 X1 (pre ++ [x]) Z):=by
     rw [h7]
     refine ⟨KZ,_,_,LZ,fun z hz => ?_,bx LY3 (by omega) (by omega),bx LY4 (by omega) (by omega),bx LY5 (by omega) (by omega)⟩
     rcases List.mem_append.1 hz with hz | hz
     ·exact HNO.out z hz
     ·obtain rfl:z = x:=by simpa using hz
      exact hup
    clear LZ bx KZ LY1 LY2 LY3 LY4 LY5 LY6 stZ hup h7 s7
    gi_wp2
    exact FIN.out
  ·have hne:(v != 0) = true:=by simpa [bne] using hv0
   obtain ⟨hr1,hr2⟩:=res_at HE.out he (f:=f) HOK.out HNO.out
   rw [hcomb] at hr1
   have hres:res = vdV E f s k x:=by rw [show res = _ from HR.out];exact hr1
   have FIN:Hid (KeepsIn 0 X7.heap.size (X7.heap.size + 2 + 0) X (X.setCell ⟨X1.heap.size + 1,0,none⟩ (.int .u8 v)) ∧ AhX E V f k s res γ1 X1 (pre ++ [x]) (X.setCell ⟨X1.heap.size + 1,0,none⟩ (.int .u8 v))):=by
    rw [h7]
    refine ⟨KP.out _ _ (by omega) (by omega) _ (KeepsIn.refl _ _ _ _),pre,v,_,_,hL.setV v,?_,fun y hy => by rw [hres];exact hr2 y hy⟩
    rw [hres]
    rcases hv with h | h | h
    ·exact absurd h hv0
    ·exact .inl h
    ·exact .inr h
   clear hL hV' hA' hno hok hok' hv h3 h4 h5 aX kX hr1 hr2 hres hv0 h7 s7
   gi_wp2
   exact ⟨rfl,FIN.out⟩
 case done =>
  rintro ys X hys ⟨γ',pw,hL,hno,_⟩ hK
  obtain ⟨hr1,hr2⟩:=res_none HE.out he (f:=f) (s:=s) (k:=k) (by rw [hcomb];exact hys) hno
  rw [hcomb] at hr1
  have hres:res = false:=by rw [show res = _ from HR.out];exact hr1
  rw [h7] at hK
  have FIN:=CONT.out ys 2 pw γ' X hL (.inr ⟨rfl,hres⟩) (fun y hy => by rw [hres];exact hr2 y hy) hK
  rw [h7]
  exact FIN
 case stop =>
  rintro pre X _ ⟨ps,u,γ',pw,hL,hu,hps⟩ hK
  rw [h7] at hK ⊢
  have FIN:Hid _:=CONT.out ps u pw γ' X hL hu hps hK
  clear CONT HK0 hK0
  gi_wp2
  exact FIN.out
end Go.Proofs.YtagbjmocjaaioaaGreatDoor.Mt
