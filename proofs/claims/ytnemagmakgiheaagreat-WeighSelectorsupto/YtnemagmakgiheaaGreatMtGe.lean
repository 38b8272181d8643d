/- The elements ahead: plain facts. -/
import Derived.Test.YtnemagmakgiheaaGreatMtGx
import Derived.Test.YtnemagmakgiheaaGreatSeqW
import Derived.RangeFuncBox
import Derived.Shelf.RegionOpen
import Derived.LoopIn
import Derived.Laws.EntriesVeiled
set_option maxRecDepth 100000
namespace Go.Proofs.YtnemagmakgiheaaGreat.Mt
open Go.Proofs.YtnemagmakgiheaaGreat.Tre
open Go Dm
theorem parentV_lt {es:List El} (hO:TreeOk es) {k:Nat} (hk:k < es.length):parentV es k = -1 ∨ ∃ j:Nat,parentV es k = j ∧ j < k:=by
 have hq:es[k]? = some es[k]:=List.getElem?_eq_getElem hk
 have hV:parentV es (k:Int) = es[k].nd.parent:=by unfold parentV;rw [elAt_yes hq];rfl
 rw [hV]
 rcases Nat.eq_zero_or_pos k with rfl | h0
 ·exact .inl (hO.root _ hq).1
 ·obtain ⟨p,q,h1,h2,_⟩:=hO.par k _ hq h0
  exact .inr ⟨p,h1,h2⟩
theorem beforeV_lt {es:List El} (hO:TreeOk es) {k:Nat} (hk:k < es.length):beforeV es k = -1 ∨ ∃ j:Nat,beforeV es k = j ∧ j < k:=by
 have hq:es[k]? = some es[k]:=List.getElem?_eq_getElem hk
 unfold beforeV
 rw [if_pos ⟨by omega,by omega⟩,Int.toNat_natCast,sibV_at hq]
 rcases Nat.eq_zero_or_pos k with rfl | h0
 ·rw [if_pos (hO.root _ hq).1]
  exact .inl rfl
 ·obtain ⟨p,q,h1,h2,h3,_,h5,h6⟩:=hO.par k _ hq h0
  rw [if_neg (by omega),h1]
  have hc:childrenV es (p:Int) = q.ch:=by unfold childrenV;rw [elAt_yes h3];rfl
  rw [hc]
  by_cases hp:es[k].place = 1
  ·exact .inl (nthI_no (by omega))
  ·right
   have hi:((es[k].place:Int) - 1 + -1) = ((es[k].place - 2:Nat):Int):=by omega
   rw [hi]
   have hlt:=(List.getElem?_eq_some_iff.1 h6).1
   have hx:q.ch[es[k].place - 2]? = some (q.ch[es[k].place - 2]'(by omega)):=List.getElem?_eq_getElem (by omega)
   rw [nthI_yes hx]
   refine ⟨_,rfl,?_⟩
   have hr:=hO.rise p q h3
   rw [List.pairwise_iff_getElem] at hr
   have:=hr (es[k].place - 2) (es[k].place - 1) (by omega) hlt (by omega)
   rwa [(List.getElem?_eq_some_iff.1 h6).2] at this
theorem nextV_lt {es:List El} (hO:TreeOk es) {k:Nat} (hk:k < es.length) (comb:Int):nextV es comb k = -1 ∨ ∃ j:Nat,nextV es comb k = j ∧ j < k:=by
 unfold nextV
 split
 ·exact parentV_lt hO hk
 ·split
  ·exact beforeV_lt hO hk
  ·exact .inl rfl
def restV (es:List El) (comb:Int) (f:Nat) (y:Int):List Nat:=if y = -1 then [] else y.toNat :: (if farV comb then chain es comb f y else [])
theorem chain_succ (es:List El) (comb:Int) (f:Nat) (x:Int):chain es comb (f + 1) x = restV es comb f (nextV es comb x):=rfl
theorem restV_end (es:List El) (comb:Int) (f:Nat):restV es comb f (-1) = []:=if_pos rfl
theorem restV_at (es:List El) (comb:Int) (f j:Nat):restV es comb f (j:Int) = j :: (if farV comb then chain es comb f j else []):=by
 unfold restV
 rw [if_neg (by omega),Int.toNat_natCast]
theorem chain_fuel {es:List El} (hO:TreeOk es) (comb:Int):∀ (f y:Nat),y < es.length → y < f → chain es comb f y = chain es comb (y + 1) y:=by
 intro f
 induction f using Nat.strongRecOn with
 | _ f ih =>
  intro y hy hf
  obtain ⟨f',rfl⟩:∃ f',f = f' + 1:=⟨f - 1,by omega⟩
  rw [chain_succ,chain_succ]
  rcases nextV_lt hO hy comb with h | ⟨j,h,hj⟩
  ·rw [h,restV_end,restV_end]
  ·rw [h,restV_at,restV_at,ih f' (by omega) j (by omega) (by omega)]
   by_cases hy0:y = f'
   ·rw [hy0,ih f' (by omega) j (by omega) (by omega)]
   ·rw [ih y (by omega) j (by omega) (by omega)]
theorem chain_tail {es:List El} (hO:TreeOk es) (comb:Int):∀ (f x:Nat) (a:List Nat) (y:Nat) (b:List Nat),x < es.length → x < f → chain es comb f x = a ++ y :: b → y < es.length ∧ b = if farV comb then aheadV es comb y else []:=by
 intro f
 induction f with
 | zero => intro x a y b _ h;omega
 | succ f ih =>
  intro x a y b hx hf h
  rw [chain_succ] at h
  rcases nextV_lt hO hx comb with hn | ⟨j,hn,hj⟩
  ·rw [hn,restV_end] at h
   simp at h
  ·rw [hn,restV_at] at h
   cases a with
   | nil =>
    simp only [List.nil_append,List.cons.injEq] at h
    obtain ⟨rfl,rfl⟩:=h
    refine ⟨by omega,?_⟩
    cases hfar:farV comb with
    | false => simp
    | true => simp only [if_true];exact chain_fuel hO comb f j (by omega) (by omega)
   | cons z a =>
    simp only [List.cons_append,List.cons.injEq] at h
    obtain ⟨_,h⟩:=h
    cases hfar:farV comb with
    | false => rw [hfar] at h;simp at h
    | true =>
     rw [hfar,if_pos rfl] at h
     have:=ih j a y b (by omega) (by omega) h
     rwa [hfar] at this
theorem ahead_tail {es:List El} (hO:TreeOk es) {comb:Int} {e y:Nat} {a b:List Nat} (he:e < es.length) (h:aheadV es comb e = a ++ y :: b):y < es.length ∧ b = if farV comb then aheadV es comb y else []:=
 chain_tail hO comb (e + 1) e a y b he (Nat.lt_succ_self _) h
theorem ahead_next {es:List El} (hO:TreeOk es) {comb:Int} {e:Nat} (he:e < es.length):aheadV es comb e = if nextV es comb e = -1 then [] else (nextV es comb e).toNat :: (if farV comb then aheadV es comb (nextV es comb e).toNat else []):=by
 unfold aheadV
 rw [chain_succ]
 rcases nextV_lt hO he comb with hn | ⟨j,hn,hj⟩
 ·rw [hn,restV_end,if_pos rfl]
 ·rw [hn,restV_at,if_neg (show ¬ ((j:Int) = -1) by omega),Int.toNat_natCast]
  cases hfar:farV comb with
  | false => rfl
  | true => simp only [if_true];rw [chain_fuel hO comb e j (by omega) (by omega)]
end Go.Proofs.YtnemagmakgiheaaGreat.Mt
/- package match: the elements to which a combinator leads, as an iterator. -/
namespace Go.Proofs.YtnemagmakgiheaaGreat.Mt
open Go.Proofs.YtnemagmakgiheaaGreat.Tre
open Go Go.RowKit Go.Shelf Dm
attribute [local go_sem] Oper.semAt_some
/-! ### the way -/
def wayF (tb:Nat) (comb:Int):Value:=if comb = 1 ∨ comb = 2 then .func (.func 168) #[.pointer (some ⟨tb,0,none⟩)] #[] else if comb = 3 ∨ comb = 4 then .func (.func 174) #[.pointer (some ⟨tb,0,none⟩)] #[] else .func (.func 175) #[] #[]
theorem way_any (tb:Nat) (comb:Int) (w:World) :
  Calls Tryz.prog 147 #[.pointer (some ⟨tb,0,none⟩),.int .i64 comb] w fun e w' => e = .returned (.tuple #[wayF tb comb,.bool (farV comb)]) ∧ w' = w:=by
 by_cases h1:comb = 1
 ·subst h1
  go_enter Tryz.func147,Tryz.ntmps147
  go_wp2
  go_ret2
  exact ⟨rfl,rfl⟩
 have e1:(comb == 1) = false:=by simpa using h1
 by_cases h2:comb = 2
 ·subst h2
  go_enter Tryz.func147,Tryz.ntmps147
  go_wp2
  go_ret2
  exact ⟨rfl,rfl⟩
 have e2:(comb == 2) = false:=by simpa using h2
 by_cases h3:comb = 3
 ·subst h3
  go_enter Tryz.func147,Tryz.ntmps147
  go_wp2
  go_ret2
  exact ⟨rfl,rfl⟩
 have e3:(comb == 3) = false:=by simpa using h3
 by_cases h4:comb = 4
 ·subst h4
  go_enter Tryz.func147,Tryz.ntmps147
  go_wp2
  go_ret2
  exact ⟨rfl,rfl⟩
 have e4:(comb == 4) = false:=by simpa using h4
 have hF:wayF tb comb = .func (.func 175) #[] #[]:=by unfold wayF;rw [if_neg (by omega),if_neg (by omega)]
 have hf:farV comb = false:=decide_eq_false (by omega)
 rw [hF,hf]
 go_enter Tryz.func147,Tryz.ntmps147
 go_wp2
 go_ret2
 exact ⟨rfl,rfl⟩
def Ahead (tb:Nat) (e comb:Int) (w:World) (x:Ending) (w':World):Prop:=
 x = .returned (.func (.func 148) #[] #[.pointer (some ⟨w.heap.size + 1,0,none⟩),.pointer (some ⟨w.heap.size,0,none⟩),.pointer (some ⟨w.heap.size + 2,0,none⟩)]) ∧
  Boxed w' w.heap.size 3 (.int .i64 e) ∧ Boxed w' (w.heap.size + 1) 120 (wayF tb comb) ∧ Boxed w' (w.heap.size + 2) 4 (.bool (farV comb)) ∧ Below w.heap.size w w' ∧ w'.heap.size = w.heap.size + 3
set_option maxHeartbeats 1000000 in
theorem ahead_any (tb:Nat) (e comb:Int) (w:World) :
  Calls Tryz.prog 126 #[.pointer (some ⟨tb,0,none⟩),.int .i64 e,.int .i64 comb] w (Ahead tb e comb w):=by
 unfold Ahead
 have hw:=way_any tb comb (w.alloc (.cells #[.int .i64 e] 3))
 obtain ⟨W3,h3⟩:∃ W3,((w.alloc (.cells #[.int .i64 e] 3)).alloc (.cells #[.nilFunc] 120)).alloc (.cells #[.bool false] 4) = W3:=⟨_,rfl⟩
 have s3:W3.heap.size = w.heap.size + 3:=by rw [← h3];simp
 have b3:Below w.heap.size w W3:=by rw [← h3];exact (((Below.refl _ w).alloc (Nat.le_refl _) _).alloc (by simp) _).alloc (by simp;omega) _
 have x0:Boxed W3 w.heap.size 3 (.int .i64 e):=by rw [← h3];exact ((Boxed.new _ _ _).alloc _).alloc _
 have x1:Boxed W3 (w.heap.size + 1) 120 .nilFunc:=by
  rw [← h3]
  have:=(Boxed.new (w.alloc (.cells #[.int .i64 e] 3)) 120 .nilFunc).alloc (.cells #[.bool false] 4)
  rwa [World.size_alloc] at this
 have x2:Boxed W3 (w.heap.size + 2) 4 (.bool false):=by
  rw [← h3]
  have:=Boxed.new ((w.alloc (.cells #[.int .i64 e] 3)).alloc (.cells #[.nilFunc] 120)) 4 (.bool false)
  rwa [World.size_alloc,World.size_alloc] at this
 have c1:=x1.cell
 have f1:=x1.frozen
 have c2:=x2.cell
 have f2:=x2.frozen
 by_cases h1:comb = 1 ∨ comb = 2
 ·have hF:wayF tb comb = .func (.func 168) #[.pointer (some ⟨tb,0,none⟩)] #[]:=if_pos h1
  rw [hF] at hw ⊢
  clear hF
  have g1:=grownBy_setCell' W3 (w.heap.size + 1) (.func (.func 168) #[.pointer (some ⟨tb,0,none⟩)] #[])
  have g2:=grownBy_setCell' (W3.setCell ⟨w.heap.size + 1,0,none⟩ (.func (.func 168) #[.pointer (some ⟨tb,0,none⟩)] #[])) (w.heap.size + 2) (.bool (farV comb))
  have y1:=(x1.set (.func (.func 168) #[.pointer (some ⟨tb,0,none⟩)] #[])).kept g2 (by simp)
  have y2:=(x2.kept g1 (by simp)).set (.bool (farV comb))
  have c2':=(x2.kept g1 (by simp)).cell
  have f2':=(x2.kept g1 (by simp)).frozen
  have y0:=(x0.kept g1 (by simp)).kept g2 (by simp)
  have b9:=(b3.grown g1 b3.size (fun r e => by cases e;omega)).grown g2 (by have:=g1.size;omega) (fun r e => by cases e;omega)
  have s9:((W3.setCell ⟨w.heap.size + 1,0,none⟩ (.func (.func 168) #[.pointer (some ⟨tb,0,none⟩)] #[])).setCell ⟨w.heap.size + 2,0,none⟩ (.bool (farV comb))).heap.size = w.heap.size + 3:=by simp [World.setCell,s3]
  go_enter Tryz.func126,Tryz.ntmps126
  go_wp2_with fail
  refine hw.mono ?_
  clear hw
  rintro x w' ⟨rfl,rfl⟩
  go_wp2
  go_ret
  exact ⟨rfl,y0,y1,y2,b9,s9⟩
 by_cases h2:comb = 3 ∨ comb = 4
 ·have hF:wayF tb comb = .func (.func 174) #[.pointer (some ⟨tb,0,none⟩)] #[]:=by unfold wayF;rw [if_neg h1,if_pos h2]
  rw [hF] at hw ⊢
  clear hF
  have g1:=grownBy_setCell' W3 (w.heap.size + 1) (.func (.func 174) #[.pointer (some ⟨tb,0,none⟩)] #[])
  have g2:=grownBy_setCell' (W3.setCell ⟨w.heap.size + 1,0,none⟩ (.func (.func 174) #[.pointer (some ⟨tb,0,none⟩)] #[])) (w.heap.size + 2) (.bool (farV comb))
  have y1:=(x1.set (.func (.func 174) #[.pointer (some ⟨tb,0,none⟩)] #[])).kept g2 (by simp)
  have y2:=(x2.kept g1 (by simp)).set (.bool (farV comb))
  have c2':=(x2.kept g1 (by simp)).cell
  have f2':=(x2.kept g1 (by simp)).frozen
  have y0:=(x0.kept g1 (by simp)).kept g2 (by simp)
  have b9:=(b3.grown g1 b3.size (fun r e => by cases e;omega)).grown g2 (by have:=g1.size;omega) (fun r e => by cases e;omega)
  have s9:((W3.setCell ⟨w.heap.size + 1,0,none⟩ (.func (.func 174) #[.pointer (some ⟨tb,0,none⟩)] #[])).setCell ⟨w.heap.size + 2,0,none⟩ (.bool (farV comb))).heap.size = w.heap.size + 3:=by simp [World.setCell,s3]
  go_enter Tryz.func126,Tryz.ntmps126
  go_wp2_with fail
  refine hw.mono ?_
  clear hw
  rintro x w' ⟨rfl,rfl⟩
  go_wp2
  go_ret
  exact ⟨rfl,y0,y1,y2,b9,s9⟩
 ·have hF:wayF tb comb = .func (.func 175) #[] #[]:=by unfold wayF;rw [if_neg h1,if_neg h2]
  rw [hF] at hw ⊢
  clear hF
  have g1:=grownBy_setCell' W3 (w.heap.size + 1) (.func (.func 175) #[] #[])
  have g2:=grownBy_setCell' (W3.setCell ⟨w.heap.size + 1,0,none⟩ (.func (.func 175) #[] #[])) (w.heap.size + 2) (.bool (farV comb))
  have y1:=(x1.set (.func (.func 175) #[] #[])).kept g2 (by simp)
  have y2:=(x2.kept g1 (by simp)).set (.bool (farV comb))
  have c2':=(x2.kept g1 (by simp)).cell
  have f2':=(x2.kept g1 (by simp)).frozen
  have y0:=(x0.kept g1 (by simp)).kept g2 (by simp)
  have b9:=(b3.grown g1 b3.size (fun r e => by cases e;omega)).grown g2 (by have:=g1.size;omega) (fun r e => by cases e;omega)
  have s9:((W3.setCell ⟨w.heap.size + 1,0,none⟩ (.func (.func 175) #[] #[])).setCell ⟨w.heap.size + 2,0,none⟩ (.bool (farV comb))).heap.size = w.heap.size + 3:=by simp [World.setCell,s3]
  go_enter Tryz.func126,Tryz.ntmps126
  go_wp2_with fail
  refine hw.mono ?_
  clear hw
  rintro x w' ⟨rfl,rfl⟩
  go_wp2
  go_ret
  exact ⟨rfl,y0,y1,y2,b9,s9⟩
end Go.Proofs.YtnemagmakgiheaaGreat.Mt
/- package match: the elements to which a combinator leads, as an iterator. -/
namespace Go.Proofs.YtnemagmakgiheaaGreat.Mt
open Go.Proofs.YtnemagmakgiheaaGreat.Tre
open Go Go.RowKit Go.Shelf Dm
attribute [local go_sem] Oper.semAt_some
set_option maxHeartbeats 2000000 in
theorem ahead1P_in (E:Env) (hE:EnvOk E) (n l Bn Be Bf:Nat) (comb:Int) (hcb:comb = 1 ∨ comb = 2) (e:Nat) (he:e < E.qs.length) (J Jx:List Nat → World → Prop) (W:World)
  (hC:∀ s X,J s X → X.cell? ⟨Bn,0,none⟩ = some (wayF E.tb comb) ∧ X.cell? ⟨Be,0,none⟩ = some (.int .i64 e) ∧ X.cell? ⟨Bf,0,none⟩ = some (.bool (farV comb)) ∧ Tr E.b X E.tb E.g E.cap E.qs)
  (hY:∀ pre x W1,J pre W1 → (∃ rest,pre ++ x :: rest = aheadV E.es comb e) → W.heap.size ≤ W1.heap.size → YieldAt Fence.wide (n - 1) Tryz.prog l #[.int .i64 (x:Nat)] W1 fun x' W' => (x' = .returned (.bool true) ∧ J (pre ++ [x]) W' ∧ W1.heap.size ≤ W'.heap.size) ∨ (x' = .returned (.bool false) ∧ Jx (pre ++ [x]) W'))
  (h0:J [] W) :
  CallsIn Fence.wide n Tryz.prog 148 #[.func (.yield l) #[] #[],.pointer (some ⟨Bn,0,none⟩),.pointer (some ⟨Be,0,none⟩),.pointer (some ⟨Bf,0,none⟩)] W fun x W' => (∃ v,x = .returned v) ∧ ((∃ xs,xs = aheadV E.es comb e ∧ J xs W') ∨ (∃ pre,True ∧ Jx pre W')):=by
 have hF:wayF E.tb comb = .func (.func 168) #[.pointer (some ⟨E.tb,0,none⟩)] #[]:=by unfold wayF;rw [if_pos hcb]
 have nx:∀ (x:Nat) (X:World),Tr E.b X E.tb E.g E.cap E.qs → Calls Tryz.prog 168 #[.pointer (some ⟨E.tb,0,none⟩),.int .i64 x] X fun r X' => r = .returned (.int .i64 (nextV E.es comb x)) ∧ X' = X:=fun x X hT => by
  unfold nextV
  rw [if_pos hcb]
  exact parent_any E.b E.tb E.g E.cap E.qs x X hT
 refine callsIn_of_wp Tryz.func148 rfl trivial ?_ rfl
 simp only [Tryz.ntmps148,List.size_toArray,List.length_cons,List.length_nil,Nat.reduceAdd,Nat.reduceSub,Array.replicate_succ,Array.replicate_zero,List.push_toArray,List.append_toArray,List.nil_append,List.cons_append]
 rw [hF] at hC
 obtain ⟨c1,c2,c3,hT⟩:=hC _ _ h0
 have n1:=nx e W hT
 have NX:Hid _:=nx
 have HC:Hid _:=hC
 have HY:Hid _:=hY
 have hlen:E.es.length = E.qs.length:=List.length_map ..
 have NLT:Hid (∀ k:Nat,k < E.qs.length → nextV E.es comb k = -1 ∨ ∃ j:Nat,nextV E.es comb k = j ∧ j < k):=fun k hk => nextV_lt hE.ok (by rw [hlen];exact hk) comb
 have HST:Hid (aheadV E.es comb e = restV E.es comb e (nextV E.es comb e)):=chain_succ _ _ _ _
 clear hT hE nx hC hF hlen hY hcb
 gi_wp2_with fail
 refine ⟨trivial,fun h => (by cases h),?_⟩
 refine (callsIn_wide.2 n1).mono ?_
 clear n1
 rintro r W' ⟨rfl,rfl⟩
 gi_wp2
 gi_loopw [5] (fun x wr => ∃ (y:Int) (pre:List Nat) (f:Nat),x = .int .i64 y ∧ aheadV E.es comb e = pre ++ restV E.es comb f y ∧ (y = -1 ∨ ∃ j:Nat,y = j ∧ j < E.qs.length ∧ j < f) ∧ J pre wr ∧ W'.heap.size ≤ wr.heap.size) (fun x _ => (intOf x + 1).toNat)
 case atStart =>
  refine ⟨_,[],e,rfl,HST.out,?_,h0,Nat.le_refl _⟩
  rcases NLT.out e he with h | ⟨j,h,hj⟩
  ·exact .inl h
  ·exact .inr ⟨j,h,by omega,hj⟩
 case round =>
  clear c1 c2 c3
  obtain ⟨y,pre,f,rfl,hx,hy,hJ,hsz⟩:=hrel
  obtain ⟨c1,c2,c3,hT⟩:=HC.out _ _ hJ
  rcases hy with rfl | ⟨j,rfl,hj,hjf⟩
  ·rw [restV_end,List.append_nil] at hx
   have HX:Hid (_ = _):=hx
   clear hx HST hT
   gi_wp2
   refine ⟨fun _ h => (by cases h),?_⟩
   gi_wp2
   go_end0
   exact ⟨⟨_,rfl⟩,.inl ⟨pre,HX.out.symm,hJ⟩⟩
  ·rw [restV_at] at hx
   obtain ⟨fn,tmps,assign,body,hy,hR⟩:=HY.out pre j wr hJ ⟨_,hx.symm⟩ hsz
   have HX:Hid (_ = _):=hx
   have hne:((j:Int) != -1) = true:=by simp [bne]
   clear hx HST hT
   gi_wp2_with fail
   refine ⟨fun h => (by cases h),hR.mono ?_⟩
   rintro r w2 (⟨rfl,hJ2,hsz2⟩ | ⟨rfl,hJ2⟩)
   ·clear c1 c2 c3
    obtain ⟨c1,c2,c3,hT⟩:=HC.out _ _ hJ2
    cases hfar:farV comb with
    | false =>
     rw [hfar] at c3
     have HE:Hid (aheadV E.es comb e = pre ++ [j]):=by
      have:=HX.out
      show _ = _
      rw [show aheadV E.es comb e = _ from HX.out,hfar]
      rfl
     clear HX hT
     gi_wp2
     go_end0
     exact ⟨⟨_,rfl⟩,.inl ⟨_,HE.out.symm,hJ2⟩⟩
    | true =>
     rw [hfar] at c3
     have n1:=NX.out j w2 hT
     obtain ⟨f',rfl⟩:∃ f',f = f' + 1:=⟨f - 1,by omega⟩
     have HE:Hid (aheadV E.es comb e = (pre ++ [j]) ++ restV E.es comb f' (nextV E.es comb j)):=by
      show _ = _
      rw [show aheadV E.es comb e = _ from HX.out,if_pos hfar,chain_succ]
      simp
     have hlt:=NLT.out j hj
     have HL:Hid _:=hlt
     clear HX hT hlt
     gi_wp2_with fail
     refine ⟨trivial,fun h => (by cases h),?_⟩
     refine (callsIn_wide.2 n1).mono ?_
     clear n1
     rintro r W3 ⟨rfl,rfl⟩
     gi_wp2
     go_roundw
     case rel =>
      refine ⟨_,pre ++ [j],f',rfl,HE.out,?_,hJ2,Nat.le_trans hsz hsz2⟩
      rcases HL.out with h | ⟨k,h,hk⟩
      ·exact .inl h
      ·exact .inr ⟨k,h,by omega,by omega⟩
     case measure =>
      rcases HL.out with h | ⟨k,h,hk⟩
      ·simp [intOf,h]
      ·simp [intOf,h];omega
   ·gi_wp2
    go_end0
    exact ⟨⟨_,rfl⟩,.inr ⟨_,trivial,hJ2⟩⟩
set_option maxHeartbeats 2000000 in
theorem ahead1B_in (E:Env) (hE:EnvOk E) (n l Bn Be Bf:Nat) (comb:Int) (hcb:comb = 3 ∨ comb = 4) (e:Nat) (he:e < E.qs.length) (J Jx:List Nat → World → Prop) (W:World)
  (hC:∀ s X,J s X → X.cell? ⟨Bn,0,none⟩ = some (wayF E.tb comb) ∧ X.cell? ⟨Be,0,none⟩ = some (.int .i64 e) ∧ X.cell? ⟨Bf,0,none⟩ = some (.bool (farV comb)) ∧ Tr E.b X E.tb E.g E.cap E.qs)
  (hY:∀ pre x W1,J pre W1 → (∃ rest,pre ++ x :: rest = aheadV E.es comb e) → W.heap.size ≤ W1.heap.size → YieldAt Fence.wide (n - 1) Tryz.prog l #[.int .i64 (x:Nat)] W1 fun x' W' => (x' = .returned (.bool true) ∧ J (pre ++ [x]) W' ∧ W1.heap.size ≤ W'.heap.size) ∨ (x' = .returned (.bool false) ∧ Jx (pre ++ [x]) W'))
  (h0:J [] W) :
  CallsIn Fence.wide n Tryz.prog 148 #[.func (.yield l) #[] #[],.pointer (some ⟨Bn,0,none⟩),.pointer (some ⟨Be,0,none⟩),.pointer (some ⟨Bf,0,none⟩)] W fun x W' => (∃ v,x = .returned v) ∧ ((∃ xs,xs = aheadV E.es comb e ∧ J xs W') ∨ (∃ pre,True ∧ Jx pre W')):=by
 have hF:wayF E.tb comb = .func (.func 174) #[.pointer (some ⟨E.tb,0,none⟩)] #[]:=by unfold wayF;rw [if_neg (by omega),if_pos hcb]
 have nx:∀ (x:Nat) (X:World),Tr E.b X E.tb E.g E.cap E.qs → Calls Tryz.prog 174 #[.pointer (some ⟨E.tb,0,none⟩),.int .i64 x] X fun r X' => r = .returned (.int .i64 (nextV E.es comb x)) ∧ X' = X:=fun x X hT => by
  unfold nextV
  rw [if_neg (by omega),if_pos hcb]
  exact before_any E.b E.tb E.g E.cap E.qs x X hT hE.ok hE.few
 refine callsIn_of_wp Tryz.func148 rfl trivial ?_ rfl
 simp only [Tryz.ntmps148,List.size_toArray,List.length_cons,List.length_nil,Nat.reduceAdd,Nat.reduceSub,Array.replicate_succ,Array.replicate_zero,List.push_toArray,List.append_toArray,List.nil_append,List.cons_append]
 rw [hF] at hC
 obtain ⟨c1,c2,c3,hT⟩:=hC _ _ h0
 have n1:=nx e W hT
 have NX:Hid _:=nx
 have HC:Hid _:=hC
 have HY:Hid _:=hY
 have hlen:E.es.length = E.qs.length:=List.length_map ..
 have NLT:Hid (∀ k:Nat,k < E.qs.length → nextV E.es comb k = -1 ∨ ∃ j:Nat,nextV E.es comb k = j ∧ j < k):=fun k hk => nextV_lt hE.ok (by rw [hlen];exact hk) comb
 have HST:Hid (aheadV E.es comb e = restV E.es comb e (nextV E.es comb e)):=chain_succ _ _ _ _
 clear hT hE nx hC hF hlen hY hcb
 gi_wp2_with fail
 refine ⟨trivial,fun h => (by cases h),?_⟩
 refine (callsIn_wide.2 n1).mono ?_
 clear n1
 rintro r W' ⟨rfl,rfl⟩
 gi_wp2
 gi_loopw [5] (fun x wr => ∃ (y:Int) (pre:List Nat) (f:Nat),x = .int .i64 y ∧ aheadV E.es comb e = pre ++ restV E.es comb f y ∧ (y = -1 ∨ ∃ j:Nat,y = j ∧ j < E.qs.length ∧ j < f) ∧ J pre wr ∧ W'.heap.size ≤ wr.heap.size) (fun x _ => (intOf x + 1).toNat)
 case atStart =>
  refine ⟨_,[],e,rfl,HST.out,?_,h0,Nat.le_refl _⟩
  rcases NLT.out e he with h | ⟨j,h,hj⟩
  ·exact .inl h
  ·exact .inr ⟨j,h,by omega,hj⟩
 case round =>
  clear c1 c2 c3
  obtain ⟨y,pre,f,rfl,hx,hy,hJ,hsz⟩:=hrel
  obtain ⟨c1,c2,c3,hT⟩:=HC.out _ _ hJ
  rcases hy with rfl | ⟨j,rfl,hj,hjf⟩
  ·rw [restV_end,List.append_nil] at hx
   have HX:Hid (_ = _):=hx
   clear hx HST hT
   gi_wp2
   refine ⟨fun _ h => (by cases h),?_⟩
   gi_wp2
   go_end0
   exact ⟨⟨_,rfl⟩,.inl ⟨pre,HX.out.symm,hJ⟩⟩
  ·rw [restV_at] at hx
   obtain ⟨fn,tmps,assign,body,hy,hR⟩:=HY.out pre j wr hJ ⟨_,hx.symm⟩ hsz
   have HX:Hid (_ = _):=hx
   have hne:((j:Int) != -1) = true:=by simp [bne]
   clear hx HST hT
   gi_wp2_with fail
   refine ⟨fun h => (by cases h),hR.mono ?_⟩
   rintro r w2 (⟨rfl,hJ2,hsz2⟩ | ⟨rfl,hJ2⟩)
   ·clear c1 c2 c3
    obtain ⟨c1,c2,c3,hT⟩:=HC.out _ _ hJ2
    cases hfar:farV comb with
    | false =>
     rw [hfar] at c3
     have HE:Hid (aheadV E.es comb e = pre ++ [j]):=by
      have:=HX.out
      show _ = _
      rw [show aheadV E.es comb e = _ from HX.out,hfar]
      rfl
     clear HX hT
     gi_wp2
     go_end0
     exact ⟨⟨_,rfl⟩,.inl ⟨_,HE.out.symm,hJ2⟩⟩
    | true =>
     rw [hfar] at c3
     have n1:=NX.out j w2 hT
     obtain ⟨f',rfl⟩:∃ f',f = f' + 1:=⟨f - 1,by omega⟩
     have HE:Hid (aheadV E.es comb e = (pre ++ [j]) ++ restV E.es comb f' (nextV E.es comb j)):=by
      show _ = _
      rw [show aheadV E.es comb e = _ from HX.out,if_pos hfar,chain_succ]
      simp
     have hlt:=NLT.out j hj
     have HL:Hid _:=hlt
     clear HX hT hlt
     gi_wp2_with fail
     refine ⟨trivial,fun h => (by cases h),?_⟩
     refine (callsIn_wide.2 n1).mono ?_
     clear n1
     rintro r W3 ⟨rfl,rfl⟩
     gi_wp2
     go_roundw
     case rel =>
      refine ⟨_,pre ++ [j],f',rfl,HE.out,?_,hJ2,Nat.le_trans hsz hsz2⟩
      rcases HL.out with h | ⟨k,h,hk⟩
      ·exact .inl h
      ·exact .inr ⟨k,h,by omega,by omega⟩
     case measure =>
      rcases HL.out with h | ⟨k,h,hk⟩
      ·simp [intOf,h]
      ·simp [intOf,h];omega
   ·gi_wp2
    go_end0
    exact ⟨⟨_,rfl⟩,.inr ⟨_,trivial,hJ2⟩⟩
theorem way1_any (x:Int) (w:World):Calls Tryz.prog 175 #[.int .i64 x] w fun r w' => r = .returned (.int .i64 (-1)) ∧ w' = w:=by
 go_enter Tryz.func175,Tryz.ntmps175
 go_wp2
 go_ret
 exact ⟨rfl,rfl⟩
set_option maxHeartbeats 2000000 in
theorem ahead1N_in (E:Env) (hE:EnvOk E) (n l Bn Be Bf:Nat) (comb:Int) (hcb:¬ (comb = 1 ∨ comb = 2) ∧ ¬ (comb = 3 ∨ comb = 4)) (e:Nat) (he:e < E.qs.length) (J Jx:List Nat → World → Prop) (W:World)
  (hC:∀ s X,J s X → X.cell? ⟨Bn,0,none⟩ = some (wayF E.tb comb) ∧ X.cell? ⟨Be,0,none⟩ = some (.int .i64 e) ∧ X.cell? ⟨Bf,0,none⟩ = some (.bool (farV comb)) ∧ Tr E.b X E.tb E.g E.cap E.qs)
  (hY:∀ pre x W1,J pre W1 → (∃ rest,pre ++ x :: rest = aheadV E.es comb e) → W.heap.size ≤ W1.heap.size → YieldAt Fence.wide (n - 1) Tryz.prog l #[.int .i64 (x:Nat)] W1 fun x' W' => (x' = .returned (.bool true) ∧ J (pre ++ [x]) W' ∧ W1.heap.size ≤ W'.heap.size) ∨ (x' = .returned (.bool false) ∧ Jx (pre ++ [x]) W'))
  (h0:J [] W) :
  CallsIn Fence.wide n Tryz.prog 148 #[.func (.yield l) #[] #[],.pointer (some ⟨Bn,0,none⟩),.pointer (some ⟨Be,0,none⟩),.pointer (some ⟨Bf,0,none⟩)] W fun x W' => (∃ v,x = .returned v) ∧ ((∃ xs,xs = aheadV E.es comb e ∧ J xs W') ∨ (∃ pre,True ∧ Jx pre W')):=by
 have hF:wayF E.tb comb = .func (.func 175) #[] #[]:=by unfold wayF;rw [if_neg hcb.1,if_neg hcb.2]
 have nx:∀ (x:Nat) (X:World),Tr E.b X E.tb E.g E.cap E.qs → Calls Tryz.prog 175 #[.int .i64 x] X fun r X' => r = .returned (.int .i64 (nextV E.es comb x)) ∧ X' = X:=fun x X hT => by
  unfold nextV
  rw [if_neg hcb.1,if_neg hcb.2]
  exact way1_any x X
 refine callsIn_of_wp Tryz.func148 rfl trivial ?_ rfl
 simp only [Tryz.ntmps148,List.size_toArray,List.length_cons,List.length_nil,Nat.reduceAdd,Nat.reduceSub,Array.replicate_succ,Array.replicate_zero,List.push_toArray,List.append_toArray,List.nil_append,List.cons_append]
 rw [hF] at hC
 obtain ⟨c1,c2,c3,hT⟩:=hC _ _ h0
 have n1:=nx e W hT
 have NX:Hid _:=nx
 have HC:Hid _:=hC
 have HY:Hid _:=hY
 have hlen:E.es.length = E.qs.length:=List.length_map ..
 have NLT:Hid (∀ k:Nat,k < E.qs.length → nextV E.es comb k = -1 ∨ ∃ j:Nat,nextV E.es comb k = j ∧ j < k):=fun k hk => nextV_lt hE.ok (by rw [hlen];exact hk) comb
 have HST:Hid (aheadV E.es comb e = restV E.es comb e (nextV E.es comb e)):=chain_succ _ _ _ _
 clear hT hE nx hC hF hlen hY hcb
 gi_wp2_with fail
 refine ⟨trivial,fun h => (by cases h),?_⟩
 refine (callsIn_wide.2 n1).mono ?_
 clear n1
 rintro r W' ⟨rfl,rfl⟩
 gi_wp2
 gi_loopw [5] (fun x wr => ∃ (y:Int) (pre:List Nat) (f:Nat),x = .int .i64 y ∧ aheadV E.es comb e = pre ++ restV E.es comb f y ∧ (y = -1 ∨ ∃ j:Nat,y = j ∧ j < E.qs.length ∧ j < f) ∧ J pre wr ∧ W'.heap.size ≤ wr.heap.size) (fun x _ => (intOf x + 1).toNat)
 case atStart =>
  refine ⟨_,[],e,rfl,HST.out,?_,h0,Nat.le_refl _⟩
  rcases NLT.out e he with h | ⟨j,h,hj⟩
  ·exact .inl h
  ·exact .inr ⟨j,h,by omega,hj⟩
 case round =>
  clear c1 c2 c3
  obtain ⟨y,pre,f,rfl,hx,hy,hJ,hsz⟩:=hrel
  obtain ⟨c1,c2,c3,hT⟩:=HC.out _ _ hJ
  rcases hy with rfl | ⟨j,rfl,hj,hjf⟩
  ·rw [restV_end,List.append_nil] at hx
   have HX:Hid (_ = _):=hx
   clear hx HST hT
   gi_wp2
   refine ⟨fun _ h => (by cases h),?_⟩
   gi_wp2
   go_end0
   exact ⟨⟨_,rfl⟩,.inl ⟨pre,HX.out.symm,hJ⟩⟩
  ·rw [restV_at] at hx
   obtain ⟨fn,tmps,assign,body,hy,hR⟩:=HY.out pre j wr hJ ⟨_,hx.symm⟩ hsz
   have HX:Hid (_ = _):=hx
   have hne:((j:Int) != -1) = true:=by simp [bne]
   clear hx HST hT
   gi_wp2_with fail
   refine ⟨fun h => (by cases h),hR.mono ?_⟩
   rintro r w2 (⟨rfl,hJ2,hsz2⟩ | ⟨rfl,hJ2⟩)
   ·clear c1 c2 c3
    obtain ⟨c1,c2,c3,hT⟩:=HC.out _ _ hJ2
    cases hfar:farV comb with
    | false =>
     rw [hfar] at c3
     have HE:Hid (aheadV E.es comb e = pre ++ [j]):=by
      have:=HX.out
      show _ = _
      rw [show aheadV E.es comb e = _ from HX.out,hfar]
      rfl
     clear HX hT
     gi_wp2
     go_end0
     exact ⟨⟨_,rfl⟩,.inl ⟨_,HE.out.symm,hJ2⟩⟩
    | true =>
     rw [hfar] at c3
     have n1:=NX.out j w2 hT
     obtain ⟨f',rfl⟩:∃ f',f = f' + 1:=⟨f - 1,by omega⟩
     have HE:Hid (aheadV E.es comb e = (pre ++ [j]) ++ restV E.es comb f' (nextV E.es comb j)):=by
      show _ = _
      rw [show aheadV E.es comb e = _ from HX.out,if_pos hfar,chain_succ]
      simp
     have hlt:=NLT.out j hj
     have HL:Hid _:=hlt
     clear HX hT hlt
     gi_wp2_with fail
     refine ⟨trivial,fun h => (by cases h),?_⟩
     refine (callsIn_wide.2 n1).mono ?_
     clear n1
     rintro r W3 ⟨rfl,rfl⟩
     gi_wp2
     go_roundw
     case rel =>
      refine ⟨_,pre ++ [j],f',rfl,HE.out,?_,hJ2,Nat.le_trans hsz hsz2⟩
      rcases HL.out with h | ⟨k,h,hk⟩
      ·exact .inl h
      ·exact .inr ⟨k,h,by omega,by omega⟩
     case measure =>
      rcases HL.out with h | ⟨k,h,hk⟩
      ·simp [intOf,h]
      ·simp [intOf,h];omega
   ·gi_wp2
    go_end0
    exact ⟨⟨_,rfl⟩,.inr ⟨_,trivial,hJ2⟩⟩
end Go.Proofs.YtnemagmakgiheaaGreat.Mt
/- The elements ahead, one by one: what is known of one tells of those that were passed. -/
namespace Go.Proofs.YtnemagmakgiheaaGreat.Mt
open Go.Proofs.YtnemagmakgiheaaGreat.Tre
open Go Dm
section
variable {E:Env} (hE:EnvOk E) {f k e:Nat} {s:Sel} (he:e < E.qs.length)
include hE he
theorem vd_at {a b:List Nat} {y:Nat} (h:aheadV E.es (partAt s k).1 e = a ++ y :: b):y < E.qs.length ∧ vdV E f s k y = (y :: b).any (uptoV (anyV E.es f) E.es s (k - 1)):=by
 have hl:E.es.length = E.qs.length:=List.length_map ..
 obtain ⟨h1,rfl⟩:=ahead_tail hE.ok (by rw [hl];exact he) h
 exact ⟨by rw [← hl];exact h1,rfl⟩
theorem res_at {a b:List Nat} {y:Nat} (h:aheadV E.es (partAt s k).1 e = a ++ y :: b) (ha:∀ z ∈ a,uptoV (anyV E.es f) E.es s (k - 1) z = false) :
  (aheadV E.es (partAt s k).1 e).any (uptoV (anyV E.es f) E.es s (k - 1)) = vdV E f s k y ∧ ∀ z ∈ a,z < E.qs.length ∧ vdV E f s k z = vdV E f s k y:=by
 have hy:=(vd_at hE he (f:=f) h).2
 have none:∀ l:List Nat,(∀ z ∈ l,uptoV (anyV E.es f) E.es s (k - 1) z = false) → l.any (uptoV (anyV E.es f) E.es s (k - 1)) = false:=fun l hl => by
  rw [List.any_eq_false]
  intro z hz
  rw [hl z hz]
  simp
 constructor
 ·rw [h,List.any_append,none a ha,Bool.false_or,hy]
 ·intro z hz
  obtain ⟨c,d,rfl⟩:=List.append_of_mem hz
  have h2:aheadV E.es (partAt s k).1 e = c ++ z :: (d ++ y :: b):=by rw [h];simp
  obtain ⟨h3,h4⟩:=vd_at hE he (f:=f) h2
  refine ⟨h3,?_⟩
  rw [h4,List.any_cons,ha z hz,Bool.false_or,List.any_append,none d (fun x hx => ha x (by simp [hx])),Bool.false_or,hy]
theorem res_none {a:List Nat} (h:a = aheadV E.es (partAt s k).1 e) (ha:∀ z ∈ a,uptoV (anyV E.es f) E.es s (k - 1) z = false) :
  (aheadV E.es (partAt s k).1 e).any (uptoV (anyV E.es f) E.es s (k - 1)) = false ∧ ∀ z ∈ a,z < E.qs.length ∧ vdV E f s k z = false:=by
 have none:∀ l:List Nat,(∀ z ∈ l,uptoV (anyV E.es f) E.es s (k - 1) z = false) → l.any (uptoV (anyV E.es f) E.es s (k - 1)) = false:=fun l hl => by
  rw [List.any_eq_false]
  intro z hz
  rw [hl z hz]
  simp
 constructor
 ·rw [← h];exact none a ha
 ·intro z hz
  obtain ⟨c,d,rfl⟩:=List.append_of_mem hz
  obtain ⟨h3,h4⟩:=vd_at hE he (f:=f) h.symm
  exact ⟨h3,by rw [h4];exact none _ (fun x hx => ha x (List.mem_append_right _ hx))⟩
theorem res_yes {a b:List Nat} {y:Nat} (h:aheadV E.es (partAt s k).1 e = a ++ y :: b) (ha:∀ z ∈ a,uptoV (anyV E.es f) E.es s (k - 1) z = false) (hy:uptoV (anyV E.es f) E.es s (k - 1) y = true) :
  (aheadV E.es (partAt s k).1 e).any (uptoV (anyV E.es f) E.es s (k - 1)) = true ∧ ∀ z ∈ a ++ [y],z < E.qs.length ∧ vdV E f s k z = true:=by
 obtain ⟨h1,h2⟩:=vd_at hE he (f:=f) h
 have h3:vdV E f s k y = true:=by rw [h2,List.any_cons,hy,Bool.true_or]
 obtain ⟨h4,h5⟩:=res_at hE he h ha
 rw [h3] at h4 h5
 refine ⟨h4,fun z hz => ?_⟩
 rcases List.mem_append.1 hz with hz | hz
 ·exact h5 z hz
 ·obtain rfl:z = y:=by simpa using hz
  exact ⟨h1,h3⟩
end
end Go.Proofs.YtnemagmakgiheaaGreat.Mt
