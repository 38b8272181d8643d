/- rules.things as an iterator, rules.upTo at every place of a slice of tokens that is not too long. -/
import Derived.Test.YtagbjmocjaaioaaGreatDoorRsSkip
import Derived.Test.YtagbjmocjaaioaaGreatDoorSeqZ
import Derived.Test.YtagbjmocjaaioaaGreatDoorAlive
import Derived.Test.YtagbjmocjaaioaaGreatDoorAppSrc
import Derived.RangeFuncBox
import Derived.Deep.AppendLies
import Derived.Deep.RegionLaw
set_option maxRecDepth 100000
namespace Go.Proofs.YtagbjmocjaaioaaGreatDoor
open Go Go.RowKit Go.Shelf
attribute [local go_sem] Oper.semAt_some
/-! ### where things begin -/
def startsF (ks:List Int):Nat → Nat → List Nat
 | 0,_ => []
 | f + 1,i => if i < ks.length then i :: startsF ks f (i + run [] (ks.drop i)) else []
def starts (ks:List Int) (i:Nat):List Nat:=startsF ks (ks.length - i) i
theorem run_drop_pos {ks:List Int} {i:Nat} (h:i < ks.length):0 < run [] (ks.drop i):=by
 rw [List.drop_eq_getElem_cons h]
 exact run_pos _ _ _
theorem run_drop_le (ks:List Int) (i:Nat):run [] (ks.drop i) ≤ ks.length - i:=by
 have:=run_le [] (ks.drop i)
 rwa [List.length_drop] at this
theorem startsF_more (ks:List Int):∀ (f g i:Nat),ks.length - i ≤ f → ks.length - i ≤ g → startsF ks f i = startsF ks g i
 | 0,0,_,_,_ => rfl
 | 0,g + 1,i,hf,_ => by rw [startsF,startsF,if_neg (by omega)]
 | f + 1,0,i,_,hg => by rw [startsF,startsF,if_neg (by omega)]
 | f + 1,g + 1,i,hf,hg => by
  rw [startsF,startsF]
  by_cases h:i < ks.length
  ·have:=run_drop_pos h
   rw [if_pos h,if_pos h,startsF_more ks f g _ (by omega) (by omega)]
  ·rw [if_neg h,if_neg h]
theorem starts_in {ks:List Int} {i:Nat} (h:i < ks.length):starts ks i = i :: starts ks (i + run [] (ks.drop i)):=by
 have:=run_drop_pos h
 unfold starts
 rw [show ks.length - i = (ks.length - i - 1) + 1 by omega,startsF,if_pos h,startsF_more ks _ (ks.length - (i + run [] (ks.drop i))) _ (by omega) (Nat.le_refl _)]
theorem starts_out {ks:List Int} {i:Nat} (h:ks.length ≤ i):starts ks i = []:=by
 unfold starts
 rw [show ks.length - i = 0 by omega]
 rfl
def kd (ks:List Int) (x:Nat):Int:=(ks[x]?).getD 0
theorem upto_starts (p:Int → Bool) (ks:List Int):∀ (n i:Nat),ks.length - i ≤ n → i ≤ ks.length → i + upto p (ks.drop i) = ((starts ks i).find? fun x => p (kd ks x)).getD ks.length
 | 0,i,hn,hi => by
  have e:i = ks.length:=by omega
  rw [starts_out (by omega),List.drop_eq_nil_iff.2 (by omega),upto_nil,e]
  rfl
 | n + 1,i,hn,hi => by
  by_cases h:i < ks.length
  ·have hp:=run_drop_pos h
   have hl:=run_drop_le ks i
   have ih:=upto_starts p ks n (i + run [] (ks.drop i)) (by omega) (by omega)
   rw [starts_in h,List.find?_cons]
   have hk:kd ks i = ks[i]:=by simp [kd,h]
   have hd:=List.drop_eq_getElem_cons h
   cases hc:p ks[i] with
   | true =>
    rw [hk,hc,hd,upto_cons,hc]
    simp
   | false =>
    rw [hk,hc]
    show _ = ((starts ks (i + run [] (ks.drop i))).find? fun x => p (kd ks x)).getD ks.length
    rw [← ih,← List.drop_drop]
    conv => lhs;rw [hd,upto_cons,hc,if_neg (by decide),← hd]
    omega
  ·have e:i = ks.length:=by omega
   rw [starts_out (by omega),List.drop_eq_nil_iff.2 (by omega),upto_nil,e]
   rfl
/-! ### the iterator -/
theorem grown_of_below' {w w':World} (h:Below w.heap.size w w') (row:Option Nat):w.grownBy w' row:=⟨h.os,h.tape,h.output,h.size,fun i hi _ => h.block i hi⟩
set_option maxHeartbeats 2000000 in
theorem things1_in (n l Bi Bv n₀:Nat) (v:Value) (ts:List Bt) (i:Nat) (J Jx:List Nat → World → Prop) (W:World) (_hBi:Bi < n₀) (hBv:Bv < n₀) (hn₀:n₀ ≤ W.heap.size)
  (hJ:AbidesIn W.heap.size W.heap.size J)
  (hY:∀ pre x W1,J pre W1 → (∃ rest,pre ++ x :: rest = starts (kds ts) i) → W.heap.size ≤ W1.heap.size → YieldAt Fence.wide (n - 1) Tryz.prog l #[.int .i64 (x:Nat)] W1 fun e W' => (e = .returned (.bool true) ∧ J (pre ++ [x]) W' ∧ Below n₀ W1 W') ∨ (e = .returned (.bool false) ∧ Jx (pre ++ [x]) W'))
  (hci:W.cell? ⟨Bi,0,none⟩ = some (.int .i64 i)) (hcv:W.cell? ⟨Bv,0,none⟩ = some v) (hv:BtsAt n₀ W v ts) (hi:i ≤ ts.length) (hl:ts.length ≤ 1000000) (h0:J [] W) :
  CallsIn Fence.wide n Tryz.prog 182 #[.func (.yield l) #[] #[],.pointer (some ⟨Bi,0,none⟩),.pointer (some ⟨Bv,0,none⟩)] W fun e W' => (∃ v,e = .returned v) ∧ ((∃ xs,xs = starts (kds ts) i ∧ J xs W') ∨ (∃ pre,True ∧ Jx pre W')):=by
 obtain ⟨p,cap,rfl⟩:=hv.len
 refine callsIn_of_wp Tryz.func182 rfl trivial ?_ rfl
 simp only [Tryz.ntmps182,List.size_toArray,List.length_cons,List.length_nil,Nat.reduceAdd,Nat.reduceSub,Array.replicate_succ,Array.replicate_zero,List.push_toArray,List.append_toArray,List.nil_append,List.cons_append]
 gi_wp2
 gi_loopw [4] (fun x wr => ∃ (k:Nat) (pre:List Nat),x = .int .i64 k ∧ k ≤ ts.length ∧ starts (kds ts) i = pre ++ starts (kds ts) k ∧ J pre wr ∧ Below n₀ W wr) (fun x _ => ts.length - (intOf x).toNat)
 case atStart => exact ⟨i,[],rfl,hi,rfl,h0,Below.refl _ _⟩
 case round =>
  clear hci
  obtain ⟨k,pre,rfl,hk,hx,hJs,hb⟩:=hrel
  have hcv':=(hb.cell (p:=⟨Bv,0,none⟩) hBv).trans hcv
  have hkl:=kds_length ts
  by_cases hlt:k < ts.length
  ·have hki:(k:Int) < (ts.length:Int):=by omega
   have hst:=starts_in (ks:=kds ts) (i:=k) (by omega)
   have hrp:=run_drop_pos (ks:=kds ts) (i:=k) (by omega)
   have hrl:=run_drop_le (kds ts) k
   obtain ⟨fn,tmps,assign,body,hy,hR⟩:=hY pre k wr hJs ⟨_,by rw [hx,hst]⟩ hb.size
   have HX:Hid (starts (kds ts) i = (pre ++ [k]) ++ starts (kds ts) (k + run [] ((kds ts).drop k))):=by
    show _ = _
    rw [hx,hst]
    simp
   clear hx hst hY
   gi_wp2_with fail
   refine ⟨fun h => (by cases h),hR.mono ?_⟩
   rintro e w2 (⟨rfl,hJ2,hb2⟩ | ⟨rfl,hJ2⟩)
   ·have hcv2:=(hb2.cell (p:=⟨Bv,0,none⟩) hBv).trans hcv'
    have hB2:=hb.trans hb2
    have hsk:=skip_in (.slice p ts.length cap) ts k w2 ((hv.below hB2).mono (Nat.le_trans hn₀ hB2.size)) hlt hl
    generalize run [] ((kds ts).drop k) = m at *
    gi_wp2_with fail
    refine ⟨trivial,fun h => (by cases h),?_⟩
    refine (callsIn_wide.2 hsk).mono ?_
    clear hsk
    rintro e w3 ⟨rfl,hb3⟩
    have hJ3:J (pre ++ [k]) w3:=hJ _ w2 w3 none hJ2 (grown_of_below' hb3 none) (fun _ e => by cases e)
    gi_wp2
    go_roundw
    case rel => exact ⟨k + m,pre ++ [k],rfl,by omega,HX,hJ3,hB2.trans (hb3.mono (Nat.le_trans hn₀ hB2.size))⟩
    case measure => simp [intOf];omega
   ·gi_wp2
    refine bodyPost_ret (results_none rfl _ _ _) rfl ?_
    exact ⟨⟨_,rfl⟩,.inr ⟨_,trivial,hJ2⟩⟩
  ·have hki:¬ (k:Int) < (ts.length:Int):=by omega
   have e:starts (kds ts) i = pre:=by rw [hx,starts_out (by omega),List.append_nil]
   have HE:Hid (_ = _):=e
   clear hx e
   gi_wp2
   go_end0
   refine ⟨⟨_,rfl⟩,.inl ?_⟩
   first
    | exact ⟨pre,(show _ = _ from HE).symm,hJs⟩
    | (rw [show starts (kds ts) i = pre from HE];exact hJs)
theorem things_in (n:Nat) (v:Value) (i:Int) (w:World) (hv:v.oneCell' = true) :
  CallsIn Fence.wide n Tryz.prog 147 #[v,.int .i64 i] w fun e w' => e = .returned (.func (.func 182) #[] #[.pointer (some ⟨w.heap.size + 1,0,none⟩),.pointer (some ⟨w.heap.size,0,none⟩)]) ∧ w' = (w.alloc (.cells #[v] 70)).alloc (.cells #[.int .i64 i] 3):=by
 refine callsIn_of_wp Tryz.func147 rfl trivial ?_ rfl
 simp only [Tryz.ntmps147,List.size_toArray,List.length_cons,List.length_nil,Nat.reduceAdd,Nat.reduceSub,Array.replicate_succ,Array.replicate_zero,List.push_toArray,List.append_toArray,List.nil_append,List.cons_append]
 gi_wp2
 go_ret
 exact ⟨rfl,rfl⟩
theorem things_seq (n Bi Bv n₀:Nat) (v:Value) (ts:List Bt) (i:Nat) (w:World) (hBi:Bi < n₀) (hBv:Bv < n₀) (hn₀:n₀ ≤ w.heap.size)
  (hci:w.cell? ⟨Bi,0,none⟩ = some (.int .i64 i)) (hcv:w.cell? ⟨Bv,0,none⟩ = some v) (hv:BtsAt n₀ w v ts) (hi:i ≤ ts.length) (hl:ts.length ≤ 1000000) :
  SeqZ Fence.wide n Tryz.prog 182 #[.pointer (some ⟨Bi,0,none⟩),.pointer (some ⟨Bv,0,none⟩)] (fun x:Nat => #[.int .i64 x]) n₀ (fun xs => xs = starts (kds ts) i) (fun _ => True) (fun pre x => ∃ rest,pre ++ x :: rest = starts (kds ts) i) 0 w:=fun l J Jx W hW hJ _ hY h0 =>
 things1_in n l Bi Bv n₀ v ts i J Jx W hBi hBv (Nat.le_trans hn₀ hW.size) hJ
  (fun pre x W1 h1 h2 h3 => (hY pre x W1 h1 h2 h3).mono (fun _ _ h => h.elim (fun h => .inl ⟨h.1,h.2.1,h.2.2.below⟩) (fun h => .inr h)))
  ((hW.cell (p:=⟨Bi,0,none⟩) (by simp;omega)).trans hci) ((hW.cell (p:=⟨Bv,0,none⟩) (by simp;omega)).trans hcv) (hv.below (hW.mono hn₀)) hi hl h0
/-! ### is a kind among those that are looked for? -/
set_option maxHeartbeats 1000000 in
theorem index_any (v:Value) (l:List Int) (x:Int) (w:World) (hv:IntsAt w.heap.size w v l) (hl:l.length ≤ 1000000) :
  Calls Tryz.prog 183 #[v,.int .i64 x] w fun e w' => (∃ r:Int,e = .returned (.int .i64 r) ∧ decide (0 ≤ r) = l.contains x) ∧ w' = w:=by
 obtain ⟨p,cap,rfl⟩:=hv.len
 obtain ⟨B,hB⟩:∃ B,l.contains x = B:=⟨_,rfl⟩
 rw [hB]
 go_enter Tryz.func183,Tryz.ntmps183
 go_wp2
 go_loopw [8] (fun y wr => ∃ k:Nat,y = .int .i64 k ∧ k ≤ l.length ∧ (l.take k).contains x = false ∧ wr = w) (fun y _ => l.length - (intOf y).toNat)
 case atStart => exact ⟨0,rfl,Nat.zero_le _,rfl,rfl⟩
 case round =>
  obtain ⟨k,rfl,hk,hn,rfl⟩:=hrel
  by_cases hlt:k < l.length
  ·have hki:(k:Int) < (l.length:Int):=by omega
   obtain ⟨bk,off,hp,hcell⟩:∃ bk off,p = some ⟨bk,off,none⟩ ∧ ∀ j u,l[j]? = some u → wr.cell? ⟨bk,off + j,none⟩ = some (.int .i64 u):=by
    rcases hv with ⟨rfl,_⟩ | ⟨bk,off,c,e,_,_,_,h⟩
    ·simp at hlt
    ·cases e;exact ⟨bk,off,rfl,h⟩
   subst hp
   have c0:=hcell k _ (List.getElem?_eq_getElem hlt)
   by_cases hx:x = l[k]
   ·have hin:l.contains x = true:=by rw [hx];simp
    obtain rfl:B = true:=hB.symm.trans hin
    clear hcell hv hn hB hin
    generalize l[k] = u at *
    subst hx
    go_wp2
    go_ret
    exact ⟨⟨_,rfl,by simp⟩,rfl⟩
   ·have hx':(x == l[k]) = false:=by simpa using hx
    have HN:Hid ((l.take (k + 1)).contains x = false):=by
     show _ = _
     rw [List.take_succ_eq_append_getElem hlt]
     simp only [List.contains_eq_any_beq,List.any_append,List.any_cons,List.any_nil,Bool.or_false] at hn ⊢
     rw [hn,Bool.false_or]
     exact hx'
    have HB:Hid (l.contains x = B):=hB
    clear hcell hv hn hB
    generalize l[k] = u at *
    go_wp2
    exact ⟨⟨k + 1,by go_num,by omega,HN,by first | rfl | trivial⟩,by simp [intOf];omega⟩
  ·have hki:¬ (k:Int) < (l.length:Int):=by omega
   rw [List.take_of_length_le (by omega)] at hn
   obtain rfl:B = false:=hB.symm.trans hn
   clear hn hv hB
   go_wp2
   go_ret
   exact ⟨⟨-1,rfl,by decide⟩,rfl⟩
theorem contains_any (v:Value) (l:List Int) (x:Int) (w:World) (hv:IntsAt w.heap.size w v l) (hl:l.length ≤ 1000000) :
  Calls Tryz.prog 148 #[v,.int .i64 x] w fun e w' => e = .returned (.bool (l.contains x)) ∧ w' = w:=by
 have h:=index_any v l x w hv hl
 obtain ⟨p,cap,rfl⟩:=hv.len
 generalize l.contains x = B at *
 go_enter Tryz.func148,Tryz.ntmps148
 go_wp2_with fail
 refine h.mono ?_
 rintro e w' ⟨⟨r,rfl,hr⟩,rfl⟩
 subst hr
 go_wp2
 go_ret
 exact ⟨rfl,rfl⟩
end Go.Proofs.YtagbjmocjaaioaaGreatDoor

/- rules.upTo at every place of a slice of tokens that is not too long. -/
set_option maxRecDepth 100000
namespace Go.Proofs.YtagbjmocjaaioaaGreatDoor
open Go Go.RowKit Go.Shelf
attribute [local go_sem] Oper.semAt_some
theorem below_drew {n₀:Nat} {a b:World} (h:Below n₀ a b):Below n₀ a b.drew:=⟨h.os,h.tape,h.output,h.size,h.block⟩
theorem grown_drew1 {a b:World} {row:Option Nat} (h:a.grownBy b row):a.grownBy b.drew row:=⟨h.os,h.tape,h.output,h.size,h.block⟩
theorem results_cell_int {fn:Func} {p:Tmp} (h:fn.results = #[.cell p 3]) (tmps:Array Value) (W:World) (g:Nat) (v:Value) (hp:tmps.getD p undef = .pointer (some ⟨g,0,none⟩)) (hc:W.cell? ⟨g,0,none⟩ = some v):(results fn tmps).run Tryz.prog W = .ok v W:=by
 have hp':tmps[p]?.getD undef = .pointer (some ⟨g,0,none⟩):=by simpa using hp
 have hl:(loadVar 3 ⟨g,0,none⟩).run Tryz.prog W = .ok v W:=by
  simp [loadVar,isAgg,Sem.run_bind,Result.andThen,load,hc,Sem.run]
 simp [results,h,hp',asAddr,hl]
theorem egThg:∀ args w,(callFunc 182 args).run Tryz.prog w = .ok (.enter 182 args) w:=enters_of Tryz.func182 (by kernel_rfl) rfl
theorem find_none {p:Nat → Bool} {l:List Nat} (h:∀ x ∈ l,p x = false):l.find? p = none:=by
 rw [List.find?_eq_none]
 intro x hx e
 rw [h x hx] at e
 cases e
theorem find_here {p:Nat → Bool}:∀ {a:List Nat} {x:Nat} {b:List Nat},(∀ y ∈ a,p y = false) → p x = true → (a ++ x :: b).find? p = some x
 | [],x,b,_,hx => by rw [List.nil_append,List.find?_cons,hx]
 | y :: a,x,b,h,hx => by
  rw [List.cons_append,List.find?_cons,h y (List.mem_cons_self ..)]
  exact find_here (fun z hz => h z (List.mem_cons_of_mem _ hz)) hx
theorem starts_mem {ks:List Int}:∀ (n i:Nat),ks.length - i ≤ n → ∀ x ∈ starts ks i,x < ks.length
 | 0,i,hn => by
  rw [starts_out (by omega)]
  simp
 | n + 1,i,hn => by
  by_cases h:i < ks.length
  ·have hp:=run_drop_pos h
   rw [starts_in h]
   intro x hx
   rcases List.mem_cons.1 hx with rfl | hx
   ·exact h
   ·exact starts_mem n _ (by omega) x hx
  ·rw [starts_out (by omega)]
   simp
set_option maxHeartbeats 4000000 in
theorem upTo_all (n:Nat) (hn:1 ≤ n) (v kv:Value) (ts:List Bt) (l:List Int) (i:Nat) (w:World) (hv:BtsAt w.heap.size w v ts) (hk:IntsAt w.heap.size w kv l) (hi:i ≤ ts.length) (hl:ts.length ≤ 1000000) (hll:l.length ≤ 1000000) :
  CallsIn Fence.wide n Tryz.prog 109 #[v,.int .i64 i,kv] w fun e w' => e = .returned (.int .i64 ((i + upto (fun x => l.contains x) ((kds ts).drop i):Nat):Int)) ∧ Below w.heap.size w w':=by
 have hU:=upto_starts (fun x => l.contains x) (kds ts) (kds ts).length i (by omega) (by rw [kds_length];omega)
 obtain ⟨T,hT⟩:∃ T:Nat,i + upto (fun x => l.contains x) ((kds ts).drop i) = T:=⟨_,rfl⟩
 rw [hT] at hU ⊢
 clear hT
 obtain ⟨p,cap,rfl⟩:=hv.len
 obtain ⟨pk,ck,rfl⟩:=hk.len
 refine callsIn_of_wp_marks Tryz.func109 rfl trivial ?_ rfl
 simp only [Tryz.ntmps109,List.size_toArray,List.length_cons,List.length_nil,Nat.reduceAdd,Nat.reduceSub,Array.replicate_succ,Array.replicate_zero,List.push_toArray,List.append_toArray,List.nil_append,List.cons_append]
 obtain ⟨w3,hw3⟩:∃ w3,((w.alloc (.cells #[.slice p ts.length cap] 70)).alloc (.cells #[.slice pk l.length ck] 58)).alloc (.cells #[.int .i64 0] 3) = w3:=⟨_,rfl⟩
 have hs3:w3.heap.size = w.heap.size + 3:=by rw [← hw3];simp
 have hB3:Below w.heap.size w w3:=by rw [← hw3];exact (((Below.refl _ w).alloc (Nat.le_refl _) _).alloc (by simp) _).alloc (by simp;omega) _
 have bT3:Boxed w3 w.heap.size 70 (.slice p ts.length cap):=by rw [← hw3];exact ((Boxed.new _ _ _).alloc _).alloc _
 have bK3:Boxed w3 (w.heap.size + 1) 58 (.slice pk l.length ck):=by
  rw [← hw3]
  have:=(Boxed.new (w.alloc (.cells #[.slice p ts.length cap] 70)) 58 (.slice pk l.length ck)).alloc (.cells #[.int .i64 0] 3)
  rwa [World.size_alloc] at this
 have bR3:Boxed w3 (w.heap.size + 2) 3 (.int .i64 0):=by
  rw [← hw3]
  have:=Boxed.new ((w.alloc (.cells #[.slice p ts.length cap] 70)).alloc (.cells #[.slice pk l.length ck] 58)) 3 (.int .i64 0)
  rwa [World.size_alloc,World.size_alloc] at this
 have cT3:=bT3.cell
 gi_wp2_with fail
 refine ⟨trivial,?_⟩
 clear hw3 cT3
 have hth:=fun m => things_in m (.slice p ts.length cap) i w3 rfl
 rw [hs3] at hth
 refine (hth _).mono ?_
 clear hth
 rintro e w4 ⟨rfl,hw5⟩
 obtain ⟨w5,rfl⟩:∃ w5,w5 = w4:=⟨_,rfl⟩
 have hs5:w5.heap.size = w.heap.size + 5:=by rw [hw5];simp;omega
 have hB5:Below w3.heap.size w3 w5:=by rw [hw5];exact ((Below.refl _ w3).alloc (Nat.le_refl _) _).alloc (by simp) _
 have bT5:=bT3.kept (grown_of_below' hB5 none) (by simp)
 have bK5:=bK3.kept (grown_of_below' hB5 none) (by simp)
 have bR5:=bR3.kept (grown_of_below' hB5 none) (by simp)
 have bV5:Boxed w5 (w.heap.size + 3) 70 (.slice p ts.length cap):=by
  rw [hw5]
  have:=(Boxed.new w3 70 (.slice p ts.length cap)).alloc (.cells #[.int .i64 i] 3)
  rwa [hs3] at this
 have bI5:Boxed w5 (w.heap.size + 4) 3 (.int .i64 i):=by
  rw [hw5]
  have:=Boxed.new (w3.alloc (.cells #[.slice p ts.length cap] 70)) 3 (.int .i64 i)
  rwa [World.size_alloc,hs3] at this
 have hBB:Below w.heap.size w w5:=hB3.trans (hB5.mono hB3.size)
 clear hw5 hB5 bT3 bK3 bR3 hB3 hs3 w3
 have hseq:=things_seq (n - 1) (w.heap.size + 4) (w.heap.size + 3) (w.heap.size + 5) (.slice p ts.length cap) ts i w5 (by omega) (by omega) (by omega) bI5.cell bV5.cell ((hv.below hBB).mono (by omega)) hi hl
 gi_wp2_with fail
 have hmem:=starts_mem (ks:=kds ts) _ i (Nat.le_refl _)
 rw [kds_length] at hmem hU
 refine wpIn_rangeFunc_Z rfl hn (gf:=182) (lb:=#[.pointer (some ⟨w.heap.size + 4,0,none⟩),.pointer (some ⟨w.heap.size + 3,0,none⟩)]) rfl trivial egThg hseq (by omega) (Below.refl _ _) (fun _ => rfl)
  (fun pre X => (∀ x ∈ pre,l.contains (kd (kds ts) x) = false) ∧ Boxed X w.heap.size 70 (.slice p ts.length cap) ∧ Boxed X (w.heap.size + 1) 58 (.slice pk l.length ck) ∧ Boxed X (w.heap.size + 2) 3 (.int .i64 0) ∧ Below w.heap.size w X)
  (fun _ X => Boxed X (w.heap.size + 2) 3 (.int .i64 T) ∧ Below w.heap.size w X)
  ?hI ?hIx ⟨fun _ h => (by cases h),bT5,bK5,bR5,hBB⟩
  (fun x => { tmps:=#[.slice p ts.length cap,.int .i64 i,.slice pk l.length ck,.pointer (some ⟨w.heap.size,0,none⟩),undef,.pointer (some ⟨w.heap.size + 1,0,none⟩),.pointer (some ⟨w.heap.size + 2,0,none⟩),.int .i64 x,.slice p ts.length cap,.int .i64 i,.func (.func 182) #[] #[.pointer (some ⟨w.heap.size + 4,0,none⟩),.pointer (some ⟨w.heap.size + 3,0,none⟩)],.int .i64 x,undef,undef,undef,undef,undef,undef,undef,undef,undef,undef],defers:=[] }) ?assign ?body ?done ?stop
 case hI =>
  rintro s X Y row ⟨h1,h2,h3,h4,h5⟩ hg hr
  have far:∀ b,b < w.heap.size + 5 → some b ≠ row:=fun b hb e => by have:=hr b e.symm;omega
  exact ⟨h1,h2.kept hg (far _ (by omega)),h3.kept hg (far _ (by omega)),h4.kept hg (far _ (by omega)),h5.grown hg h5.size (fun r e => by have:=hr r e;omega)⟩
 case hIx =>
  rintro s X Y row ⟨h4,h5⟩ hg hr
  have far:∀ b,b < w.heap.size + 5 → some b ≠ row:=fun b hb e => by have:=hr b e.symm;omega
  exact ⟨h4.kept hg (far _ (by omega)),h5.grown hg h5.size (fun r e => by have:=hr r e;omega)⟩
 case assign =>
  intro l x X K hK
  gi_wp2
  exact hK
 case body =>
  rintro l' pre x X ⟨h1,h2,h3,h4,h5⟩ ⟨rest,hok⟩ hsz
  have hxm:x < ts.length:=hmem x (by rw [← hok];simp)
  have hxi:(x:Int) < (ts.length:Int):=by omega
  have c2:=h2.cell
  have c3:=h3.cell
  have c4:=h4.cell
  have f4:=h4.frozen
  obtain ⟨bk,off,rfl,hbk,_,_,hc,_⟩:=(hv.below h5).get (List.getElem?_eq_getElem hxm)
  have hkd:kd (kds ts) x = ts[x].kind:=by simp [kd,kds,hxm]
  have hcon:=fun W (hb:Below w.heap.size w W) => contains_any (.slice pk l.length ck) l ts[x].kind W ((hk.below hb).mono hb.size) hll
  rw [← hkd] at hcon hc
  clear hkd
  have hfo:=follows
  cases hB:l.contains (kd (kds ts) x) with
  | true =>
   have hTx:T = x:=by rw [hU,← hok,find_here (fun y hy => h1 y hy) hB];rfl
   rw [hB] at hcon
   generalize kd (kds ts) x = kx at *
   have FIN:Hid (∀ Z,(X.setCell ⟨w.heap.size + 2,0,none⟩ (.int .i64 x)).grownBy Z none → KeepsIn 0 w5.heap.size (w5.heap.size + 2 + 0) X Z ∧ Boxed Z (w.heap.size + 2) 3 (.int .i64 T) ∧ Below w.heap.size w Z):=fun Z g => by
    have g2:=grownBy_setCell' X (w.heap.size + 2) (.int .i64 x)
    have hs1:=h5.size
    have hs2:=g2.size
    have b1:=(Below.refl 0 X).grown g2 (Nat.zero_le _) (fun r e => Nat.zero_le _)
    refine ⟨⟨b1.grown g (Nat.zero_le _) (fun r e => Nat.zero_le _),fun r r1 r2 => ?_⟩,?_,?_⟩
    ·rw [g.block r (by omega) (by simp)]
     exact g2.block r (by omega) (by simp;omega)
    ·rw [hTx]
     exact (h4.set _).kept g (by simp)
    ·exact (h5.grown g2 h5.size (fun r e => by cases e;omega)).grown g (by omega) (fun r e => by cases e)
   clear hseq hU hTx hok
   gi_wp2_with fail
   gi_region_with_o (refine ⟨trivial,fun h => (by cases h),?_⟩;gi_at_call 148;refine (CallsIn.inRound l' (callsIn_wide.2 (hcon _ (by repeat (first | exact h5 | apply below_drew))))).mono ?_;rintro e w' ⟨rfl,rfl⟩)
   all_goals gi_wp2
   all_goals refine (show _ from FIN) _ ?_
   all_goals repeat (first | exact World.grownBy.refl _ _ | apply grown_drew1)
  | false =>
   rw [hB] at hcon
   have FIN:Hid (∀ Y,X.grownBy Y none → KeepsIn (w.heap.size + 5) w5.heap.size (w5.heap.size + 2 + 0) X Y ∧ (∀ y ∈ pre ++ [x],l.contains (kd (kds ts) y) = false) ∧ Boxed Y w.heap.size 70 (.slice (some ⟨bk,off,none⟩) ts.length cap) ∧ Boxed Y (w.heap.size + 1) 58 (.slice pk l.length ck) ∧ Boxed Y (w.heap.size + 2) 3 (.int .i64 0) ∧ Below w.heap.size w Y):=fun Y g => by
    refine ⟨KeepsIn.of_grownBy g (by omega) (by omega) (fun r e => by cases e),fun y hy => ?_,h2.kept g (by simp),h3.kept g (by simp),h4.kept g (by simp),h5.grown g h5.size (fun r e => by cases e)⟩
    rcases List.mem_append.1 hy with hy | hy
    ·exact h1 y hy
    ·obtain rfl:y = x:=by simpa using hy
     exact hB
   clear hB
   generalize kd (kds ts) x = kx at hc hcon
   clear hseq hU hok
   gi_wp2_with fail
   gi_region_with_o (refine ⟨trivial,fun h => (by cases h),?_⟩;gi_at_call 148;refine (CallsIn.inRound l' (callsIn_wide.2 (hcon _ (by repeat (first | exact h5 | apply below_drew))))).mono ?_;rintro e w' ⟨rfl,rfl⟩)
   all_goals gi_wp2
   all_goals refine (show _ from FIN) _ ?_
   all_goals repeat (first | exact World.grownBy.refl _ _ | apply grown_drew1)
 case done =>
  rintro ys X rfl ⟨h1,h2,h3,h4,h5⟩ hK
  have hTl:T = ts.length:=by rw [hU,find_none (fun y hy => h1 y hy)];rfl
  have c2:=h2.cell
  have c4:=h4.cell
  have f4:=h4.frozen
  have g2:=grownBy_setCell' X (w.heap.size + 2) (.int .i64 (ts.length:Int))
  have hK2:=(g2.block w5.heap.size (Array.getElem?_eq_some_iff.1 hK).1 (by simp;omega)).trans hK
  have b4:=h4.set (.int .i64 (ts.length:Int))
  have hb4:=h5.grown g2 h5.size (fun r e => by cases e;omega)
  clear hseq hU hmem
  gi_wp2
  refine ⟨by simp,.inl ⟨_,_,rfl,run_takeDeferred hK2,?_⟩⟩
  have g3:=grownBy_putObj' (X.setCell ⟨w.heap.size + 2,0,none⟩ (.int .i64 (ts.length:Int))) w5.heap.size (.deferred none)
  have b5:=b4.kept g3 (by simp;omega)
  refine ⟨_,results_cell_int rfl _ _ (w.heap.size + 2) _ rfl b5.cell,by rw [hTl],hb4.grown g3 (by have:=hb4.size;omega) (fun r e => by cases e;omega)⟩
 case stop =>
  rintro pre X _ ⟨h4,h5⟩ hK
  clear hseq hU
  gi_wp2
  refine ⟨by simp,.inl ⟨_,_,rfl,run_takeDeferred hK,?_⟩⟩
  have g3:=grownBy_putObj' X w5.heap.size (.deferred none)
  have b5:=h4.kept g3 (by simp;omega)
  exact ⟨_,results_cell_int rfl _ _ (w.heap.size + 2) _ rfl b5.cell,rfl,h5.grown g3 h5.size (fun r e => by cases e;omega)⟩
end Go.Proofs.YtagbjmocjaaioaaGreatDoor

/- The rules of tokens, in plain words; slices of rules in memory; rules.copied. -/
set_option maxRecDepth 100000
namespace Go.Proofs.YtagbjmocjaaioaaGreatDoor
open Go Go.RowKit Go.Shelf
/-! ### plain -/
def isStop (k:Int):Bool:=[12,14].contains k
def is14 (k:Int):Bool:=[14].contains k
def is15' (k:Int):Bool:=[15].contains k
abbrev Rw:=List Bt × List Bt
def rulesF:Nat → List Bt → List Rw
 | 0,_ => []
 | _ + 1,[] => []
 | f + 1,t :: r =>
  if t.kind = 9 then rulesF f r
  else if t.kind = 2 then rulesF f (r.drop (upto isStop (kds r) + run [] ((kds r).drop (upto isStop (kds r)))))
  else if upto is14 (kds (t :: r)) = (t :: r).length then []
  else ((t :: r).take (upto is14 (kds (t :: r))),((t :: r).drop (upto is14 (kds (t :: r)) + 1)).take (upto is15' (kds ((t :: r).drop (upto is14 (kds (t :: r)) + 1))))) :: rulesF f ((t :: r).drop (upto is14 (kds (t :: r)) + 1 + (upto is15' (kds ((t :: r).drop (upto is14 (kds (t :: r)) + 1))) + 1)))
def rules (ts:List Bt):List Rw:=rulesF ts.length ts
theorem rulesF_more:∀ (f g:Nat) (l:List Bt),l.length ≤ f → l.length ≤ g → rulesF f l = rulesF g l
 | 0,0,_,_,_ => rfl
 | 0,g + 1,l,hf,_ => by
  have:l = []:=List.length_eq_zero_iff.1 (by omega)
  subst this
  rfl
 | f + 1,0,l,_,hg => by
  have:l = []:=List.length_eq_zero_iff.1 (by omega)
  subst this
  rfl
 | f + 1,g + 1,[],_,_ => rfl
 | f + 1,g + 1,t :: r,hf,hg => by
  rw [List.length_cons] at hf hg
  have h1:=rulesF_more f g r (by omega) (by omega)
  have h2:=rulesF_more f g (r.drop (upto isStop (kds r) + run [] ((kds r).drop (upto isStop (kds r))))) (by rw [List.length_drop];omega) (by rw [List.length_drop];omega)
  have h3:=rulesF_more f g ((t :: r).drop (upto is14 (kds (t :: r)) + 1 + (upto is15' (kds ((t :: r).drop (upto is14 (kds (t :: r)) + 1))) + 1))) (by rw [List.length_drop,List.length_cons];omega) (by rw [List.length_drop,List.length_cons];omega)
  simp only [rulesF,h1,h2,h3]
theorem rules_nil:rules [] = []:=rfl
theorem rules_white {t:Bt} {r:List Bt} (h:t.kind = 9):rules (t :: r) = rules r:=by
 unfold rules
 rw [List.length_cons,rulesF,if_pos h]
theorem rules_at {t:Bt} {r:List Bt} (h:t.kind = 2):rules (t :: r) = rules (r.drop (upto isStop (kds r) + run [] ((kds r).drop (upto isStop (kds r))))):=by
 unfold rules
 rw [List.length_cons,rulesF,if_neg (by omega),if_pos h]
 exact rulesF_more _ _ _ (by rw [List.length_drop];omega) (Nat.le_refl _)
theorem rules_none {t:Bt} {r:List Bt} (h9:t.kind ≠ 9) (h2:t.kind ≠ 2) (h:upto is14 (kds (t :: r)) = (t :: r).length):rules (t :: r) = []:=by
 unfold rules
 rw [List.length_cons,rulesF,if_neg h9,if_neg h2,if_pos h]
theorem rules_one {t:Bt} {r:List Bt} (h9:t.kind ≠ 9) (h2:t.kind ≠ 2) (h:upto is14 (kds (t :: r)) ≠ (t :: r).length) :
  rules (t :: r) = ((t :: r).take (upto is14 (kds (t :: r))),((t :: r).drop (upto is14 (kds (t :: r)) + 1)).take (upto is15' (kds ((t :: r).drop (upto is14 (kds (t :: r)) + 1))))) :: rules ((t :: r).drop (upto is14 (kds (t :: r)) + 1 + (upto is15' (kds ((t :: r).drop (upto is14 (kds (t :: r)) + 1))) + 1))):=by
 unfold rules
 rw [List.length_cons,rulesF,if_neg h9,if_neg h2,if_neg h]
 congr 1
 exact rulesF_more _ _ _ (by rw [List.length_drop,List.length_cons];omega) (Nat.le_refl _)
/-! ### in memory -/
theorem infoTk5:(Tryz.prog.info? 108).map (fun i => (i.zero,i.size,i.bytes)) = some (some (.agg #[.int .i64 0,.string ⟨#[]⟩,.int .i64 0,.bool false,.int .i64 0]),5,48):=by kernel_rfl
theorem infoRaw:(Tryz.prog.info? 76).map (fun i => (i.zero,i.size,i.bytes)) = some (some (.agg #[.slice none 0 0,.slice none 0 0]),2,48):=by kernel_rfl
theorem btsCells_cell {ts:List Bt} {j:Nat} {u:Value} (h:(btsCells ts)[j]? = some u):∃ t,ts[j / 5]? = some t ∧ (btCells t)[j % 5]? = some u:=by
 have hlt:j < (btsCells ts).length:=(List.getElem?_eq_some_iff.1 h).1
 rw [btsCells_length] at hlt
 have hq:j / 5 < ts.length:=by omega
 refine ⟨ts[j / 5],List.getElem?_eq_getElem hq,?_⟩
 rw [← btsCells_at ts (j / 5) _ (List.getElem?_eq_getElem hq) (j % 5) (by omega),show j / 5 * 5 + j % 5 = j by omega]
 exact h
theorem BtAt.cells {W:World} {bk o:Nat} {t:Bt} (h:BtAt W bk o t) {i:Nat} {u:Value} (hi:(btCells t)[i]? = some u):W.cell? ⟨bk,o + i,none⟩ = some u:=by
 obtain ⟨h0,h1,h2,h3,h4⟩:=h
 have:i = 0 ∨ i = 1 ∨ i = 2 ∨ i = 3 ∨ i = 4:=by
  have:=(List.getElem?_eq_some_iff.1 hi).1
  simp [btCells] at this
  omega
 rcases this with rfl | rfl | rfl | rfl | rfl <;> (simp [btCells] at hi;subst hi;assumption)
theorem BtsAt.src {n₀:Nat} {X:World} {v:Value} {ts:List Bt} (h:BtsAt n₀ X v ts) :
  (v = .slice none 0 0 ∧ ts.length = 0) ∨ ∃ ad c,v = .slice (some ad) ts.length c ∧ ∀ j u,(btsCells ts)[j]? = some u → X.cell? (ad.add j) = some u:=by
 rcases h with ⟨rfl,rfl | ⟨x,cap,rfl,_⟩⟩ | ⟨bk,off,cap,rfl,_,_,_,hc⟩
 ·exact .inl ⟨rfl,rfl⟩
 ·exact .inr ⟨x,cap,rfl,fun j u hj => by simp [btsCells] at hj⟩
 ·refine .inr ⟨_,cap,rfl,fun j u hj => ?_⟩
  obtain ⟨t,ht,hi⟩:=btsCells_cell hj
  have:=(hc _ t ht).cells hi
  rw [addr_add,show off + j = off + j / 5 * 5 + j % 5 by omega]
  exact this
set_option maxHeartbeats 1000000 in
theorem copied_any (v:Value) (ts:List Bt) (w:World) (hv:BtsAt w.heap.size w v ts) (hl:ts.length ≤ 1000000) :
  Calls Tryz.prog 110 #[v] w fun e w' => ∃ v',e = .returned v' ∧ w'.ownsRow w.heap.size 108 5 v' ts.length (btsCells ts) ∧ Below w.heap.size w w':=by
 obtain ⟨i0,hi,hz0,hz1,hz2⟩:=info_parts infoTk5
 have hsrc:=hv.src
 go_enter Tryz.func110,Tryz.ntmps110
 go_wp2_with (at_builtin;refine wpList_append_src _ rfl _ _ 70 rfl w.heap.size 108 i0 (.agg #[.int .i64 0,.string ⟨#[]⟩,.int .i64 0,.bool false,.int .i64 0]) 5 48 Tryz.underlying70 hi hz0 hz1 hz2 rfl (by decide) _ 0 [] rfl (World.ownsRow_nil _ _ _ _) _ ts.length (btsCells ts) rfl (btsCells_length ts) hsrc (btsCells_one ts) (by unfold maxLen;omega) (by omega) (Nat.le_refl _) ?_;intro v' w' hown' hgrow')
 go_ret
 refine ⟨_,rfl,by simpa using hown',(Below.refl _ w).grown hgrow' (Nat.le_refl _) (fun r e => by cases e)⟩
structure RawsAt (b:Nat) (W:World) (v:Value) (rs:List Rw) (vs:List (Value × Value)):Prop where
 row:W.ownsRow b 76 2 v rs.length (vs.flatMap fun p => [p.1,p.2])
 len:vs.length = rs.length
 each:∀ (j:Nat) (p:Value × Value) (r:Rw),vs[j]? = some p → rs[j]? = some r → W.ownsRow b 108 5 p.1 r.1.length (btsCells r.1) ∧ W.ownsRow b 108 5 p.2 r.2.length (btsCells r.2)
theorem RawsAt.nil (b:Nat) (W:World):RawsAt b W (.slice none 0 0) [] []:=⟨World.ownsRow_nil _ _ _ _,rfl,fun j p r h _ => by simp at h⟩
theorem rows_apart {W:World} {b b':Nat} {e e':TypeId} (hne:e ≠ e') {s s':Nat} {v v':Value} {n n':Nat} {xs xs':List Value} (h:W.ownsRow b e s v n xs) (h':W.ownsRow b' e' s' v' n' xs'):v.ownBlock = none ∨ v.ownBlock ≠ v'.ownBlock:=by
 rcases h.2 with ⟨rfl,_⟩ | ⟨g,cap,cur,rfl,_,hb,_⟩
 ·exact .inl rfl
 ·right
  rcases h'.2 with ⟨rfl,_⟩ | ⟨g',cap',cur',rfl,_,hb',_⟩
  ·simp [Value.ownBlock]
  ·intro e2
   simp [Value.ownBlock] at e2
   subst e2
   rw [hb] at hb'
   injection hb' with hb'
   injection hb' with _ h2
   exact hne h2
theorem RawsAt.kept {b:Nat} {W W':World} {v:Value} {rs:List Rw} {vs:List (Value × Value)} (h:RawsAt b W v rs vs) (g:W.grownBy W' none):RawsAt b W' v rs vs:=by
 have no:∀ x:Value,x.ownBlock = none ∨ x.ownBlock ≠ none:=fun x => by
  cases x.ownBlock with
  | none => exact .inl rfl
  | some j => exact .inr (by simp)
 exact ⟨h.row.kept g (no _),h.len,fun j p r h1 h2 => ⟨(h.each j p r h1 h2).1.kept g (no _),(h.each j p r h1 h2).2.kept g (no _)⟩⟩
theorem RawsAt.push {b:Nat} {W W':World} {v v':Value} {rs:List Rw} {vs:List (Value × Value)} {o:Obj} {p:Value × Value} {r:Rw} (h:RawsAt b W v rs vs)
  (h1:W.ownsRow b 108 5 p.1 r.1.length (btsCells r.1)) (h2:W.ownsRow b 108 5 p.2 r.2.length (btsCells r.2))
  (hg:(W.alloc o).grownBy W' v.ownBlock) (hr:W'.ownsRow b 76 2 v' (rs.length + 1) ((vs.flatMap fun p => [p.1,p.2]) ++ [p.1,p.2])):RawsAt b W' v' (rs ++ [r]) (vs ++ [p]):=by
 have keep:∀ {x:Value} {n:Nat} {xs:List Value},W.ownsRow b 108 5 x n xs → W'.ownsRow b 108 5 x n xs:=fun hx =>
  (hx.alloc o).kept hg (rows_apart (e:=108) (e':=76) (by decide) (hx.alloc o) (h.row.alloc o))
 refine ⟨?_,by simp [h.len],fun j q s hq hs => ?_⟩
 ·rw [List.length_append,List.flatMap_append]
  simpa using hr
 ·by_cases hj:j < vs.length
  ·rw [List.getElem?_append_left hj] at hq
   rw [List.getElem?_append_left (by rw [← h.len];exact hj)] at hs
   exact ⟨keep (h.each j q s hq hs).1,keep (h.each j q s hq hs).2⟩
  ·have hj':j = vs.length:=by
    have:=(List.getElem?_eq_some_iff.1 hq).1
    simp at this
    omega
   subst hj'
   rw [List.getElem?_append_right (Nat.le_refl _)] at hq
   rw [h.len,List.getElem?_append_right (Nat.le_refl _)] at hs
   obtain rfl:p = q:=by simpa using hq
   obtain rfl:r = s:=by simpa using hs
   exact ⟨keep h1,keep h2⟩
end Go.Proofs.YtagbjmocjaaioaaGreatDoor

/- rules.Parse at every slice of tokens that is not too long. -/
set_option maxRecDepth 100000
namespace Go.Proofs.YtagbjmocjaaioaaGreatDoor
open Go Go.RowKit Go.Shelf
theorem ints_new (W:World) (l:List Int) (t:TypeId) (hl:l.length ≤ 1000000):IntsAt (W.heap.size + 1) (W.alloc (.cells (l.map (Value.int .i64)).toArray t)) (.slice (some ⟨W.heap.size,0,none⟩) l.length l.length) l:=by
 refine .inr ⟨W.heap.size,0,l.length,rfl,Nat.le_refl _,by unfold maxLen;omega,by omega,fun j u hj => ?_⟩
 have:=cells_new W (l.map (Value.int .i64)) t j (.int .i64 u) (by rw [List.getElem?_map,hj];rfl)
 rwa [addr_add] at this
theorem BtsAt.some {n₀:Nat} {X:World} {p:Option Addr} {n cap:Nat} {l:List Bt} (h:BtsAt n₀ X (.slice p n cap) l) (hk:0 < l.length):∃ bk off,p = some ⟨bk,off,none⟩ ∧ l.length ≤ cap ∧ cap ≤ maxLen:=by
 obtain ⟨bk,off,h1,_,h2,h3,_⟩:=h.get (List.getElem?_eq_getElem hk)
 exact ⟨bk,off,h1,h2,h3⟩
theorem below_next {w W W':World} (h:Below w.heap.size w W) (hb:Below W.heap.size W W'):Below w.heap.size w W':=h.trans (hb.mono h.size)
theorem Stk_form {X:World} {b:Nat} {e:TypeId} {size:Nat} {v:Value} {m:Nat} {xs:List Value} (h:X.ownsRow b e size v m xs):∃ q c,v = .slice q m c:=by
 rcases h.2 with ⟨rfl,h0⟩ | ⟨g,cap,cur,rfl,_⟩
 ·exact ⟨none,0,by rw [h0]⟩
 ·exact ⟨_,_,rfl⟩
theorem upto_le' (p:Int → Bool) (ts:List Bt):upto p (kds ts) ≤ ts.length:=by
 have:=upto_le p _ (kds ts) (Nat.le_refl _)
 rwa [kds_length] at this
set_option maxHeartbeats 4000000 in
theorem parse_any (v:Value) (ts:List Bt) (w:World) (hv:BtsAt w.heap.size w v ts) (hl:ts.length ≤ 100000) :
  Calls Tryz.prog 65 #[v] w fun e w' => ∃ v',e = .returned v' ∧ (∃ vs,RawsAt w.heap.size w' v' (rules ts) vs) ∧ Below w.heap.size w w':=by
 obtain ⟨i0,hi,hz0,hz1,hz2⟩:=info_parts infoRaw
 obtain ⟨p,cap,rfl⟩:=hv.len
 obtain ⟨A,hA⟩:∃ A,rules ts = A:=⟨_,rfl⟩
 rw [hA]
 go_enter Tryz.func65,Tryz.ntmps65
 go_wp2
 go_loopw [3,4] (fun o x wr => ∃ (k:Nat) (done:List Rw) (v':Value) (vs:List (Value × Value)),v' = o ∧ x = .int .i64 k ∧ k ≤ ts.length + 1 ∧ done.length ≤ k ∧ RawsAt w.heap.size wr v' done vs ∧ done ++ rules (ts.drop k) = A ∧ Below w.heap.size w wr) (fun _ x _ => ts.length + 1 - (intOf x).toNat)
 case atStart => exact ⟨0,[],_,[],rfl,rfl,by omega,by simp,RawsAt.nil _ _,by simpa using hA,Below.refl _ _⟩
 case round =>
  clear hA
  obtain ⟨k,done,v',vs,rfl,rfl,hk,hdl,hR,hA,hb⟩:=hrel
  by_cases hlt:k < ts.length
  ·have hki:(k:Int) < (ts.length:Int):=by omega
   have hd:ts.drop k = ts[k] :: ts.drop (k + 1):=List.drop_eq_getElem_cons hlt
   obtain ⟨bk,off,rfl,hbk,hcap,hcm,hc,_⟩:=(hv.below hb).get (List.getElem?_eq_getElem hlt)
   have hvb:=hv.below hb
   unfold maxLen at hcm
   by_cases h9:ts[k].kind = 9
   ·have HA:Hid (done ++ rules (ts.drop (k + 1)) = A):=by
     show _ = _
     rw [← hA,hd,rules_white h9]
    rw [h9] at hc
    clear hA hd h9 hvb
    go_wp2
    exact ⟨⟨k + 1,done,_,vs,rfl,by go_num,by omega,by omega,hR,HA,hb⟩,by simp [intOf];omega⟩
   ·by_cases h2:ts[k].kind = 2
    ·have hn:=hb.size
     have hI:=ints_new wr [12,14] 3 (by simp)
     have hb1:Below wr.heap.size wr (wr.alloc (.cells (([12,14]:List Int).map (Value.int .i64)).toArray 3)):=(Below.refl _ wr).alloc (Nat.le_refl _) _
     have hs1:(wr.alloc (.cells (([12,14]:List Int).map (Value.int .i64)).toArray 3)).heap.size = wr.heap.size + 1:=World.size_alloc _ _
     have hv1:BtsAt (wr.alloc (.cells (([12,14]:List Int).map (Value.int .i64)).toArray 3)).heap.size _ (.slice (some ⟨bk,off,none⟩) ts.length cap) ts:=(hvb.below (hb1.mono hn)).mono (by omega)
     have hup:=callsIn_wide.1 (upTo_all 1 (Nat.le_refl _) (.slice (some ⟨bk,off,none⟩) ts.length cap) (.slice (some ⟨wr.heap.size,0,none⟩) 2 2) ts [12,14] (k + 1) _ hv1 (by rw [hs1];exact hI) (by omega) (by omega) (by simp))
     have hle:=upto_le' isStop (ts.drop (k + 1))
     rw [List.length_drop] at hle
     have hrl:=run_le [] ((kds ts).drop (k + 1 + upto isStop (kds (ts.drop (k + 1)))))
     rw [List.length_drop,kds_length] at hrl
     have HA:Hid (done ++ rules (ts.drop (k + 1 + upto isStop (kds (ts.drop (k + 1))) + run [] ((kds ts).drop (k + 1 + upto isStop (kds (ts.drop (k + 1))))))) = A):=by
      show _ = _
      rw [← hA,hd,rules_at h2,List.drop_drop,kds_drop,List.drop_drop,← kds_drop]
      simp only [kds_drop,Nat.add_assoc]
     rw [← kds_drop,show upto (fun x => ([12,14]:List Int).contains x) (kds (ts.drop (k + 1))) = upto isStop (kds (ts.drop (k + 1))) from rfl] at hup
     rw [show (((k + 1:Nat):Int)) = (k:Int) + 1 by omega] at hup
     generalize upto isStop (kds (ts.drop (k + 1))) = m at *
     rw [h2] at hc
     clear hA hd h2 h9 hI
     go_wp2_with fail
     refine hup.mono ?_
     clear hup
     rintro e w2 ⟨rfl,hb2⟩
     have hb3:=hb1.trans (hb2.mono hb1.size)
     have hbw:Below w.heap.size w w2:=hb.trans (hb3.mono hn)
     have hv2:BtsAt w2.heap.size w2 (.slice (some ⟨bk,off,none⟩) ts.length cap) ts:=(hv.below hbw).mono hbw.size
     have hR2:=hR.kept (grown_of_below' hb3 none)
     by_cases hj:k + 1 + m < ts.length
     ·have hsk:=skip_in _ ts (k + 1 + m) w2 hv2 hj (by omega)
      generalize run [] ((kds ts).drop (k + 1 + m)) = q at *
      go_wp2_with fail
      refine hsk.mono ?_
      clear hsk
      rintro e w3 ⟨rfl,hb4⟩
      go_wp2
      exact ⟨⟨k + 1 + m + q,done,_,vs,rfl,rfl,by omega,by omega,hR2.kept (grown_of_below' hb4 none),HA,hbw.trans (hb4.mono hbw.size)⟩,by simp [intOf];omega⟩
     ·have hsk:=skip_out 108 (.inl rfl) _ ts ((k + 1 + m:Nat):Int) w2 hv2 (.inr (by omega))
      have hq:run [] ((kds ts).drop (k + 1 + m)) = 0:=by omega
      rw [hq,Nat.add_zero] at HA
      go_wp2_with fail
      refine hsk.mono ?_
      clear hsk
      rintro e w3 ⟨rfl,rfl⟩
      go_wp2
      exact ⟨⟨k + 1 + m,done,_,vs,rfl,rfl,by omega,by omega,hR2,HA,hbw⟩,by simp [intOf];omega⟩
    ·have hn:=hb.size
     have hd0:(ts.drop k).length = ts.length - k:=List.length_drop
     have hm:=upto_le' is14 (ts.drop k)
     have hn2:=upto_le' is15' (ts.drop (k + upto is14 (kds (ts.drop k)) + 1))
     rw [hd0] at hm
     rw [List.length_drop] at hn2
     have hA0:upto is14 (kds (ts.drop k)) = ts.length - k → done = A:=fun e => by
      rw [hd] at hA e hd0
      rw [rules_none h9 h2 (by rw [e,hd0]),List.append_nil] at hA
      exact hA
     have hA1:upto is14 (kds (ts.drop k)) ≠ ts.length - k → (done ++ [((ts.drop k).take (upto is14 (kds (ts.drop k))),(ts.drop (k + upto is14 (kds (ts.drop k)) + 1)).take (upto is15' (kds (ts.drop (k + upto is14 (kds (ts.drop k)) + 1)))))]) ++ rules (ts.drop (k + upto is14 (kds (ts.drop k)) + 1 + upto is15' (kds (ts.drop (k + upto is14 (kds (ts.drop k)) + 1))) + 1)) = A:=fun e => by
      have e1:ts.drop (k + upto is14 (kds (ts.drop k)) + 1) = (ts.drop k).drop (upto is14 (kds (ts.drop k)) + 1):=by rw [List.drop_drop,Nat.add_assoc]
      have e3:∀ a N:Nat,ts.drop (k + a + 1 + N + 1) = (ts.drop k).drop (a + 1 + (N + 1)):=fun a N => by
       rw [List.drop_drop]
       congr 1
       omega
      rw [e1,e3,← hA]
      rw [hd] at e hd0 ⊢
      rw [rules_one h9 h2 (by rw [hd0];exact e)]
      simp
     have hI:=ints_new wr [14] 3 (by simp)
     have hb1:Below wr.heap.size wr (wr.alloc (.cells (([14]:List Int).map (Value.int .i64)).toArray 3)):=(Below.refl _ wr).alloc (Nat.le_refl _) _
     have hs1:(wr.alloc (.cells (([14]:List Int).map (Value.int .i64)).toArray 3)).heap.size = wr.heap.size + 1:=World.size_alloc _ _
     have hv1:BtsAt (wr.alloc (.cells (([14]:List Int).map (Value.int .i64)).toArray 3)).heap.size _ (.slice (some ⟨bk,off,none⟩) ts.length cap) ts:=(hvb.below (hb1.mono hn)).mono (by omega)
     have hup:=callsIn_wide.1 (upTo_all 1 (Nat.le_refl _) (.slice (some ⟨bk,off,none⟩) ts.length cap) (.slice (some ⟨wr.heap.size,0,none⟩) 1 1) ts [14] k _ hv1 (by rw [hs1];exact hI) (by omega) (by omega) (by simp))
     rw [← kds_drop,show upto (fun x => ([14]:List Int).contains x) (kds (ts.drop k)) = upto is14 (kds (ts.drop k)) from rfl] at hup
     generalize upto is14 (kds (ts.drop k)) = m at *
     have h9':(ts[k].kind == 9) = false:=by simpa using h9
     have h2':(ts[k].kind == 2) = false:=by simpa using h2
     generalize ts[k].kind = kx at *
     clear hA hd hI
     go_wp2_with fail
     refine hup.mono ?_
     clear hup
     rintro e w2 ⟨rfl,hb2⟩
     have hb3:=below_next hb1 hb2
     have hbw:Below w.heap.size w w2:=below_next hb hb3
     by_cases ho:k + m = ts.length
     ·obtain rfl:=hA0 (by omega)
      have hoi:((k + m:Nat):Int) = (ts.length:Int):=by omega
      have hR2:=hR.kept (grown_of_below' hb3 none)
      clear hA0 hA1
      go_wp2
      go_ret
      exact ⟨_,rfl,⟨vs,hR2⟩,hbw⟩
     ·have HA:=hA1 (by omega)
      have hoi:¬ ((k + m:Nat):Int) = (ts.length:Int):=by omega
      have hob:(((k + m:Nat):Int) == (ts.length:Int)) = false:=by simpa using hoi
      have hI2:=ints_new w2 [15] 3 (by simp)
      have hb4:Below w2.heap.size w2 (w2.alloc (.cells (([15]:List Int).map (Value.int .i64)).toArray 3)):=(Below.refl _ w2).alloc (Nat.le_refl _) _
      have hs4:(w2.alloc (.cells (([15]:List Int).map (Value.int .i64)).toArray 3)).heap.size = w2.heap.size + 1:=World.size_alloc _ _
      have hb4w:=below_next hbw hb4
      have hv4:BtsAt (w2.alloc (.cells (([15]:List Int).map (Value.int .i64)).toArray 3)).heap.size _ (.slice (some ⟨bk,off,none⟩) ts.length cap) ts:=(hv.below hb4w).mono hb4w.size
      have hup2:=callsIn_wide.1 (upTo_all 1 (Nat.le_refl _) (.slice (some ⟨bk,off,none⟩) ts.length cap) (.slice (some ⟨w2.heap.size,0,none⟩) 1 1) ts [15] (k + m + 1) _ hv4 (by rw [hs4];exact hI2) (by omega) (by omega) (by simp))
      rw [← kds_drop,show upto (fun x => ([15]:List Int).contains x) (kds (ts.drop (k + m + 1))) = upto is15' (kds (ts.drop (k + m + 1))) from rfl] at hup2
      rw [show (((k + m + 1:Nat):Int)) = ((k + m:Nat):Int) + 1 by omega] at hup2
      generalize upto is15' (kds (ts.drop (k + m + 1))) = n at *
      generalize hO:k + m = O at *
      generalize hE:O + 1 + n = E at *
      have h_a:(k:Int) ≤ (O:Int):=by omega
      have h_b:(O:Int) ≤ (cap:Int):=by omega
      have h_c:(O:Int) + 1 ≤ (E:Int):=by omega
      have h_d:(E:Int) ≤ (cap:Int):=by omega
      have h_e:(E:Int) ≤ 9223372036854775806:=by omega
      have h_f:(O:Int) ≤ 200000:=by omega
      clear hA0 hA1 hI2
      go_wp2_with fail
      refine hup2.mono ?_
      clear hup2
      rintro e w5 ⟨rfl,hb5⟩
      have hb5r:=below_next (below_next hb3 hb4) hb5
      have hb5w:=below_next hb4w hb5
      have hR5:=hR.kept (grown_of_below' hb5r none)
      obtain ⟨l1,hl1⟩:∃ l1,(ts.drop k).take (O - k) = l1:=⟨_,rfl⟩
      obtain ⟨l2,hl2⟩:∃ l2,(ts.drop (O + 1)).take (E - (O + 1)) = l2:=⟨_,rfl⟩
      have hn1:l1.length ≤ 1000000:=by rw [← hl1,List.length_take,List.length_drop];omega
      have hn3:l2.length ≤ 1000000:=by rw [← hl2,List.length_take,List.length_drop];omega
      have HA2:Hid ((done ++ [(l1,l2)]) ++ rules (ts.drop (E + 1)) = A):=by
       show _ = _
       rw [← HA,← hl1,← hl2,show O - k = m by omega,show E - (O + 1) = n by omega]
      clear HA
      have p1:∀ W,Below w.heap.size w W → BtsAt W.heap.size W (.slice (some ⟨bk,off + k * 5,none⟩) (O - k) (cap - k)) l1:=fun W hW => hl1 ▸ ((hv.below hW).mono hW.size).part (by omega) (by omega) (by unfold maxLen;omega) (fun e => by rw [e] at hlt;simp at hlt)
      have hck:¬ cap = k:=by omega
      have h_z:(0:Int) ≤ (O:Int) + 1:=by omega
      have hwr:IntKind.i64.wrap ((O:Int) + 1) = ((O + 1:Nat):Int):=by rw [IntKind.wrap_i64];omega
      have h_g:((O + 1:Nat):Int) ≤ (E:Int):=by omega
      have hRW:∀ W,Below wr.heap.size wr W → RawsAt w.heap.size W v' done vs:=fun W hW => hR.kept (grown_of_below' hW none)
      obtain ⟨pp,hpp⟩:∃ pp:Option Addr,(if cap = O + 1 then some (⟨bk,off,none⟩:Addr) else some ⟨bk,off + (O + 1) * 5,none⟩) = pp:=⟨_,rfl⟩
      have p2:∀ W,Below w.heap.size w W → BtsAt W.heap.size W (.slice pp (E - (O + 1)) (cap - (O + 1))) l2:=fun W hW => by
       rw [← hpp,← hl2]
       by_cases hc2:cap = O + 1
       ·rw [if_pos hc2,show E - (O + 1) = 0 by omega,show cap - (O + 1) = 0 by omega]
        exact .inl ⟨by simp,.inr ⟨_,_,rfl,Nat.zero_le _⟩⟩
       ·rw [if_neg hc2]
        exact ((hv.below hW).mono hW.size).part (by omega) (by omega) (by unfold maxLen;omega) (fun e => by rw [e] at hlt;simp at hlt)
      go_wp2_with fail
      go_region_law (first
       | (refine step_append_lies (w:=World.alloc _ _) rfl _ _ 68 rfl w.heap.size 76 i0 (.agg #[.slice none 0 0,.slice none 0 0]) 2 48 Tryz.underlying68 hi hz0 hz1 hz2 rfl (by decide) v' _ _ rfl ((hRW _ (by assumption)).row.alloc _) _ 1 1 [_,_] rfl rfl (cells_new _ [_,_] _) (fun u hu => by simp at hu;rcases hu with rfl | rfl <;> rfl) (by decide) (by unfold maxLen;omega) (by omega) (by rw [World.size_alloc];have:=Below.size (by assumption:Below w.heap.size w _);omega) _ rfl ?_;intro g7 c7 w7 hown7 hgrow7 hat7 hlt7)
       | (go_simp;go_at_call 110;refine (copied_any _ _ _ (by first | exact p1 _ (by first | assumption | exact below_drew (by assumption)) | exact p2 _ (by first | assumption | exact below_drew (by assumption))) (by assumption)).mono ?_;rintro e wN ⟨vN,rfl,rN,bN⟩;have qN:=below_next (w:=w) (by first | assumption | exact below_drew (by assumption)) bN;have tN:=below_next (w:=wr) (by first | assumption | exact below_drew (by assumption)) bN;obtain ⟨pN,cN,rfl⟩:=Stk_form rN))
      rename_i wM bM qM tM pM cM rM
      have hsz:=hbw.size
      have hsz5:=hb5w.size
      have hszM:=qM.size
      have r1:=owns_base (rM.kept (grown_of_below' bN none) (by cases Value.ownBlock _ with | none => exact .inl rfl | some j => exact .inr (by simp))) (show w.heap.size ≤ _ from hsz5)
      have r2:=owns_base rN (show w.heap.size ≤ _ from hszM)
      have hR7:=(hRW _ tN).push (p:=(_,_)) (r:=(l1,l2)) r1 r2 hgrow7 hown7
      have hB7:=(qN.alloc qN.size _).grown hgrow7 (by rw [World.size_alloc];have:=qN.size;omega) (fun j e => ((hRW _ tN).row.lt j e).1)
      clear hat7 hgrow7 hown7 hRW p1 p2 hpp
      go_wp2
      exact ⟨⟨E + 1,done ++ [(l1,l2)],_,_,rfl,by go_num,by omega,by simp;omega,hR7,HA2,hB7⟩,by simp [intOf];omega⟩
  ·have hki:¬ (k:Int) < (ts.length:Int):=by omega
   obtain rfl:done = A:=by
    rw [List.drop_eq_nil_iff.2 (by omega),rules_nil,List.append_nil] at hA
    exact hA
   clear hA
   go_wp2
   go_ret
   exact ⟨_,rfl,⟨vs,hR⟩,hb⟩
end Go.Proofs.YtagbjmocjaaioaaGreatDoor
