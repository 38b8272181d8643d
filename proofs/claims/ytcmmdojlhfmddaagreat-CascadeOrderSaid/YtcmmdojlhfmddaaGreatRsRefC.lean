/- The document's own 'at' and 'closed'. -/
import Derived.Test.YtcmmdojlhfmddaaGreatRsRefA
import Derived.Test.YtcmmdojlhfmddaaGreatRsParse
import Derived.Deep.CutBlock
set_option maxRecDepth 100000
namespace Go.Proofs.YtcmmdojlhfmddaaGreat
open Go Go.RowKit Go.Shelf
theorem isStop_12:isStop 12 = true:=by decide
theorem isStop_14:isStop 14 = true:=by decide
theorem isStop_no {k:Int} (h1:k ≠ 12) (h2:k ≠ 14):isStop k = false:=by simp [isStop,h1,h2]
theorem is14_yes:is14 14 = true:=by decide
theorem is14_no {k:Int} (h2:k ≠ 14):is14 k = false:=by simp [is14,h2]
theorem is15_eq:is15' = is15:=by
 funext k
 by_cases h:k = 15
 ·subst h
  rfl
 ·simp [is15',is15,h]
theorem upto_at {p:Int → Bool} {ts:List Bt} {k:Nat} (h:k < ts.length):upto p ((kds ts).drop k) = if p ts[k].kind then 0 else run [] ((kds ts).drop k) + upto p ((kds ts).drop (k + run [] ((kds ts).drop k))):=by
 conv => lhs;rw [kds_at h,upto_cons,← kds_at h,List.drop_drop]
set_option maxHeartbeats 2000000 in
theorem refAt_any (v:Value) (ts:List Bt) (i:Nat) (w:World) (hv:BtsAt w.heap.size w v ts) (hi:i < ts.length) (hl:ts.length ≤ 1000000) :
  Calls Tryz.prog 39 #[v,.int .i64 i] w fun e w' => e = .returned (.int .i64 ((i + 1 + upto isStop ((kds ts).drop (i + 1)) + run [] ((kds ts).drop (i + 1 + upto isStop ((kds ts).drop (i + 1)))):Nat):Int)) ∧ Below w.heap.size w w':=by
 obtain ⟨p,cap,rfl⟩:=hv.len
 obtain ⟨J,hJ⟩:∃ J:Nat,i + 1 + upto isStop ((kds ts).drop (i + 1)) = J:=⟨_,rfl⟩
 rw [hJ]
 obtain ⟨Z,hZ⟩:∃ Z:Nat,J + run [] ((kds ts).drop J) = Z:=⟨_,rfl⟩
 rw [hZ]
 go_enter Tryz.func39,Tryz.ntmps39
 go_wp2
 go_loopw [1,5] (fun x _ wr => ∃ k:Nat,x = .int .i64 k ∧ k ≤ ts.length ∧ k + upto isStop ((kds ts).drop k) = J ∧ Below w.heap.size w wr) (fun x _ _ => ts.length - (intOf x).toNat)
 case atStart => exact ⟨i + 1,by go_num,by omega,hJ,Below.refl _ _⟩
 case round =>
  obtain ⟨k,rfl,hk,hR,hb⟩:=hrel
  clear hJ
  by_cases hlt:k < ts.length
  ·have hki:(k:Int) < (ts.length:Int):=by omega
   obtain ⟨bk,off,rfl,hbk,_,_,hc,_⟩:=(hv.below hb).get (List.getElem?_eq_getElem hlt)
   have hsk:=refSkip_in (.slice (some ⟨bk,off,none⟩) ts.length cap) ts k wr ((hv.below hb).mono hb.size) hlt hl
   have hrl:=run_drop_le (kds ts) k
   have hrp:=run_drop_pos (ks:=kds ts) (i:=k) (by rw [kds_length];exact hlt)
   rw [kds_length] at hrl
   rw [upto_at hlt] at hR
   by_cases h12:ts[k].kind = 12
   ·rw [h12,isStop_12,if_pos rfl,Nat.add_zero] at hR
    subst hR
    have e:run [] ((kds ts).drop k) = 1:=by rw [kds_at hlt,h12];exact run_cons_nil _ (by decide)
    rw [h12] at hc
    obtain rfl:k + 1 = Z:=by rw [← hZ,e]
    clear hsk e h12 hZ
    go_wp2
    go_ret
    exact ⟨by first | rfl | (rw [Int.natCast_add];rfl),hb⟩
   ·have h12':(ts[k].kind == 12) = false:=by simpa using h12
    by_cases h14:ts[k].kind = 14
    ·rw [h14,isStop_14,if_pos rfl,Nat.add_zero] at hR
     subst hR
     rw [h14] at hc
     clear h12 h12' h14
     rw [hZ] at hsk
     clear hZ
     go_wp2_with fail
     refine hsk.mono ?_
     rintro e w2 ⟨rfl,b2⟩
     go_wp2
     go_ret
     exact ⟨rfl,hb.trans (b2.mono hb.size)⟩
    ·have h14':(ts[k].kind == 14) = false:=by simpa using h14
     have HR:Hid (k + run [] ((kds ts).drop k) + upto isStop ((kds ts).drop (k + run [] ((kds ts).drop k))) = J):=by
      show _ = _
      rw [isStop_no h12 h14,if_neg (by decide)] at hR
      omega
     clear hR
     generalize ts[k].kind = x at *
     generalize run [] ((kds ts).drop k) = m at *
     go_wp2_with fail
     refine hsk.mono ?_
     rintro e w2 ⟨rfl,b2⟩
     go_wp2
     exact ⟨⟨k + m,rfl,by omega,HR,hb.trans (b2.mono hb.size)⟩,by simp [intOf];omega⟩
  ·have hki:¬ (k:Int) < (ts.length:Int):=by omega
   have e0:(kds ts).drop k = []:=List.drop_eq_nil_iff.2 (by rw [kds_length];omega)
   rw [e0,upto_nil,Nat.add_zero] at hR
   subst hR
   obtain rfl:k = Z:=by rw [← hZ,e0];rfl
   clear e0 hZ
   go_wp2
   go_ret
   exact ⟨rfl,hb⟩
theorem opns_next {ts:List Bt} {i k:Nat} (hi:i ≤ k) (h:k < ts.length):opns [] (((kds ts).drop i).take (k + 1 - i)) = opn (opns [] (((kds ts).drop i).take (k - i))) ts[k].kind:=by
 have hk:k - i < ((kds ts).drop i).length:=by rw [List.length_drop,kds_length];omega
 rw [show k + 1 - i = (k - i) + 1 by omega,List.take_succ_eq_append_getElem hk,opns_append]
 have:((kds ts).drop i)[k - i] = ts[k].kind:=by
  simp only [List.getElem_drop,kds,List.getElem_map]
  congr 2
  omega
 rw [this]
 rfl
theorem opns_len (ks st:List Int):(opns st ks).length ≤ st.length + ks.length:=by
 induction ks generalizing st with
 | nil => simp [opns]
 | cons k r ih =>
  have h1:=ih (opn st k)
  have h2:(opn st k).length ≤ st.length + 1:=by
   unfold opn
   split
   ·simp
   ·split
    ·simp;omega
    ·omega
  show (opns (opn st k) r).length ≤ _
  rw [List.length_cons]
  omega
set_option maxHeartbeats 4000000 in
theorem refClosed_any (v:Value) (ts:List Bt) (i e:Nat) (w:World) (hv:BtsAt w.heap.size w v ts) (hi:i ≤ e) (he:e ≤ ts.length) (hl:ts.length ≤ 1000000) :
  Calls Tryz.prog 41 #[v,.int .i64 i,.int .i64 e] w fun r w' => r = .returned (.bool (decide (opns [] (((kds ts).drop i).take (e - i)) = []))) ∧ Below w.heap.size w w':=by
 obtain ⟨i0,hi0,hz0,hz1,hz2⟩:=info_parts infoInt5
 obtain ⟨p,cap,rfl⟩:=hv.len
 obtain ⟨B,hB⟩:∃ B,decide (opns [] (((kds ts).drop i).take (e - i)) = []) = B:=⟨_,rfl⟩
 rw [hB]
 go_enter Tryz.func41,Tryz.ntmps41
 go_wp2
 go_loopw [1,7] (fun x o wr => ∃ (st:List Int) (k:Nat) (v':Value),v' = o ∧ x = .int .i64 k ∧ Stk w.heap.size wr v' st ∧ i ≤ k ∧ k ≤ e ∧ Hid (opns [] (((kds ts).drop i).take (k - i)) = st) ∧ Below w.heap.size w wr) (fun x _ _ => e - (intOf x).toNat)
 case atStart => exact ⟨[],i,_,rfl,rfl,Stk.none _ _,by omega,by omega,by show _ = _;rw [Nat.sub_self];rfl,Below.refl _ _⟩
 case round =>
  obtain ⟨st,k,v',rfl,rfl,hS,hik,hke,HST,hb⟩:=hrel
  have hlen:st.length ≤ 1000000:=by
   rw [← show _ = st from HST]
   have:=opns_len (((kds ts).drop i).take (k - i)) []
   rw [List.length_take,List.length_drop,kds_length] at this
   simp at this
   omega
  by_cases hlt:k < e
  ·have hki:(k:Int) < (e:Int):=by omega
   have hkl:k < ts.length:=by omega
   have hkt:(k:Int) < (ts.length:Int):=by omega
   obtain ⟨bk,off,rfl,hbk,_,_,hc,_⟩:=(hv.below hb).get (List.getElem?_eq_getElem hkl)
   have hcl:=closing_any ts[k].kind
   have hnx:=opns_next hik hkl
   rw [show opns [] (((kds ts).drop i).take (k - i)) = st from HST] at hnx
   generalize ts[k].kind = x at *
   clear HST hB
   rcases (show 0 < clos x ∨ clos x = 0 by have:=clos_nonneg x;omega) with hx | hx
   ·have HN:Hid (opns [] (((kds ts).drop i).take (k + 1 - i)) = clos x :: st):=by show _ = _;rw [hnx,opn_open hx]
    generalize clos x = y at *
    have hsz:=hb.size
    clear hnx
    obtain ⟨pv,cv,rfl⟩:=hS.form
    go_wp2_with fail
    refine (hcl _).mono ?_
    rintro e w1 ⟨rfl,rfl⟩
    go_wp2_with (at_builtin;refine wpList_append_own _ rfl _ _ 55 rfl w.heap.size 3 i0 (.int .i64 0) 1 8 Tryz.underlying55 hi0 hz0 hz1 hz2 rfl (by decide) _ _ _ rfl (World.ownsRow.alloc hS _) ⟨w1.heap.size,0,none⟩ 1 1 [.int .i64 y] rfl rfl (cells_new _ [.int .i64 y] _) (fun u hu => by simp at hu;subst hu;rfl) (by unfold maxLen;omega) (by omega) (by simp;omega) ?_;intro v2 w2 hown2 hgrow2 hnil2;have S2:=Stk.push hown2;obtain ⟨p2,c2,rfl⟩:=S2.form)
    exact ⟨⟨y :: st,k + 1,_,rfl,by go_num,S2,by omega,by omega,HN,hb.trans (Stk.below (Below.refl _ _) hS hsz hgrow2)⟩,by simp [intOf];omega⟩
   ·rw [hx] at hcl
    cases st with
    | nil =>
     have HN:Hid (opns [] (((kds ts).drop i).take (k + 1 - i)) = []):=by show _ = _;rw [hnx,opn_nil hx]
     obtain ⟨pv,cv,rfl⟩:=hS.form
     clear hnx
     simp only [List.length_nil] at *
     go_wp2_with fail
     refine (hcl _).mono ?_
     rintro e w1 ⟨rfl,rfl⟩
     go_wp2
     go_quiet (fail)
     have gq:w1.grownBy (w1.drewN nq) none:=⟨rfl,rfl,rfl,Nat.le_refl _,fun _ _ _ => rfl⟩
     have bq:Below w.heap.size w (w1.drewN nq):=⟨hb.os,hb.tape,hb.output,hb.size,hb.block⟩
     have hSq:Stk w.heap.size (w1.drewN nq) (.slice pv 0 cv) []:=hS
     go_wp2
     exact ⟨⟨[],k + 1,_,rfl,by go_num,hSq,by omega,by omega,HN,bq⟩,by simp [intOf];omega⟩
    | cons c s =>
     obtain ⟨g,cv,rfl,hg1,hg2,hcell,hS2⟩:=hS.top
     unfold maxLen at hg2
     by_cases hxc:x = c
     ·subst hxc
      have HN:Hid (opns [] (((kds ts).drop i).take (k + 1 - i)) = s):=by show _ = _;rw [hnx,opn_shut hx];simp
      clear hnx
      simp only [List.length_cons] at hlen
      go_wp2_with fail
      refine (hcl _).mono ?_
      rintro e w1 ⟨rfl,rfl⟩
      go_wp2
      go_quiet (fail)
      have bq:Below w.heap.size w (w1.drewN nq):=⟨hb.os,hb.tape,hb.output,hb.size,hb.block⟩
      have hSq:Stk w.heap.size (w1.drewN nq) (.slice (some ⟨g,0,none⟩) s.length cv) s:=hS2
      go_wp2
      exact ⟨⟨s,k + 1,_,rfl,by go_num,hSq,by omega,by omega,HN,bq⟩,by simp [intOf];omega⟩
     ·have HN:Hid (opns [] (((kds ts).drop i).take (k + 1 - i)) = c :: s):=by show _ = _;rw [hnx,opn_shut hx];simp [Ne.symm hxc]
      have hxc':(x == c) = false:=by simpa using hxc
      clear hnx
      simp only [List.length_cons] at hlen
      go_wp2_with fail
      refine (hcl _).mono ?_
      rintro e w1 ⟨rfl,rfl⟩
      go_wp2
      go_quiet (fail)
      have bq:Below w.heap.size w (w1.drewN nq):=⟨hb.os,hb.tape,hb.output,hb.size,hb.block⟩
      have hSq:Stk w.heap.size (w1.drewN nq) (.slice (some ⟨g,0,none⟩) (s.length + 1) cv) (c :: s):=hS
      go_wp2
      exact ⟨⟨c :: s,k + 1,_,rfl,by go_num,hSq,by omega,by omega,HN,bq⟩,by simp [intOf];omega⟩
  ·have hki:¬ (k:Int) < (e:Int):=by omega
   obtain rfl:k = e:=by omega
   rw [show opns [] (((kds ts).drop i).take (k - i)) = st from HST] at hB
   obtain ⟨pv,cv,rfl⟩:=hS.form
   clear HST
   cases st with
   | nil =>
    obtain rfl:B = true:=by rw [← hB];rfl
    clear hB
    simp only [List.length_nil] at *
    go_wp2
    go_ret
    exact ⟨rfl,hb⟩
   | cons c s =>
    obtain rfl:B = false:=by rw [← hB];simp
    clear hB
    simp only [List.length_cons] at *
    have hne:(((s.length + 1:Nat):Int) == 0) = false:=by simp;omega
    go_wp2
    go_ret
    exact ⟨rfl,hb⟩
end Go.Proofs.YtcmmdojlhfmddaaGreat

/- The document's own Rules at every slice of tokens that is not too long: the same rules. -/
set_option maxRecDepth 100000
namespace Go.Proofs.YtcmmdojlhfmddaaGreat
open Go Go.RowKit Go.Shelf
theorem step_append_src {P:Program} {ops:Array Oper} {o:Oper} {a:Act} {w:World} {K:Act → World → Prop} {Q:Exit → Act → World → Prop} {E:Prop}
  (hgd:o.guard = none) (s x:Operand) (t:TypeId) (hop:o.op = Op.call { callee:=Callee.builtin Builtin.append,args:=#[s,x],argTypes:=#[t,t] })
  (e:TypeId) (i:TypeInfo) (z:Value) (size bytes:Nat) (h1:P.underlying t = some (.slice e)) (h2:P.info? e = some i) (h3:i.zero = some z) (h4:i.size = size) (h5:i.bytes = bytes) (h6:z.cells.size = size) (h7:0 < size)
  (hs:a.eval s = .slice none 0 0) (xv:Value) (m:Nat) (news:List Value) (hx:a.eval x = xv) (hn:news.length = m * size)
  (hsrc:(xv = .slice none 0 0 ∧ m = 0) ∨ ∃ ad c,xv = .slice (some ad) m c ∧ ∀ j u,news[j]? = some u → w.cell? (ad.add j) = some u) (h1c:∀ u ∈ news,u.oneCell' = true)
  (b1:m ≤ maxLen) (b2:m * bytes ≤ 140737488355328)
  (hK:∀ v' w',w'.ownsRow w.heap.size e size v' m news → Below w.heap.size w w' → K (a.put o.dst v') w') :
  if Region.wanted o (yielded ops a.tmps) = true then Oper.wp P o a w K Q else E:=by
 have hw:Region.wanted o (yielded ops a.tmps) = true:=by simp [Region.wanted,hgd]
 rw [if_pos hw]
 rcases hsrc with ⟨rfl,rfl⟩ | ⟨ad,c,rfl,hc⟩
 ·have hnews:news = []:=List.eq_nil_of_length_eq_zero (by simpa using hn)
  subst hnews
  have hrun:=run_append_owned_none (P:=P) w w.heap.size t o.type e i size h1 h2 (.slice none 0 0) 0 [] (World.ownsRow_nil _ _ _ _)
  unfold Oper.wp
  simp [execOp,hop,resolve,invoke,builtin,hs,hx,hrun,Result.andThen]
  exact hK _ _ (World.ownsRow_nil _ _ _ _) (Below.refl _ _)
 ·obtain ⟨v',w',hrun,r1,r2,_⟩:=run_append_own_at (P:=P) (w:=w) w.heap.size t o.type e i z size bytes h1 h2 h3 h4 h5 h6 h7 (.slice none 0 0) 0 [] (World.ownsRow_nil _ _ _ _) ad m c news hn hc h1c (by rw [Nat.zero_add];exact b1) (by rw [Nat.zero_add];exact b2) (Nat.le_refl _)
  unfold Oper.wp
  simp [execOp,hop,resolve,invoke,builtin,hs,hx,hrun,Result.andThen]
  refine hK v' w' ?_ ((Below.refl _ w).grown r2 (Nat.le_refl _) (fun r e => by cases e))
  simpa using r1
theorem bts_srcN {n₀:Nat} {X:World} {v:Value} {ts:List Bt} {m:Nat} (e:ts.length = m) (h:BtsAt n₀ X v ts) :
  (v = .slice none 0 0 ∧ m = 0) ∨ ∃ ad c,v = .slice (some ad) m c ∧ ∀ j u,(btsCells ts)[j]? = some u → X.cell? (ad.add j) = some u:=by
 subst e
 exact h.src
theorem upto_kind (p:Int → Bool):∀ (n:Nat) (ks:List Int),ks.length ≤ n → ∀ h:upto p ks < ks.length,p (ks[upto p ks]) = true
 | _,[],_,h => absurd h (Nat.not_lt_zero _)
 | 0,k :: r,hn,_ => by simp at hn
 | n + 1,k :: r,hn,h => by
  cases hk:p k with
  | true =>
   have e:upto p (k :: r) = 0:=by rw [upto_cons,if_pos hk]
   simp only [e,List.getElem_cons_zero]
   exact hk
  | false =>
   have hrp:=run_pos [] k r
   have hrl:=run_le [] (k :: r)
   have e:upto p (k :: r) = run [] (k :: r) + upto p ((k :: r).drop (run [] (k :: r))):=by rw [upto_cons,if_neg (by simp [hk])]
   have hd:((k :: r).drop (run [] (k :: r))).length = (k :: r).length - run [] (k :: r):=List.length_drop
   have ih:=upto_kind p n ((k :: r).drop (run [] (k :: r))) (by rw [hd];simp at hn ⊢;omega) (by rw [hd];omega)
   simp only [List.getElem_drop] at ih
   simp only [e]
   exact ih
theorem block_end {ts:List Bt} {O n:Nat} (hO:O < ts.length) (h14:ts[O].kind = 14) (hn:upto is15' (kds (ts.drop (O + 1))) = n) :
  (run [] ((kds ts).drop O) = n + 2 ∧ O + 1 + n < ts.length ∧ opns [] (((kds ts).drop O).take (n + 2)) = []) ∨ (run [] ((kds ts).drop O) = n + 1 ∧ O + 1 + n = ts.length ∧ opns [] (((kds ts).drop O).take (n + 1)) ≠ []):=by
 rw [is15_eq] at hn
 have hl:(kds (ts.drop (O + 1))).length = ts.length - (O + 1):=by rw [kds_length,List.length_drop]
 have hd:(kds ts).drop O = 14 :: kds (ts.drop (O + 1)):=by rw [kds_at hO,h14,kds_drop]
 have hr:run [] (14 :: kds (ts.drop (O + 1))) = 1 + run [15] (kds (ts.drop (O + 1))):=run_cons_more _ (by decide)
 have ho:∀ q,opns [] ((14 :: kds (ts.drop (O + 1))).take (q + 1)) = opns [15] ((kds (ts.drop (O + 1))).take q):=fun q => rfl
 rcases block_run _ (kds (ts.drop (O + 1))) (Nat.le_refl _) with ⟨h1,h2,h3⟩ | ⟨h1,h2,h3⟩
 ·rw [hn] at h1 h2
  rw [h2] at h3
  exact .inl ⟨by rw [hd,hr,h2];omega,by omega,by rw [hd,ho];exact h3⟩
 ·rw [hn] at h1
  refine .inr ⟨by rw [hd,hr,h2];omega,by omega,?_⟩
  rw [hd,ho,List.take_of_length_le (by omega)]
  exact h3
set_option maxHeartbeats 8000000 in
theorem refRules_any (v:Value) (ts:List Bt) (w:World) (hv:BtsAt w.heap.size w v ts) (hl:ts.length ≤ 100000) :
  Calls Tryz.prog 16 #[v] w fun e w' => ∃ v',e = .returned v' ∧ (∃ vs,RawsAt w.heap.size w' v' (rules ts) vs) ∧ Below w.heap.size w w':=by
 obtain ⟨i0,hi,hz0,hz1,hz2⟩:=info_parts infoRaw
 obtain ⟨j0,ji,jz0,jz1,jz2⟩:=info_parts infoTk5
 obtain ⟨p,cap,rfl⟩:=hv.len
 obtain ⟨A,hA⟩:∃ A,rules ts = A:=⟨_,rfl⟩
 rw [hA]
 go_enter Tryz.func16,Tryz.ntmps16
 go_wp2
 go_loopw [3,4] (fun o x wr => ∃ (k:Nat) (done:List Rw) (v':Value) (vs:List (Value × Value)),v' = o ∧ x = .int .i64 k ∧ k ≤ ts.length ∧ done.length ≤ k ∧ RawsAt w.heap.size wr v' done vs ∧ done ++ rules (ts.drop k) = A ∧ Below w.heap.size w wr) (fun _ x _ => ts.length - (intOf x).toNat)
 case atStart => exact ⟨0,[],_,[],rfl,rfl,by omega,by simp,RawsAt.nil _ _,by simpa using hA,Below.refl _ _⟩
 case round =>
  clear hA
  obtain ⟨k,done,v',vs,rfl,rfl,hk,hdl,hR,hA,hb⟩:=hrel
  by_cases hlt:k < ts.length
  ·have hki:(k:Int) < (ts.length:Int):=by omega
   have hd:ts.drop k = ts[k] :: ts.drop (k + 1):=List.drop_eq_getElem_cons hlt
   obtain ⟨bk,off,rfl,hbk,hcap,hcm,hc,_⟩:=(hv.below hb).get (List.getElem?_eq_getElem hlt)
   have hvb:=(hv.below hb).mono hb.size
   unfold maxLen at hcm
   by_cases h9:ts[k].kind = 9
   ·have HA:Hid (done ++ rules (ts.drop (k + 1)) = A):=by
     show _ = _
     rw [← hA,hd,rules_white h9]
    rw [h9] at hc
    clear hA hd h9 hvb
    go_wp2
    exact ⟨⟨k + 1,done,_,vs,rfl,by go_num,by omega,by omega,hR,HA,hb⟩,by simp [intOf];omega⟩
   ·have h9':(ts[k].kind == 9) = false:=by simpa using h9
    by_cases h2:ts[k].kind = 2
    ·have hat:=refAt_any (.slice (some ⟨bk,off,none⟩) ts.length cap) ts k wr hvb hlt (by omega)
     have hle:=upto_le' isStop (ts.drop (k + 1))
     rw [List.length_drop] at hle
     have hrl:=run_le [] ((kds ts).drop (k + 1 + upto isStop ((kds ts).drop (k + 1))))
     rw [List.length_drop,kds_length] at hrl
     rw [kds_drop] at hle
     have HA:Hid (done ++ rules (ts.drop (k + 1 + upto isStop ((kds ts).drop (k + 1)) + run [] ((kds ts).drop (k + 1 + upto isStop ((kds ts).drop (k + 1)))))) = A):=by
      show _ = _
      rw [← hA,hd,rules_at h2,List.drop_drop,kds_drop,List.drop_drop]
      simp only [Nat.add_assoc]
     generalize upto isStop ((kds ts).drop (k + 1)) = m at *
     generalize run [] ((kds ts).drop (k + 1 + m)) = q at *
     rw [h2] at hc
     clear hA hd h2 h9 h9'
     go_wp2_with fail
     refine hat.mono ?_
     clear hat
     rintro e w2 ⟨rfl,hb2⟩
     go_wp2
     exact ⟨⟨k + 1 + m + q,done,_,vs,rfl,rfl,by omega,by omega,hR.kept (grown_of_below' hb2 none),HA,hb.trans (hb2.mono hb.size)⟩,by simp [intOf];omega⟩
    ·have h2':(ts[k].kind == 2) = false:=by simpa using h2
     have hd0:(ts.drop k).length = ts.length - k:=List.length_drop
     have hm:=upto_le' is14 (ts.drop k)
     have hn2:=upto_le' is15' (ts.drop (k + upto is14 (kds (ts.drop k)) + 1))
     rw [hd0] at hm
     rw [List.length_drop] at hn2
     have hA0:upto is14 (kds (ts.drop k)) = ts.length - k → done = A:=fun e => by
      rw [hd] at hA e hd0
      rw [rules_none h9 h2 (by rw [e,hd0]),List.append_nil] at hA
      exact hA
     have hA1:upto is14 (kds (ts.drop k)) ≠ ts.length - k → (done ++ [((ts.drop k).take (upto is14 (kds (ts.drop k))),(ts.drop (k + upto is14 (kds (ts.drop k)) + 1)).take (upto is15' (kds (ts.drop (k + upto is14 (kds (ts.drop k)) + 1)))))]) ++ rules (ts.drop (k + upto is14 (kds (ts.drop k)) + 1 + upto is15' (kds (ts.drop (k + upto is14 (kds (ts.drop k)) + 1))) + 1)) = A:=fun e => by
      have e1:ts.drop (k + upto is14 (kds (ts.drop k)) + 1) = (ts.drop k).drop (upto is14 (kds (ts.drop k)) + 1):=by rw [List.drop_drop,Nat.add_assoc]
      have e3:∀ a N:Nat,ts.drop (k + a + 1 + N + 1) = (ts.drop k).drop (a + 1 + (N + 1)):=fun a N => by
       rw [List.drop_drop]
       congr 1
       omega
      rw [e1,e3,← hA]
      rw [hd] at e hd0 ⊢
      rw [rules_one h9 h2 (by rw [hd0];exact e)]
      simp
     have h14:upto is14 (kds (ts.drop k)) ≠ ts.length - k → ∃ h:k + upto is14 (kds (ts.drop k)) < ts.length,ts[k + upto is14 (kds (ts.drop k))].kind = 14:=fun e => by
      refine ⟨by omega,?_⟩
      have:=upto_kind is14 _ (kds (ts.drop k)) (Nat.le_refl _) (by rw [kds_length,hd0];omega)
      simp only [kds,List.getElem_map,List.getElem_drop] at this
      simpa [is14,kds] using this
     have hm0:k + upto is14 ((kds ts).drop k) = k + upto is14 (kds (ts.drop k)):=by rw [kds_drop]
     generalize upto is14 (kds (ts.drop k)) = m at *
     generalize hkx:ts[k].kind = kx at *
     clear hA hd hkx
     go_upto_block 2 with fail
     go_cut [4] (fun x wx => x = .int .i64 ((k + m:Nat):Int) ∧ Below wr.heap.size wr wx)
     case first =>
      clear hA0 hA1 h14
      go_wp2_with fail
      go_loopw [4] (fun x wx => ∃ q:Nat,x = .int .i64 q ∧ q ≤ ts.length ∧ q + upto is14 ((kds ts).drop q) = k + m ∧ Below wr.heap.size wr wx) (fun x _ => ts.length - (intOf x).toNat)
      case atStart => exact ⟨k,rfl,hk,hm0,Below.refl _ _⟩
      case round =>
       rename World => X
       obtain ⟨q,rfl,hq,hqm,hbX⟩:=hrel
       clear hm0
       have hbw:=below_next hb hbX
       by_cases hql:q < ts.length
       ·have hqi:(q:Int) < (ts.length:Int):=by omega
        obtain ⟨_,_,ep,_,_,_,hcq,_⟩:=(hv.below hbw).get (List.getElem?_eq_getElem hql)
        cases ep
        rw [upto_at hql] at hqm
        by_cases hx:ts[q].kind = 14
        ·rw [hx,is14_yes,if_pos rfl,Nat.add_zero] at hqm
         subst hqm
         rw [hx] at hcq
         clear hx
         go_wp2
         go_meet
         exact ⟨rfl,hbX⟩
        ·have hx':(ts[q].kind != 14) = true:=by simpa using hx
         rw [is14_no hx,if_neg (by decide)] at hqm
         have HQ:Hid (q + run [] ((kds ts).drop q) + upto is14 ((kds ts).drop (q + run [] ((kds ts).drop q))) = k + m):=by show _ = _;omega
         have hsk:=refSkip_in (.slice (some ⟨bk,off,none⟩) ts.length cap) ts q X ((hv.below hbw).mono hbw.size) hql (by omega)
         have hrl:=run_drop_le (kds ts) q
         have hrp:=run_drop_pos (ks:=kds ts) (i:=q) (by rw [kds_length];exact hql)
         rw [kds_length] at hrl
         clear hqm
         generalize ts[q].kind = y at *
         generalize run [] ((kds ts).drop q) = z at *
         go_wp2_with fail
         refine hsk.mono ?_
         clear hsk
         rintro e X2 ⟨rfl,hb2⟩
         go_wp2
         first
          | exact ⟨⟨q + z,rfl,by omega,HQ,below_next hbX hb2⟩,by simp [intOf];omega⟩
          | (refine ⟨?_,by simp [intOf];omega⟩;(repeat apply Exists.intro);exact ⟨⟨q + z,rfl,by omega,HQ,below_next hbX hb2⟩,rfl⟩)
       ·have hqi:¬ (q:Int) < (ts.length:Int):=by omega
        have e0:(kds ts).drop q = []:=List.drop_eq_nil_iff.2 (by rw [kds_length];omega)
        rw [e0,upto_nil,Nat.add_zero] at hqm
        subst hqm
        clear e0
        go_wp2
        go_meet
        exact ⟨rfl,hbX⟩
     case rest =>
      obtain ⟨rfl,hbX⟩:=hcut
      rename World => X
      have hbw:=below_next hb hbX
      clear hm0 h9 h2 h9' h2' hc
      by_cases ho:k + m = ts.length
      ·obtain rfl:=hA0 (by clear h14 hA0 hA1;omega)
       have hoi:¬ ((k + m:Nat):Int) < (ts.length:Int):=by omega
       have hog:(ts.length:Int) ≤ ((k + m:Nat):Int):=by omega
       have hR2:=hR.kept (grown_of_below' hbX none)
       clear hA0 hA1 h14
       go_wp2
       go_ret
       exact ⟨_,rfl,⟨vs,hR2⟩,hbw⟩
      ·have hne:m ≠ ts.length - k:=by clear h14 hA0 hA1;omega
       have HA:=hA1 hne
       obtain ⟨hOl,hOk⟩:=h14 hne
       have hbe:=block_end hOl hOk rfl
       generalize upto is15' (kds (ts.drop (k + m + 1))) = n at *
       clear hA0 hA1 h14 hOk
       generalize hO:k + m = O at *
       have hoi:(O:Int) < (ts.length:Int):=by omega
       have hog:¬ (ts.length:Int) ≤ (O:Int):=by omega
       have hsk:=refSkip_in (.slice (some ⟨bk,off,none⟩) ts.length cap) ts O X ((hv.below hbw).mono hbw.size) hOl (by omega)
       have hzl:=run_drop_le (kds ts) O
       rw [kds_length] at hzl
       generalize run [] ((kds ts).drop O) = z at *
       generalize hZ:O + z = Z at *
       go_wp2_with fail
       refine hsk.mono ?_
       clear hsk
       rintro e X2 ⟨rfl,hb2⟩
       have hbw2:=below_next hbw hb2
       have hcl:=refClosed_any (.slice (some ⟨bk,off,none⟩) ts.length cap) ts O Z X2 ((hv.below hbw2).mono hbw2.size) (by omega) (by omega) (by omega)
       rw [show Z - O = z by omega] at hcl
       obtain ⟨B,hB⟩:∃ B,decide (opns [] (((kds ts).drop O).take z) = []) = B:=⟨_,rfl⟩
       rw [hB] at hcl
       obtain ⟨E,hE⟩:∃ E:Nat,O + 1 + n = E:=⟨_,rfl⟩
       have hcase:(B = true ∧ Z = E + 1) ∨ (B = false ∧ Z = E ∧ E = ts.length):=by
        rcases hbe with ⟨rfl,h1,h2⟩ | ⟨rfl,h1,h2⟩
        ·exact .inl ⟨by rw [← hB,h2];rfl,by omega⟩
        ·exact .inr ⟨by rw [← hB];exact decide_eq_false h2,by omega,by omega⟩
       clear hbe hB
       have hZl:Z ≤ ts.length:=by omega
       go_wp2_with fail
       refine hcl.mono ?_
       clear hcl
       rintro e X3 ⟨rfl,hb3⟩
       have hbr3:=below_next (below_next hbX hb2) hb3
       have hbw3:=below_next hbw2 hb3
       have h_a:(k:Int) ≤ (O:Int):=by omega
       have h_b:(O:Int) ≤ (cap:Int):=by omega
       have h_c:(O:Int) + 1 ≤ (E:Int):=by omega
       have h_d:(E:Int) ≤ (cap:Int):=by omega
       have h_e:(E:Int) ≤ 9223372036854775806:=by omega
       have h_f:(O:Int) ≤ 200000:=by omega
       obtain ⟨l1,hl1⟩:∃ l1,(ts.drop k).take (O - k) = l1:=⟨_,rfl⟩
       obtain ⟨l2,hl2⟩:∃ l2,(ts.drop (O + 1)).take (E - (O + 1)) = l2:=⟨_,rfl⟩
       have hn1:O - k ≤ 1000000:=by omega
       have hn3:E - (O + 1) ≤ 1000000:=by omega
       have hm1:l1.length = O - k:=by rw [← hl1,List.length_take,List.length_drop];omega
       have hm3:l2.length = E - (O + 1):=by rw [← hl2,List.length_take,List.length_drop];omega
       have HA2:Hid ((done ++ [(l1,l2)]) ++ rules (ts.drop Z) = A):=by
        show _ = _
        rw [← HA,← hl1,← hl2,show O - k = m by omega,show E - (O + 1) = n by omega]
        congr 2
        rcases hcase with ⟨_,rfl⟩ | ⟨_,rfl,h⟩
        ·rw [hE]
        ·rw [List.drop_eq_nil_iff.2 (by omega),List.drop_eq_nil_iff.2 (by omega)]
       clear HA
       have hck:¬ cap = k:=by omega
       have h_z:(0:Int) ≤ (O:Int) + 1:=by omega
       have hwr:IntKind.i64.wrap ((O:Int) + 1) = ((O + 1:Nat):Int):=by rw [IntKind.wrap_i64];omega
       have h_g:((O + 1:Nat):Int) ≤ (E:Int):=by omega
       obtain ⟨pp,hpp⟩:∃ pp:Option Addr,(if cap = O + 1 then some (⟨bk,off,none⟩:Addr) else some ⟨bk,off + (O + 1) * 5,none⟩) = pp:=⟨_,rfl⟩
       have p1:∀ W,Below w.heap.size w W → BtsAt W.heap.size W (.slice (some ⟨bk,off + k * 5,none⟩) (O - k) (cap - k)) l1:=fun W hW => hl1 ▸ ((hv.below hW).mono hW.size).part (by omega) (by omega) (by unfold maxLen;omega) (fun e => by rw [e] at hlt;simp at hlt)
       have p2:∀ W,Below w.heap.size w W → BtsAt W.heap.size W (.slice pp (E - (O + 1)) (cap - (O + 1))) l2:=fun W hW => by
        rw [← hpp,← hl2]
        by_cases hc2:cap = O + 1
        ·rw [if_pos hc2,show E - (O + 1) = 0 by omega,show cap - (O + 1) = 0 by omega]
         exact .inl ⟨by simp,.inr ⟨_,_,rfl,Nat.zero_le _⟩⟩
        ·rw [if_neg hc2]
         exact ((hv.below hW).mono hW.size).part (by omega) (by omega) (by unfold maxLen;omega) (fun e => by rw [e] at hlt;simp at hlt)
       have hRW:∀ W,Below wr.heap.size wr W → RawsAt w.heap.size W v' done vs:=fun W hW => hR.kept (grown_of_below' hW none)
       have c1:Hid ((btsCells l1).length = (O - k) * 5):=by show _ = _;rw [btsCells_length,hm1]
       have c2:Hid ((btsCells l2).length = (E - (O + 1)) * 5):=by show _ = _;rw [btsCells_length,hm3]
       have m1:O - k ≤ maxLen:=by unfold maxLen;omega
       have m2:E - (O + 1) ≤ maxLen:=by unfold maxLen;omega
       have x1:(O - k) * 48 ≤ 140737488355328:=by omega
       have x2:(E - (O + 1)) * 48 ≤ 140737488355328:=by omega
       rcases hcase with ⟨rfl,hZE⟩ | ⟨rfl,hZE,hEl⟩
       ·have hto:IntKind.i64.wrap ((Z:Int) - 1) = (E:Int):=by rw [IntKind.wrap_i64];omega
        go_wp2_with fail
        go_region_law (first
         | (refine step_append_lies (w:=World.alloc _ _) rfl _ _ 64 rfl w.heap.size 67 i0 (.agg #[.slice none 0 0,.slice none 0 0]) 2 48 Tryz.underlying64 hi hz0 hz1 hz2 rfl (by decide) v' _ _ rfl ((hRW _ (by assumption)).row.alloc _) _ 1 1 [_,_] rfl rfl (cells_new _ [_,_] _) (fun u hu => by simp at hu;rcases hu with rfl | rfl <;> rfl) (by decide) (by unfold maxLen;omega) (by omega) (by rw [World.size_alloc];have:=Below.size (by assumption:Below w.heap.size w _);omega) _ rfl ?_;intro g7 c7 w7 hown7 hgrow7 hat7 hlt7)
         | (refine step_append_src rfl _ (.tmp 66) 53 rfl 85 j0 (.agg #[.int .i64 0,.string ⟨#[]⟩,.int .i64 0,.bool false,.int .i64 0]) 5 48 Tryz.underlying53 ji jz0 jz1 jz2 rfl (by decide) rfl (.slice (some ⟨bk,off + k * 5,none⟩) (O - k) (cap - k)) (O - k) (btsCells l1) (by go_simp) c1 (bts_srcN hm1 (p1 _ (by first | assumption | exact below_drew (by assumption)))) (btsCells_one l1) m1 x1 ?_;intro vN wN rN bN;have qN:=below_next (w:=w) (by first | assumption | exact below_drew (by assumption)) bN;have tN:=below_next (w:=wr) (by first | assumption | exact below_drew (by assumption)) bN;obtain ⟨pN,cN,rfl⟩:=Stk_form rN)
         | (refine step_append_src rfl _ (.tmp 72) 53 rfl 85 j0 (.agg #[.int .i64 0,.string ⟨#[]⟩,.int .i64 0,.bool false,.int .i64 0]) 5 48 Tryz.underlying53 ji jz0 jz1 jz2 rfl (by decide) rfl (.slice pp (E - (O + 1)) (cap - (O + 1))) (E - (O + 1)) (btsCells l2) (by go_simp) c2 (bts_srcN hm3 (p2 _ (by first | assumption | exact below_drew (by assumption)))) (btsCells_one l2) m2 x2 ?_;intro vN wN rN bN;have qN:=below_next (w:=w) (by first | assumption | exact below_drew (by assumption)) bN;have tN:=below_next (w:=wr) (by first | assumption | exact below_drew (by assumption)) bN;obtain ⟨pN,cN,rfl⟩:=Stk_form rN))
        rename_i wM bM qM tM pM cM rM
        have hsz3:=hbw3.size
        have hszM:=qM.size
        have r1:=owns_base (rM.kept (grown_of_below' bN none) (by cases Value.ownBlock _ with | none => exact .inl rfl | some j => exact .inr (by simp))) (show w.heap.size ≤ _ from hsz3)
        have r2:=owns_base rN (show w.heap.size ≤ _ from hszM)
        have hR7:=(hRW _ tN).push (p:=(.slice pM (O - k) cM,.slice pN (E - (O + 1)) cN)) (r:=(l1,l2)) (by show World.ownsRow _ _ _ _ _ l1.length _;rw [hm1];exact r1) (by show World.ownsRow _ _ _ _ _ l2.length _;rw [hm3];exact r2) hgrow7 hown7
        have hB7:=(qN.alloc qN.size _).grown hgrow7 (by rw [World.size_alloc];have:=qN.size;omega) (fun j e => ((hRW _ tN).row.lt j e).1)
        clear hat7 hgrow7 hown7 hRW p1 p2 hpp
        go_wp2
        exact ⟨⟨Z,done ++ [(l1,l2)],_,_,rfl,by go_num,by omega,by simp;omega,hR7,HA2,hB7⟩,by simp [intOf];omega⟩
       ·clear hEl
        replace hZE:=hZE.symm
        subst hZE
        go_wp2_with fail
        go_region_law (first
         | (refine step_append_lies (w:=World.alloc _ _) rfl _ _ 64 rfl w.heap.size 67 i0 (.agg #[.slice none 0 0,.slice none 0 0]) 2 48 Tryz.underlying64 hi hz0 hz1 hz2 rfl (by decide) v' _ _ rfl ((hRW _ (by assumption)).row.alloc _) _ 1 1 [_,_] rfl rfl (cells_new _ [_,_] _) (fun u hu => by simp at hu;rcases hu with rfl | rfl <;> rfl) (by decide) (by unfold maxLen;omega) (by omega) (by rw [World.size_alloc];have:=Below.size (by assumption:Below w.heap.size w _);omega) _ rfl ?_;intro g7 c7 w7 hown7 hgrow7 hat7 hlt7)
         | (refine step_append_src rfl _ (.tmp 66) 53 rfl 85 j0 (.agg #[.int .i64 0,.string ⟨#[]⟩,.int .i64 0,.bool false,.int .i64 0]) 5 48 Tryz.underlying53 ji jz0 jz1 jz2 rfl (by decide) rfl (.slice (some ⟨bk,off + k * 5,none⟩) (O - k) (cap - k)) (O - k) (btsCells l1) (by go_simp) c1 (bts_srcN hm1 (p1 _ (by first | assumption | exact below_drew (by assumption)))) (btsCells_one l1) m1 x1 ?_;intro vN wN rN bN;have qN:=below_next (w:=w) (by first | assumption | exact below_drew (by assumption)) bN;have tN:=below_next (w:=wr) (by first | assumption | exact below_drew (by assumption)) bN;obtain ⟨pN,cN,rfl⟩:=Stk_form rN)
         | (refine step_append_src rfl _ (.tmp 72) 53 rfl 85 j0 (.agg #[.int .i64 0,.string ⟨#[]⟩,.int .i64 0,.bool false,.int .i64 0]) 5 48 Tryz.underlying53 ji jz0 jz1 jz2 rfl (by decide) rfl (.slice pp (E - (O + 1)) (cap - (O + 1))) (E - (O + 1)) (btsCells l2) (by go_simp) c2 (bts_srcN hm3 (p2 _ (by first | assumption | exact below_drew (by assumption)))) (btsCells_one l2) m2 x2 ?_;intro vN wN rN bN;have qN:=below_next (w:=w) (by first | assumption | exact below_drew (by assumption)) bN;have tN:=below_next (w:=wr) (by first | assumption | exact below_drew (by assumption)) bN;obtain ⟨pN,cN,rfl⟩:=Stk_form rN))
        rename_i wM bM qM tM pM cM rM
        have hsz3:=hbw3.size
        have hszM:=qM.size
        have r1:=owns_base (rM.kept (grown_of_below' bN none) (by cases Value.ownBlock _ with | none => exact .inl rfl | some j => exact .inr (by simp))) (show w.heap.size ≤ _ from hsz3)
        have r2:=owns_base rN (show w.heap.size ≤ _ from hszM)
        have hR7:=(hRW _ tN).push (p:=(.slice pM (O - k) cM,.slice pN (E - (O + 1)) cN)) (r:=(l1,l2)) (by show World.ownsRow _ _ _ _ _ l1.length _;rw [hm1];exact r1) (by show World.ownsRow _ _ _ _ _ l2.length _;rw [hm3];exact r2) hgrow7 hown7
        have hB7:=(qN.alloc qN.size _).grown hgrow7 (by rw [World.size_alloc];have:=qN.size;omega) (fun j e => ((hRW _ tN).row.lt j e).1)
        clear hat7 hgrow7 hown7 hRW p1 p2 hpp
        go_wp2
        exact ⟨⟨E,done ++ [(l1,l2)],_,_,rfl,by go_num,by omega,by simp;omega,hR7,HA2,hB7⟩,by simp [intOf];omega⟩
  ·have hki:¬ (k:Int) < (ts.length:Int):=by omega
   obtain rfl:done = A:=by
    rw [List.drop_eq_nil_iff.2 (by omega),rules_nil,List.append_nil] at hA
    exact hA
   clear hA
   go_wp2
   go_ret
   exact ⟨_,rfl,⟨vs,hR⟩,hb⟩
end Go.Proofs.YtcmmdojlhfmddaaGreat
