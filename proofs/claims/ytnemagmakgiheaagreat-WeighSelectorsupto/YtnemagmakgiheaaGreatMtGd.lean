/- package match: list: what is asked at a spot, found again or made anew. -/
import Derived.Test.YtnemagmakgiheaaGreatMtGc
set_option maxRecDepth 100000
namespace Go.Proofs.YtnemagmakgiheaaGreat.Mt
open Go.Proofs.YtnemagmakgiheaaGreat.Tre
open Go Go.RowKit Dm
theorem map_look {E:Env} {γ:Ghost} {W:World} (hI:Inv E γ W) {A M:Nat} {s:Sel} {pv:Value} {f:Nat} (hA:γ A = some (.asked s pv f)) (hM:γ M = some (.mapr A)) {k j:Nat} {p:Pt} {q:Ps} (hp:s[k]? = some p) (hq:p.2.pss[j]? = some q) (hk:k < 50) (hj:j < 1099511627776) :
  (∀ n,(Instr.lookup 89 (.map (some M)) (.agg #[.int .i64 k,.int .i64 j]) true).run Tryz.prog (W.drewN n) = .ok (.tuple #[.slice none 0 0,.bool false]) (W.drewN n)) ∨
  (∃ B,γ B = some (.ptrs A k j) ∧ ∀ n,(Instr.lookup 89 (.map (some M)) (.agg #[.int .i64 k,.int .i64 j]) true).run Tryz.prog (W.drewN n) = .ok (.tuple #[wide B q.list.length,.bool true]) (W.drewN n)):=by
 obtain ⟨_,o,ho,s',pv',f',hA',ks,D,hO,hnd,h1,h2⟩:=hI.each M _ hM
 rw [hA] at hA'
 cases hA'
 have run:∀ n,∃ v ps,(Instr.lookup 89 (.map (some M)) (.agg #[.int .i64 k,.int .i64 j]) true).run Tryz.prog (W.drewN n) = .ok (.tuple #[v,.bool (Maps.has D (keyL k j))]) (W.drewN n) ∧ held v = some (D.atKey (keyL k j) (.held (.slice none 0 0)),ps):=fun n =>
  World.ownsMap.look_ok (MapObj.owns hO (W:=W.drewN n) ho) spotKeyed Tryz.underlying89 (zeroPs _) (zd:=.held (.slice none 0 0)) (zp:=[]) rfl (keyL_of (by omega) hj)
 have hk2:∀ {v ps d},held v = some (d,ps) → d = .held v:=fun h => by
  unfold held at h
  simp at h
  exact h.1.symm
 cases hh:Maps.has D (keyL k j) with
 | false =>
  left
  intro n
  obtain ⟨v,ps,hr,hv⟩:=run n
  rw [hh] at hr
  have e:=hk2 hv
  rw [Maps.atKey_of_not_has hh] at e
  injection e with e
  rw [← e] at hr
  exact hr
 | true =>
  right
  obtain ⟨_,_,p',q',hp',hq',B,hB,hγ⟩:=h2 k j (h1 k j (by omega) hj hh)
  rw [hp] at hp'
  cases hp'
  rw [hq] at hq'
  cases hq'
  refine ⟨B,hγ,fun n => ?_⟩
  obtain ⟨v,ps,hr,hv⟩:=run n
  rw [hh] at hr
  have e:=hk2 hv
  rw [hB] at e
  injection e with e
  rw [← e] at hr
  exact hr
theorem map_put {E:Env} {γ:Ghost} {W:World} (hI:Inv E γ W) {A M B:Nat} {s:Sel} {pv:Value} {f:Nat} (hA:γ A = some (.asked s pv f)) (hM:γ M = some (.mapr A)) {k j:Nat} {p:Pt} {q:Ps} (hp:s[k]? = some p) (hq:p.2.pss[j]? = some q) (hk:k < 50) (hj:j < 1099511627776)
  (hB:γ B = some (.ptrs A k j)) {W0:World} (hsame:W.heap[M]? = W0.heap[M]?) (hno:(Instr.lookup 89 (.map (some M)) (.agg #[.int .i64 k,.int .i64 j]) true).run Tryz.prog W0 = .ok (.tuple #[.slice none 0 0,.bool false]) W0) :
  ∃ W',(Instr.mapUpdate 89 (.map (some M)) (.agg #[.int .i64 k,.int .i64 j]) (wide B q.list.length)).run Tryz.prog W = .ok () W' ∧ Step E γ W γ W':=by
 obtain ⟨_,o,ho,s',pv',f',hA',ks,D,hO,hnd,h1,h2⟩:=hI.each M _ hM
 rw [hA] at hA'
 cases hA'
 have own:=MapObj.owns hO (W:=W) ho
 have hfew:=spots_few hnd (fun k j h => ⟨(h2 k j h).1,(h2 k j h).2.1⟩)
 have kk:=keyL_of (k:=k) (j:=j) (by omega) hj
 have hh:Maps.has D (keyL k j) = false:=by
  obtain ⟨v,ps,hr,_⟩:=World.ownsMap.look_ok (MapObj.owns hO (W:=W0) (hsame.symm.trans ho)) spotKeyed Tryz.underlying89 (zeroPs _) (zd:=.held (.slice none 0 0)) (zp:=[]) rfl kk
  rw [hno] at hr
  injection hr with hr
  simp at hr
  exact hr.2
 obtain ⟨W',hrun,hown,hg⟩:=own.update spotKeyed Tryz.underlying89 (by unfold maxLen;omega) kk (d:=.held (wide B q.list.length)) (ps:=[]) rfl
 obtain ⟨o',ho',hO'⟩:=owns_obj hown
 have lit:=keyL_lit (k:=k) (j:=j) (by omega) hj
 refine ⟨W',hrun,hI.put hM hg ho' ⟨s,pv,f,hA,(k,j) :: ks,_,hO',?_,fun k' j' hk' hj' h => ?_,fun k' j' h => ?_⟩⟩
 ·rw [List.nodup_cons]
  refine ⟨fun hm => ?_,hnd⟩
  obtain ⟨_,_,_,_,_,_,B',hB',_⟩:=h2 k j hm
  rw [Maps.atKey_of_not_has hh] at hB'
  injection hB' with e
  simp [wide] at e
 ·by_cases e:keyL k' j' = keyL k j
  ·obtain ⟨rfl,rfl⟩:=keyL_inj hk' hj' (by omega) hj e
   exact List.mem_cons_self ..
  ·rw [Maps.has_put_other e] at h
   exact List.mem_cons_of_mem _ (h1 k' j' hk' hj' h)
 ·rcases List.mem_cons.1 h with e | h
  ·cases e
   exact ⟨hk,hj,p,q,hp,hq,B,Maps.atKey_put_same own.isMap lit _ _,hB⟩
  ·obtain ⟨a1,a2,p',q',b1,b2,B',b3,b4⟩:=h2 k' j' h
   refine ⟨a1,a2,p',q',b1,b2,B',?_,b4⟩
   rw [Maps.atKey_put_other (fun e => ?_)]
   ·exact b3
   ·obtain ⟨rfl,rfl⟩:=keyL_inj (by omega) a2 (by omega) hj e
    rw [Maps.atKey_of_not_has hh] at b3
    injection b3 with e
    simp [wide] at e
theorem eqlNilMap (w:World) (r:Option Nat):(binOp .eql 89 (.map r) (.map none)).run Tryz.prog w = .ok (.bool r.isNone) w:=by
 simp only [binOp]
 have h:∀ d,(Op.equalIn (d + 1) 89 (.map r) (.map none)).run Tryz.prog w = .ok r.isNone w:=fun d => by
  cases r <;> simp [Op.equalIn,run_underlying Tryz.underlying89]
 simp [show Op.equal 89 (.map r) (.map none) = Op.equalIn (9999 + 1) 89 (.map r) (.map none) from rfl,h 9999]
theorem step_map {E:Env} {γ:Ghost} {W:World} (hI:Inv E γ W) {A:Nat} {s:Sel} {pv fv:Value} {f:Nat} (hA:γ A = some (.asked s pv f)) (kA:Blk W A 91 [ptrV E.tb,pv,fv,.map none]) :
  Step E γ W (addG γ W.heap.size (.mapr A)) ((W.alloc (.map #[] 0)).setCell ⟨A,3,none⟩ (.map (some W.heap.size))) ∧
   Blk ((W.alloc (.map #[] 0)).setCell ⟨A,3,none⟩ (.map (some W.heap.size))) A 91 [ptrV E.tb,pv,fv,.map (some W.heap.size)]:=by
 obtain ⟨hP,hf,fv',lv',hcs,hfv,_⟩:=(hI.each A _ hA).2.choose_spec.2
 have ho:=(hI.each A _ hA).2.choose_spec.1
 rw [hcs,show W.heap[A]? = _ from kA] at ho
 simp at ho
 obtain ⟨rfl,_⟩:=ho
 have h1:Step E γ W (addG γ W.heap.size (.mapr A)) (W.alloc (.map #[] 0)):=by
  obtain ⟨o,ho,hO⟩:=owns_obj (World.ownsMap_made W Tryz.prog 179 held)
  refine hI.add (Nat.le_refl _) ((Below.refl _ W).alloc (Nat.le_refl _) _) ho ⟨s,pv,f,addG_mono hI (Nat.le_refl _) _ _ _ hA,[],_,hO,List.nodup_nil,fun k j _ _ h => ?_,fun k j h => by cases h⟩
  simp [Maps.has] at h
 have hA1:addG γ W.heap.size (.mapr A) A = some (.asked s pv f):=addG_mono hI (Nat.le_refl _) _ _ _ hA
 have k1:=blk_put (blk_alloc kA (.map #[] 0)) 3 (.map (some W.heap.size))
 refine ⟨h1.trans (h1.inv.put hA1 (grown_set _ _ _ _) k1 ⟨hP,hf,_,_,rfl,?_,.inr ⟨_,rfl,addG_same _ _ _⟩⟩),k1⟩
 rcases hfv with h | ⟨F,h,hF⟩
 ·exact .inl h
 ·exact .inr ⟨F,h,addG_mono hI (Nat.le_refl _) _ _ _ hF⟩
end Go.Proofs.YtnemagmakgiheaaGreat.Mt
/- package match: list at every spot. -/
namespace Go.Proofs.YtnemagmakgiheaaGreat.Mt
open Go.Proofs.YtnemagmakgiheaaGreat.Tre
open Go Go.RowKit Dm
structure Lst (E:Env) (A k j f' Bp Bs:Nat) (q:Ps) (pv fv lv:Value) (γ:Ghost) (W:World) (i:Nat) (bs:List Nat) (γi:Ghost) (X:World):Prop where
 len:bs.length = i
 st:Step E γ W γi X
 row:Blk X Bp 129 (bs.map ptrV ++ reps (q.list.length - i) (.pointer .none))
 rowN:γi Bp = .none
 spN:γi Bs = .none
 sp:Blk X Bs 179 [.int .i64 k,.int .i64 j]
 ask:Blk X A 91 [ptrV E.tb,pv,fv,lv]
 each:∀ (i' b:Nat) (x:Sel),bs[i']? = some b → q.list[i']? = some x → ∃ pv',γi b = some (.asked x pv' f')
 mp:∀ M,lv = .map (some M) → X.heap[M]? = W.heap[M]?
theorem reps_succ {α:Type} (n:Nat) (z:α):reps (n + 1) z = z :: reps n z:=rfl
theorem reps_set {α:Type} (l:List α) (m:Nat) (z u:α):(l ++ reps (m + 1) z).set l.length u = (l ++ [u]) ++ reps m z:=by
 rw [reps_succ,List.set_append_right _ _ (Nat.le_refl _),Nat.sub_self,List.set_cons_zero]
 simp
theorem Lst.push {E:Env} {A k j f' Bp Bs:Nat} {q:Ps} {pv fv lv:Value} {γ:Ghost} {W:World} {i:Nat} {bs:List Nat} {γi:Ghost} {X Y:World} (h:Lst E A k j f' Bp Bs q pv fv lv γ W i bs γi X) (hlt:i < q.list.length)
  (hb:Below X.heap.size X Y) {x:Sel} (hx:q.list[i]? = some x) {xv:Value} (hP:∃ d,PartsAt d E.n₀ E.w₀ xv x) (hfit:fitsV f' x = true) (hBp:W.heap.size ≤ Bp) (hBs:Bs ≠ Bp) (hA:A ≠ Bp) (hM:∀ M,lv = .map (some M) → M < W.heap.size) (hn:E.n₀ ≤ W.heap.size) :
  Lst E A k j f' Bp Bs q pv fv lv γ W (i + 1) (bs ++ [Y.heap.size]) (addG γi Y.heap.size (.asked x xv f')) ((Y.alloc (.cells #[ptrV E.tb,xv,.slice .none 0 0,.map .none] 91)).setCell ⟨Bp,i,.none⟩ (ptrV Y.heap.size)):=by
 have hY:=h.st.inv.step hb
 have hN:γi Y.heap.size = .none:=hY.inv.new (Nat.le_refl _)
 have mono:=addG_mono hY.inv (Nat.le_refl Y.heap.size) (.asked x xv f')
 have h1:Step E γi Y (addG γi Y.heap.size (.asked x xv f')) (Y.alloc (.cells #[ptrV E.tb,xv,.slice .none 0 0,.map .none] 91)):=
  hY.inv.add (Nat.le_refl _) ((Below.refl _ Y).alloc (Nat.le_refl _) _) (heap_alloc_new Y _) ⟨hP,hfit,_,_,rfl,.inl rfl,.inl rfl⟩
 have hBpY:Bp < Y.heap.size:=Nat.lt_of_lt_of_le h.row.lt hb.size
 have rN:addG γi Y.heap.size (.asked x xv f') Bp = .none:=(addG_other _ (by omega)).trans h.rowN
 have g:=grown_set (Y.alloc (.cells #[ptrV E.tb,xv,.slice .none 0 0,.map .none] 91)) Bp i (ptrV Y.heap.size)
 have up:∀ {B:Nat} {t:TypeId} {cs:List Value},Blk X B t cs → Blk (Y.alloc (.cells #[ptrV E.tb,xv,.slice .none 0 0,.map .none] 91)) B t cs:=fun hk => blk_alloc (hk.next hb) _
 have rw1:=blk_put (up h.row) i (ptrV Y.heap.size)
 have e1:(bs.map ptrV ++ reps (q.list.length - i) (Value.pointer .none)).set i (ptrV Y.heap.size) = (bs ++ [Y.heap.size]).map ptrV ++ reps (q.list.length - (i + 1)) (.pointer .none):=by
  have h2:q.list.length - i = (q.list.length - (i + 1)) + 1:=by omega
  have h3:(bs.map ptrV).length = i:=by rw [List.length_map,h.len]
  rw [h2,← h3,reps_set,h3,List.map_append]
  rfl
 rw [e1] at rw1
 have hXW:=h.st.size
 refine ⟨by simp [h.len],((h.st.trans hY).trans h1).aside g (fun b e => by cases e;exact ⟨hBp,rN⟩) hn,rw1,rN,(addG_other _ (by have:=h.sp.lt;have:=hb.size;omega)).trans h.spN,(up h.sp).kept g (fun e => hBs (by cases e;rfl)),(up h.ask).kept g (fun e => hA (by cases e;rfl)),fun i' b y hb' hy => ?_,fun M hm => ?_⟩
 ·by_cases hi:i' < bs.length
  ·rw [List.getElem?_append_left hi] at hb'
   obtain ⟨pv',e⟩:=h.each i' b y hb' hy
   exact ⟨pv',mono _ _ e⟩
  ·have hi':i' = bs.length:=by
    have:=(List.getElem?_eq_some_iff.1 hb').1
    simp at this
    omega
   subst hi'
   rw [List.getElem?_append_right (Nat.le_refl _),Nat.sub_self] at hb'
   simp at hb'
   subst hb'
   rw [h.len,hx] at hy
   cases hy
   exact ⟨xv,addG_same _ _ _⟩
 ·have hlt:=hM M hm
  rw [← h.mp M hm]
  refine (g.block M (by have:=hb.size;simp;omega) (fun e => by cases e;omega)).trans ((Below.heap_alloc _ _ _ (by have:=hb.size;omega)).trans (hb.block M (by omega)))
theorem Lst.done {E:Env} {A k j f' Bp Bs f:Nat} {s:Sel} {p:Pt} {q:Ps} {pv fv lv:Value} {γ:Ghost} {W:World} {bs:List Nat} {γi:Ghost} {X:World} (h:Lst E A k j f' Bp Bs q pv fv lv γ W q.list.length bs γi X) (hI:Inv E γ W) (hA:γ A = some (.asked s pv f)) (hf:f = f' + 1) (hp:s[k]? = some p) (hq:p.2.pss[j]? = some q) (hBp:W.heap.size ≤ Bp) (hn:E.n₀ ≤ W.heap.size) :
  Step E γ W (addG γi Bp (.ptrs A k j)) X ∧ addG γi Bp (.ptrs A k j) A = some (.asked s pv f):=by
 have hAi:=h.st.mono hI _ _ hA
 have mono:∀ k' x,γi k' = some x → addG γi Bp (.ptrs A k j) k' = some x:=fun k' x hk => by
  rw [addG_other _ (fun e => by rw [e,h.rowN] at hk;cases hk)]
  exact hk
 refine ⟨h.st.assign hBp h.rowN hn h.row ⟨s,pv,f,mono _ _ hAi,p,q,f',hp,hq,hf,bs,?_,h.len,fun i' b x hb hx => let ⟨pv',e⟩:=h.each i' b x hb hx;⟨pv',mono _ _ e⟩⟩,mono _ _ hAi⟩
 rw [Nat.sub_self]
 simp [reps]
end Go.Proofs.YtnemagmakgiheaaGreat.Mt
/- package match: list at every spot. -/
namespace Go.Proofs.YtnemagmakgiheaaGreat.Mt
open Go.Proofs.YtnemagmakgiheaaGreat.Tre
open Go Go.RowKit Dm
set_option maxHeartbeats 8000000 in
theorem list_any (E:Env) (hE:EnvOk E) (γ:Ghost) (W:World) (hI:Inv E γ W) (A:Nat) (s:Sel) (pv:Value) (f:Nat) (hA:γ A = some (.asked s pv f)) (k j:Nat) (p:Pt) (q:Ps) (hp:s[k]? = some p) (hq:p.2.pss[j]? = some q) (hls:listed q = true)
  (hj:j < 1099511627776) (hql:q.list.length ≤ 8796093022208) (d:Nat) (xl:Value) (hS:SelsAt d E.n₀ E.w₀ xl q.list) :
  Calls Tryz.prog 166 #[.pointer (some ⟨A,0,none⟩),.agg #[.int .i64 k,.int .i64 j],xl] W fun r W' => ∃ B γ',r = .returned (wide B q.list.length) ∧ γ' B = some (.ptrs A k j) ∧ Step E γ W γ' W':=by
 obtain ⟨_,hfit,fv,lv,kA,hfv,hlv⟩:=hI.asked hA
 have hs50:=fits_len hfit
 have hk:k < 50:=by have:=(List.getElem?_eq_some_iff.1 hp).1;omega
 obtain ⟨f',hf,hfits⟩:=fits_list hfit hp hq hls
 obtain ⟨pl,cl,rfl⟩:=SelsAt.len hS
 obtain ⟨w1,hw1⟩:∃ w1,W.alloc (.cells #[.int .i64 k,.int .i64 j] 179) = w1:=⟨_,rfl⟩
 have b1:Below W.heap.size W w1:=by rw [← hw1];exact (Below.refl _ _).alloc (Nat.le_refl _) _
 have sp1:Blk w1 W.heap.size 179 [.int .i64 k,.int .i64 j]:=by rw [← hw1];exact Blk.new W 179 _
 have s1:w1.heap.size = W.heap.size + 1:=by rw [← hw1];simp
 have st1:=hI.step b1
 have kA1:=kA.next b1
 have lowW:E.n₀ ≤ W.heap.size:=hI.low.size
 have ltA:=hI.lt hA
 have look:(∀ n,(Instr.lookup 89 lv (.agg #[.int .i64 k,.int .i64 j]) true).run Tryz.prog (w1.drewN n) = .ok (.tuple #[.slice none 0 0,.bool false]) (w1.drewN n)) ∨
   (∃ B,γ B = some (.ptrs A k j) ∧ ∀ n,(Instr.lookup 89 lv (.agg #[.int .i64 k,.int .i64 j]) true).run Tryz.prog (w1.drewN n) = .ok (.tuple #[wide B q.list.length,.bool true]) (w1.drewN n)):=by
  rcases hlv with rfl | ⟨M,rfl,hM⟩
  ·left
   intro n
   exact Maps.look_nil true spotKeyed Tryz.underlying89 (zeroPs _) (keyL_of (by omega) hj)
  ·exact map_look st1.inv hA hM hp hq hk hj
 obtain ⟨⟨c0,c1,c2,c3⟩,_⟩:=blk4 kA1
 obtain ⟨⟨d0,d1⟩,_⟩:=blk2 sp1
 unfold ptrV at c0
 have HW:Hid (Inv E γ W):=hI
 have HE:Hid (EnvOk E):=hE
 have HA:Hid (γ A = some (.asked s pv f)):=hA
 have KA1:Hid (Blk w1 A 91 [ptrV E.tb,pv,fv,lv]):=kA1
 have SP1:Hid (Blk w1 W.heap.size 179 [.int .i64 k,.int .i64 j]):=sp1
 have ST1:Hid (Step E γ W γ w1):=st1
 rcases look with hno | ⟨B,hB,hyes⟩
 ·have HNO:Hid (∀ n,(Instr.lookup 89 lv (.agg #[.int .i64 k,.int .i64 j]) true).run Tryz.prog (w1.drewN n) = .ok (.tuple #[.slice none 0 0,.bool false]) (w1.drewN n)):=hno
  clear hI hE hA kA kA1 sp1 st1 hfit
  have hlv1:∃ r,lv = .map r:=by
   rcases hlv with h | ⟨M,h,_⟩
   ·exact ⟨_,h⟩
   ·exact ⟨_,h⟩
  obtain ⟨mr,rfl⟩:=hlv1
  go_enter Tryz.func166,Tryz.ntmps166
  go_wp2
  go_quiet (fail)
  obtain ⟨X0,hX0⟩:∃ X0,w1.drewN nq = X0:=⟨_,rfl⟩
  have bX0:Below w1.heap.size w1 X0:=by rw [← hX0];exact below_drewN w1 nq
  have sX0:X0.heap.size = W.heap.size + 1:=by rw [← hX0];exact s1
  have hno0:=HNO.out nq
  rw [hX0] at hno0 ⊢
  have HN0:Hid (_ = _):=hno0
  have mk:=make_of Tryz.underlying212 infoPtr rfl q.list.length (by omega) (by omega) X0
  unfold wide at mk
  obtain ⟨X2,hX2⟩:∃ X2,X0.alloc (.cells (reps q.list.length (.pointer none)).toArray 129) = X2:=⟨_,rfl⟩
  have bX2:Below w1.heap.size w1 X2:=by rw [← hX2];exact bX0.alloc bX0.size _
  have L0:Lst E A k j f' X0.heap.size W.heap.size q pv fv (.map mr) γ W 0 [] γ X2:=by
   refine ⟨rfl,ST1.out.trans (ST1.out.inv.step bX2),?_,HW.out.new (by omega),HW.out.new (Nat.le_refl _),SP1.out.next bX2,KA1.out.next bX2,fun i' b x h => by simp at h,fun M hM => ?_⟩
   ·rw [← hX2]
    exact Blk.new X0 129 _
   ·cases hM
    have hMlt:M < W.heap.size:=by
     rcases hlv with h | ⟨M',h,hM'⟩
     ·cases h
     ·cases h;exact HW.out.lt hM'
    exact (bX2.block M (by omega)).trans (b1.block M hMlt)
  have hMlt:∀ M,Value.map mr = .map (some M) → M < W.heap.size:=fun M h => by
   rcases hlv with h' | ⟨M',h',hM'⟩
   ·rw [h'] at h;cases h
   ·rw [h'] at h;cases h;exact HW.out.lt hM'
  have HL0:Hid _:=L0
  have hBp:W.heap.size ≤ X0.heap.size:=by omega
  have hneS:W.heap.size ≠ X0.heap.size:=by omega
  have hneA:A ≠ X0.heap.size:=by omega
  have HS:Hid (SelsAt d E.n₀ E.w₀ (.slice pl q.list.length cl) q.list):=hS
  have HFT:Hid (∀ x ∈ q.list,fitsV f' x = true):=hfits
  have HML:Hid (∀ M,Value.map mr = .map (some M) → M < W.heap.size):=hMlt
  generalize hBB:X0.heap.size = Bp at *
  clear hno0 hno c0 c1 c2 c3 d0 d1 bX2 L0 hS hfits hMlt HNO hX0 sX0
  go_wp2
  go_loopw [28] (fun x wr => ∃ (i:Nat) (bs:List Nat) (γi:Ghost),x = .int .i64 i ∧ i ≤ q.list.length ∧ Lst E A k j f' Bp W.heap.size q pv fv (.map mr) γ W i bs γi wr) (fun x _ => q.list.length - (intOf x).toNat)
  case atStart => exact ⟨0,[],γ,rfl,Nat.zero_le _,HL0.out⟩
  case round =>
   obtain ⟨i,bs,γi,rfl,hi,hL⟩:=hrel
   have HL:Hid _:=hL
   by_cases hlt:i < q.list.length
   ·obtain ⟨x,hx⟩:∃ x,q.list[i]? = some x:=⟨_,List.getElem?_eq_getElem hlt⟩
    obtain ⟨d',_,bk,off,xv,rfl,hbk,hcap,hmx,hPx,y0⟩:=SelsAt.get HS.out hx
    unfold maxLen at hmx
    have y1:=(hL.st.inv.low.cell (p:=⟨bk,off + i,none⟩) hbk).trans y0
    obtain ⟨px,cx,rfl⟩:=RowT.len hPx
    have hii:(i:Int) < (q.list.length:Int):=by omega
    obtain ⟨X1,hX1⟩:∃ X1,wr.alloc (.cells #[.slice px x.length cx] 36) = X1:=⟨_,rfl⟩
    have bX1:Below wr.heap.size wr X1:=by rw [← hX1];exact (Below.refl _ _).alloc (Nat.le_refl _) _
    have kX1:Blk X1 wr.heap.size 36 [.slice px x.length cx]:=by rw [← hX1];exact Blk.new wr 36 _
    have hr0:(bs.map ptrV ++ reps (q.list.length - i) (Value.pointer none))[i]? = some (.pointer none):=by
     have h2:q.list.length - i = (q.list.length - (i + 1)) + 1:=by omega
     rw [List.getElem?_append_right (by rw [List.length_map,hL.len];exact Nat.le_refl _),List.length_map,hL.len,Nat.sub_self,h2,reps_succ]
     rfl
    have q0:Below X1.heap.size X1 X1.drew:=below_drew (Below.refl _ _)
    have PU:=hL.push hlt (below_next bX1 q0) hx ⟨d',hPx⟩ (HFT.out x (List.mem_of_getElem? hx)) hBp hneS hneA HML.out lowW
    have HPU:Hid _:=PU
    have HCS:Hid (∀ Y,Below X1.heap.size X1 Y → Y.cell? ⟨A,0,none⟩ = some (.pointer (some ⟨E.tb,0,none⟩)) ∧ Y.cell? ⟨wr.heap.size,0,none⟩ = some (.slice px x.length cx)):=fun Y hY => ⟨(blk4 ((hL.ask.next bX1).next hY)).1.1,(blk1 (kX1.next hY)).1⟩
    have q1:Below X1.heap.size X1 (X1.drew.alloc (.cells #[.pointer (some ⟨E.tb,0,none⟩),.slice px x.length cx,.slice none 0 0,.map none] 91)):=q0.alloc (Nat.le_refl _) _
    obtain ⟨u0,u1⟩:=cell_row (blk_alloc (hL.row.next bX1) (.cells #[.pointer (some ⟨E.tb,0,none⟩),.slice px x.length cx,.slice none 0 0,.map none] 91)) hr0
    have hqi:q.list.length ≤ 8796093022208:=hql
    clear hL PU hPx y0 kX1 hr0 hx
    go_upto_region 8 with fail
    clear y1 hX1 bX1
    refine Rg.wpD_begin [0,1,2,3,4,5,6,7,8,9] (fun Y => Y.cell? ⟨A,0,none⟩ = some (.pointer (some ⟨E.tb,0,none⟩)) ∧ Y.cell? ⟨wr.heap.size,0,none⟩ = some (.slice px x.length cx)) (by kernel_rfl) ?_
    have HeldS:=HCS.out _ q0
    refine Rg.ld 0 HeldS ?_
    simp only [Act.put,Rg.sA,Rg.sB,Rg.sC]
    refine Rg.ld 1 HeldS ?_
    simp only [Act.put,Rg.sA,Rg.sB,Rg.sC]
    refine Rg.ld 2 HeldS ?_
    simp only [Act.put,Rg.sA,Rg.sB,Rg.sC]
    refine Rg.ld 3 HeldS ?_
    simp only [Act.put,Rg.sA,Rg.sB,Rg.sC]
    refine Rg.ld 4 HeldS ?_
    simp only [Act.put,Rg.sA,Rg.sB,Rg.sC]
    refine Rg.ld 5 HeldS ?_
    simp only [Act.put,Rg.sA,Rg.sB,Rg.sC]
    refine Rg.ld 6 HeldS ?_
    simp only [Act.put,Rg.sA,Rg.sB,Rg.sC]
    refine Rg.ld 7 HeldS ?_
    simp only [Act.put,Rg.sA,Rg.sB,Rg.sC]
    refine Rg.ld 8 HeldS ?_
    simp only [Act.put,Rg.sA,Rg.sB,Rg.sC]
    refine Rg.dd 9 fun K hK => ?_
    go_simp
    refine hK _ _ (fun _ => HCS.out _ q1) ?_
    clear hK K
    refine Rg.pu 10 ?_
    simp only [Act.put,Rg.sA,Rg.sB,Rg.sC]
    refine Rg.dd 11 fun K hK => ?_
    go_simp
    refine hK _ _ (fun h => absurd h (by decide)) ?_
    clear hK K
    refine Rg.wpD_done (by kernel_rfl) ?_
    go_wp2
    go_roundw
    case rel => exact ⟨i + 1,_,_,rfl,by omega,HPU.out⟩
    case measure => simp [intOf];omega
   ·obtain rfl:i = q.list.length:=by omega
    obtain ⟨st9,hA9⟩:=hL.done HW.out HA.out hf hp hq hBp lowW
    have hge:¬ ((q.list.length:Int) < (q.list.length:Int)):=by omega
    have hB9:addG γi Bp (.ptrs A k j) Bp = some (.ptrs A k j):=addG_same _ _ _
    obtain ⟨⟨c0,c1,c2,c3⟩,f0,f1,f2,f3⟩:=blk4 hL.ask
    obtain ⟨⟨d0,d1⟩,_⟩:=blk2 hL.sp
    unfold ptrV at c0
    generalize addG γi Bp (.ptrs A k j) = γ9 at *
    have ST9:Hid (Step E γ W γ9 wr):=st9
    have HA9:Hid (γ9 A = some (.asked s pv f)):=hA9
    have HB9:Hid (γ9 Bp = some (.ptrs A k j)):=hB9
    have ASK:Hid (Blk wr A 91 [ptrV E.tb,pv,fv,.map mr]):=hL.ask
    have SPB:Hid (Blk wr W.heap.size 179 [.int .i64 k,.int .i64 j]):=hL.sp
    have spN:γ9 W.heap.size = none:=by
     have h9:=ST9.out.inv
     cases e:γ9 W.heap.size with
     | none => rfl
     | some r =>
      obtain ⟨_,o,ho,hr⟩:=h9.each _ _ e
      rw [show wr.heap[W.heap.size]? = _ from hL.sp] at ho
      cases ho
      cases r with
      | asked s' pv' f'' => obtain ⟨_,_,_,_,h,_⟩:=hr;cases h
      | outer A' => obtain ⟨_,_,_,_,_,h,_⟩:=hr;simp at h
      | verd A' k' => obtain ⟨_,_,_,_,_,h,_⟩:=hr;simp at h
      | mapr A' => obtain ⟨_,_,_,_,_,_,⟨_,_,h,_⟩,_⟩:=hr;cases h
      | ptrs A' k' j' => obtain ⟨_,_,_,_,_,_,_,_,_,_,_,h,_⟩:=hr;simp at h
    have HMP:Hid (∀ M,Value.map mr = .map (some M) → wr.heap[M]? = W.heap[M]?):=hL.mp
    have heq:=eqlNilMap wr mr
    clear hL hB9 hA9 st9
    go_upto_if 49 with fail
    clear heq
    go_cut [] (fun wx => ∃ γx M,Step E γ W γx wx ∧ γx A = some (.asked s pv f) ∧ γx Bp = some (.ptrs A k j) ∧ γx M = some (.mapr A) ∧ Blk wx A 91 [ptrV E.tb,pv,fv,.map (some M)] ∧ Blk wx W.heap.size 179 [.int .i64 k,.int .i64 j] ∧ ∀ n,∃ w',(Instr.mapUpdate 89 (.map (some M)) (.agg #[.int .i64 k,.int .i64 j]) (wide Bp q.list.length)).run Tryz.prog (wx.drewN n) = .ok () w' ∧ Step E γx (wx.drewN n) γx w')
    case first =>
     have st9:=ST9.out
     have sz9:=st9.size
     cases mr with
     | none =>
      obtain ⟨st10,k10⟩:=step_map st9.inv HA9.out ASK.out
      have hM10:addG γ9 wr.heap.size (.mapr A) wr.heap.size = some (.mapr A):=addG_same _ _ _
      have mono:=addG_mono st9.inv (Nat.le_refl wr.heap.size) (.mapr A)
      have hne:W.heap.size ≠ A:=by omega
      have sp10:=(blk_alloc SPB.out (.map #[] 0)).kept (grown_set (wr.alloc (.map #[] 0)) A 3 (.map (some wr.heap.size))) (fun e => hne (by cases e;rfl))
      have hupd:∀ n,∃ w',(Instr.mapUpdate 89 (.map (some wr.heap.size)) (.agg #[.int .i64 k,.int .i64 j]) (wide Bp q.list.length)).run Tryz.prog (((wr.alloc (.map #[] 0)).setCell ⟨A,3,none⟩ (.map (some wr.heap.size))).drewN n) = .ok () w' ∧ Step E (addG γ9 wr.heap.size (.mapr A)) (((wr.alloc (.map #[] 0)).setCell ⟨A,3,none⟩ (.map (some wr.heap.size))).drewN n) (addG γ9 wr.heap.size (.mapr A)) w':=fun n => by
       have hW0:(Instr.lookup 89 (.map (some wr.heap.size)) (.agg #[.int .i64 k,.int .i64 j]) true).run Tryz.prog (wr.alloc (.map #[] 0)) = .ok (.tuple #[.slice none 0 0,.bool false]) (wr.alloc (.map #[] 0)):=by
        obtain ⟨v,ps,hr,hv⟩:=World.ownsMap.look_ok (World.ownsMap_made wr Tryz.prog 179 held) spotKeyed Tryz.underlying89 (zeroPs _) (zd:=.held (.slice none 0 0)) (zp:=[]) rfl (keyL_of (k:=k) (j:=j) (by omega) hj)
        have hh:Maps.has (DataW.map []:DataW Value) (keyL k j) = false:=rfl
        rw [hh] at hr
        rw [Maps.atKey_of_not_has hh] at hv
        unfold held at hv
        simp at hv
        rw [hv.1] at hr
        exact hr
       have inv10:=(st10.inv.step (below_drewN _ n)).inv
       exact map_put inv10 (mono _ _ HA9.out) hM10 hp hq hk hj (mono _ _ HB9.out) (W0:=wr.alloc (.map #[] 0)) (Below.heap_setCell _ _ _ _ (by simp;omega)) hW0
      have FIN:Hid _:=(⟨_,_,st9.trans st10,mono _ _ HA9.out,mono _ _ HB9.out,hM10,k10,sp10,hupd⟩:∃ γx M,Step E γ W γx _ ∧ γx A = some (.asked s pv f) ∧ γx Bp = some (.ptrs A k j) ∧ γx M = some (.mapr A) ∧ Blk _ A 91 [ptrV E.tb,pv,fv,.map (some M)] ∧ Blk _ W.heap.size 179 [.int .i64 k,.int .i64 j] ∧ ∀ n,∃ w',(Instr.mapUpdate 89 (.map (some M)) (.agg #[.int .i64 k,.int .i64 j]) (wide Bp q.list.length)).run Tryz.prog (((wr.alloc (.map #[] 0)).setCell ⟨A,3,none⟩ (.map (some wr.heap.size))).drewN n) = .ok () w' ∧ Step E γx (((wr.alloc (.map #[] 0)).setCell ⟨A,3,none⟩ (.map (some wr.heap.size))).drewN n) γx w')
      have e0:=(blk4 (blk_alloc ASK.out (.map #[] 0))).1.2.2.2
      have e1:=(blk4 (blk_alloc ASK.out (.map #[] 0))).2.2.2.2
      have hmm:=@run_makeMap Tryz.prog
      clear st9 st10 k10 sp10 hupd hM10 mono
      go_wp2
      go_meet
      exact FIN.out
     | some M =>
      have hM9:γ9 M = some (.mapr A):=by
       rcases hlv with h | ⟨M',h,hM'⟩
       ·cases h
       ·cases h
        exact st9.mono HW.out _ _ hM'
      have FIN:Hid _:=(⟨γ9,M,st9,HA9.out,HB9.out,hM9,ASK.out,SPB.out,fun n => map_put (st9.inv.step (below_drewN _ n)).inv HA9.out hM9 hp hq hk hj HB9.out (W0:=X0) ((HMP.out M rfl).trans (((bX0.block M (by have:=HML.out M rfl;omega)).trans (b1.block M (HML.out M rfl))).symm)) HN0.out⟩:∃ γx M,Step E γ W γx wr ∧ γx A = some (.asked s pv f) ∧ γx Bp = some (.ptrs A k j) ∧ γx M = some (.mapr A) ∧ Blk wr A 91 [ptrV E.tb,pv,fv,.map (some M)] ∧ Blk wr W.heap.size 179 [.int .i64 k,.int .i64 j] ∧ ∀ n,∃ w',(Instr.mapUpdate 89 (.map (some M)) (.agg #[.int .i64 k,.int .i64 j]) (wide Bp q.list.length)).run Tryz.prog (wr.drewN n) = .ok () w' ∧ Step E γx (wr.drewN n) γx w')
      clear st9 hM9
      go_wp2
      go_meet
      exact FIN.out
    case rest =>
     clear c0 c1 c2 c3 f0 f1 f2 f3 d0 d1 ASK SPB HMP
     obtain ⟨γx,M,stx,hAx,hBx,hMx,kAx,spx,hupd⟩:=hcut
     obtain ⟨w9,hrun,st9⟩:=hupd 1
     have HST:Hid (Step E γ W γx w9):=(stx.trans (stx.inv.step (below_drewN wc 1))).trans st9
     have HBX:Hid (_ = _):=hBx
     have HeldS0:Hid (∀ Y,Below wc.heap.size wc Y → Y.cell? ⟨A,3,none⟩ = some (.map (some M)) ∧ Y.cell? ⟨W.heap.size,0,none⟩ = some (.int .i64 k) ∧ Y.cell? ⟨W.heap.size,1,none⟩ = some (.int .i64 j)):=fun Y hY => ⟨(blk4 (kAx.next hY)).1.2.2.2,(blk2 (spx.next hY)).1.1,(blk2 (spx.next hY)).1.2⟩
     have q0:Below wc.heap.size wc wc.drew:=below_drew (Below.refl _ _)
     unfold wide at hrun
     rw [show wc.drewN 1 = wc.drew from rfl] at hrun
     clear hupd stx st9 kAx spx hBx
     go_upto_region 12 with fail
     refine Rg.wpD_begin [0,1,2,3,4,5] (fun Y => Y.cell? ⟨A,3,none⟩ = some (.map (some M)) ∧ Y.cell? ⟨W.heap.size,0,none⟩ = some (.int .i64 k) ∧ Y.cell? ⟨W.heap.size,1,none⟩ = some (.int .i64 j)) (by kernel_rfl) ?_
     have HeldS:=HeldS0.out _ q0
     refine Rg.ld 0 HeldS ?_
     simp only [Act.put,Rg.sA,Rg.sB,Rg.sC]
     refine Rg.ld 1 HeldS ?_
     simp only [Act.put,Rg.sA,Rg.sB,Rg.sC]
     refine Rg.ld 2 HeldS ?_
     simp only [Act.put,Rg.sA,Rg.sB,Rg.sC]
     refine Rg.ld 3 HeldS ?_
     simp only [Act.put,Rg.sA,Rg.sB,Rg.sC]
     refine Rg.ld 4 HeldS ?_
     simp only [Act.put,Rg.sA,Rg.sB,Rg.sC]
     refine Rg.ld 5 HeldS ?_
     simp only [Act.put,Rg.sA,Rg.sB,Rg.sC]
     refine Rg.dd 6 fun K hK => ?_
     go_simp
     refine hK _ _ (fun h => absurd h (by decide)) ?_
     clear hK K
     refine Rg.wpD_done (by kernel_rfl) ?_
     go_wp2
     go_ret
     exact ⟨Bp,rfl,γx,HBX.out,HST.out⟩
 ·unfold wide at hyes
  have hfin:∀ n,Step E γ W γ (w1.drewN n):=fun n => st1.trans (st1.inv.step (below_drewN w1 n))
  have HF:Hid (∀ n,Step E γ W γ (w1.drewN n)):=hfin
  have HB:Hid (γ B = some (.ptrs A k j)):=hB
  have hlv1:∃ r,lv = .map r:=by
   rcases hlv with h | ⟨M,h,_⟩
   ·exact ⟨_,h⟩
   ·exact ⟨_,h⟩
  obtain ⟨mr,rfl⟩:=hlv1
  clear hI hE hA kA kA1 sp1 st1 hfit hB hfin
  go_enter Tryz.func166,Tryz.ntmps166
  go_wp2
  go_quiet (fail)
  go_wp2
  go_ret
  exact ⟨B,γ,rfl,HB.out,HF.out _⟩
end Go.Proofs.YtnemagmakgiheaaGreat.Mt
/- package match: isAny, where 'is' is known of what stands one list deeper. -/
namespace Go.Proofs.YtnemagmakgiheaaGreat.Mt
open Go.Proofs.YtnemagmakgiheaaGreat.Tre
open Go Go.RowKit Dm
def IsK (E:Env) (f:Nat):Prop:=∀ (γ:Ghost) (W:World) (A:Nat) (s:Sel) (pv:Value),Inv E γ W → γ A = some (.asked s pv f) → ∀ e:Nat,e < E.qs.length →
 Calls Tryz.prog 45 #[.pointer (some ⟨A,0,none⟩),.int .i64 e] W fun r W' => r = .returned (.bool (selV (anyV E.es f) E.es s e)) ∧ ∃ γ',Step E γ W γ' W'
theorem ptrs_get {E:Env} {γ:Ghost} {W:World} (hI:Inv E γ W) {A B k j:Nat} {s:Sel} {pv:Value} {f':Nat} {p:Pt} {q:Ps} (hA:γ A = some (.asked s pv (f' + 1))) (hB:γ B = some (.ptrs A k j)) (hp:s[k]? = some p) (hq:p.2.pss[j]? = some q) {i:Nat} {x:Sel} (hx:q.list[i]? = some x) :
  ∃ b pv',W.cell? ⟨B,i,none⟩ = some (.pointer (some ⟨b,0,none⟩)) ∧ γ b = some (.asked x pv' f'):=by
 obtain ⟨_,o,ho,s',pv',f1,hA',p',q',f2,hp',hq',hf,bs,rfl,hl,he⟩:=hI.each B _ hB
 rw [hA] at hA'
 cases hA'
 rw [hp] at hp'
 cases hp'
 rw [hq] at hq'
 cases hq'
 obtain rfl:f2 = f':=by omega
 have hi:i < bs.length:=by rw [hl];exact (List.getElem?_eq_some_iff.1 hx).1
 obtain ⟨pv2,hγ⟩:=he i _ x (List.getElem?_eq_getElem hi) hx
 have kB:Blk W B 129 (bs.map ptrV):=ho
 exact ⟨bs[i],pv2,(cell_row kB (by rw [List.getElem?_map,List.getElem?_eq_getElem hi];rfl)).1,hγ⟩
theorem isAny1_any (E:Env) (f:Nat) (HI:IsK E f) (γ:Ghost) (W:World) (A:Nat) (s:Sel) (pv:Value) (hI:Inv E γ W) (hA:γ A = some (.asked s pv f)) (e:Nat) (he:e < E.qs.length) (Bx:Nat) (hc:W.cell? ⟨Bx,0,none⟩ = some (.int .i64 e)) :
  Calls Tryz.prog 167 #[.pointer (some ⟨A,0,none⟩),.pointer (some ⟨Bx,0,none⟩)] W fun r W' => r = .returned (.bool (selV (anyV E.es f) E.es s e)) ∧ ∃ γ',Step E γ W γ' W':=by
 have h:=HI γ W A s pv hI hA e he
 clear HI hI hA
 go_enter Tryz.func167,Tryz.ntmps167
 go_wp2_with fail
 refine h.mono ?_
 clear h
 rintro r W' ⟨rfl,hst⟩
 have HS:Hid _:=hst
 clear hst
 go_wp2
 go_ret
 exact ⟨rfl,HS.out⟩
set_option maxHeartbeats 4000000 in
theorem indexAsk_any (E:Env) (f':Nat) (HI:IsK E f') (γ:Ghost) (W:World) (hI:Inv E γ W) (A B k j:Nat) (s:Sel) (pv:Value) (p:Pt) (q:Ps) (hA:γ A = some (.asked s pv (f' + 1))) (hB:γ B = some (.ptrs A k j)) (hp:s[k]? = some p) (hq:p.2.pss[j]? = some q) (hql:q.list.length ≤ 8796093022208)
  (e:Nat) (he:e < E.qs.length) (Bx:Nat) (hx:Boxed W Bx 3 (.int .i64 e)) (hxn:γ Bx = none) :
  Calls Tryz.prog 184 #[.slice (some ⟨B,0,none⟩) q.list.length q.list.length,.func (.func 167) #[] #[.pointer (some ⟨Bx,0,none⟩)]] W fun r W' => (∃ i:Int,r = .returned (.int .i64 i) ∧ decide (0 ≤ i) = anyV E.es (f' + 1) q.list e) ∧ ∃ γ',Step E γ W γ' W':=by
 have H0:Hid (Step E γ W γ W):=Step.refl hI
 have HII:Hid (IsK E f'):=HI
 have HIV:Hid (Inv E γ W):=hI
 have HA:Hid (_ = _):=hA
 have HB:Hid (_ = _):=hB
 have HX:Hid (Boxed W Bx 3 (.int .i64 e)):=hx
 have HXN:Hid (_ = _):=hxn
 clear HI hI hA hB hx hxn
 go_enter Tryz.func184,Tryz.ntmps184
 go_wp2
 go_loopw [8] (fun y wr => ∃ (i:Nat) (γi:Ghost),y = .int .i64 i ∧ i ≤ q.list.length ∧ (q.list.take i).any (fun s => selV (anyV E.es f') E.es s e) = false ∧ Step E γ W γi wr) (fun y _ => q.list.length - (intOf y).toNat)
 case atStart => exact ⟨0,γ,rfl,Nat.zero_le _,rfl,H0.out⟩
 case round =>
  obtain ⟨i,γi,rfl,hi,hno,hst⟩:=hrel
  have HST:Hid _:=hst
  have HNO:Hid (_ = _):=hno
  clear hno
  by_cases hlt:i < q.list.length
  ·obtain ⟨x,hx⟩:∃ x,q.list[i]? = some x:=⟨_,List.getElem?_eq_getElem hlt⟩
   obtain ⟨b,pv',c0,hb⟩:=ptrs_get hst.inv (hst.mono HIV.out _ _ HA.out) (hst.mono HIV.out _ _ HB.out) hp hq hx
   have cx:=Boxed.cell (show Boxed wr Bx 3 _ from (hst.block _ HX.out.lt HXN.out).trans HX.out)
   have h:=isAny1_any E f' HII.out γi wr b x pv' hst.inv hb e he Bx cx
   have hii:(i:Int) < (q.list.length:Int):=by omega
   have HXX:Hid (_ = _):=hx
   clear hst hb cx hx
   go_wp2_with fail
   refine h.mono ?_
   clear h c0
   rintro r W' ⟨rfl,γ',hst'⟩
   have HS2:Hid (Step E γ W γ' W'):=HST.out.trans hst'
   clear hst'
   cases hv:selV (anyV E.es f') E.es x e with
   | true =>
    have FIN:Hid (decide ((0:Int) ≤ (i:Int)) = anyV E.es (f' + 1) q.list e):=by
     show _ = _
     rw [decide_eq_true (by omega)]
     symm
     show q.list.any _ = true
     rw [List.any_eq_true]
     exact ⟨x,List.mem_of_getElem? HXX.out,hv⟩
    clear hv
    go_wp2
    go_ret
    exact ⟨⟨i,rfl,FIN.out⟩,γ',HS2.out⟩
   | false =>
    have FIN:Hid ((q.list.take (i + 1)).any (fun s => selV (anyV E.es f') E.es s e) = false):=by
     show _ = _
     rw [List.take_add_one,show q.list[i]? = some x from HXX.out,List.any_append,show (q.list.take i).any _ = false from HNO.out]
     simp [hv]
    clear hv
    go_wp2
    go_roundw
    case rel => exact ⟨i + 1,γ',rfl,by omega,FIN.out,HS2.out⟩
    case measure => simp [intOf];omega
  ·have hii:¬ ((i:Int) < (q.list.length:Int)):=by omega
   obtain rfl:i = q.list.length:=by omega
   have FIN:Hid (decide ((0:Int) ≤ (-1:Int)) = anyV E.es (f' + 1) q.list e):=by
    have h:=HNO.out
    rw [List.take_length] at h
    show _ = q.list.any _
    rw [show q.list.any _ = false from h]
    rfl
   clear hst
   go_wp2
   go_ret
   exact ⟨⟨-1,rfl,FIN.out⟩,γi,HST.out⟩
set_option maxHeartbeats 4000000 in
theorem isAny_any (E:Env) (hE:EnvOk E) (f':Nat) (HI:IsK E f') (γ:Ghost) (W:World) (hI:Inv E γ W) (A k j:Nat) (s:Sel) (pv:Value) (p:Pt) (q:Ps) (hA:γ A = some (.asked s pv (f' + 1))) (hp:s[k]? = some p) (hq:p.2.pss[j]? = some q) (hls:listed q = true) (hj:j < 1099511627776) (hql:q.list.length ≤ 8796093022208)
  (d:Nat) (pl:Option Addr) (cl:Nat) (hS:SelsAt d E.n₀ E.w₀ (.slice pl q.list.length cl) q.list) (e:Nat) (he:e < E.qs.length) :
  Calls Tryz.prog 145 #[.pointer (some ⟨A,0,none⟩),.agg #[.int .i64 k,.int .i64 j],.slice pl q.list.length cl,.int .i64 e] W fun r W' => r = .returned (.bool (anyV E.es (f' + 1) q.list e)) ∧ ∃ γ',Step E γ W γ' W':=by
 obtain ⟨w2,hw2⟩:∃ w2,(W.alloc (.cells #[.int .i64 k,.int .i64 j] 179)).alloc (.cells #[.int .i64 e] 3) = w2:=⟨_,rfl⟩
 have b2:Below W.heap.size W w2:=by rw [← hw2];exact ((Below.refl _ W).alloc (Nat.le_refl _) _).alloc (by simp) _
 have st2:=hI.step b2
 have sp2:Blk w2 W.heap.size 179 [.int .i64 k,.int .i64 j]:=by rw [← hw2];exact blk_alloc (Blk.new W 179 _) _
 have ex2:Boxed w2 (W.heap.size + 1) 3 (.int .i64 e):=by
  rw [← hw2]
  have:=Boxed.new (W.alloc (.cells #[.int .i64 k,.int .i64 j] 179)) 3 (.int .i64 e)
  rwa [World.size_alloc] at this
 have hl:=list_any E hE γ w2 st2.inv A s pv (f' + 1) hA k j p q hp hq hls hj hql d _ hS
 obtain ⟨⟨d0,d1⟩,_⟩:=blk2 sp2
 have ST2:Hid _:=st2
 have EX2:Hid (Boxed w2 (W.heap.size + 1) 3 (.int .i64 e)):=ex2
 have HA:Hid (_ = _):=hA
 have HIV:Hid (Inv E γ W):=hI
 have HII:Hid (IsK E f'):=HI
 have hxn:Hid (γ (W.heap.size + 1) = none):=hI.new (by omega)
 unfold wide at hl
 clear st2 ex2 hA hI HI hE hS sp2
 go_enter Tryz.func145,Tryz.ntmps145
 go_wp2_with fail
 refine hl.mono ?_
 clear hl
 rintro r X ⟨B,γ1,rfl,hB,st⟩
 have hx1:Boxed X (W.heap.size + 1) 3 (.int .i64 e):=(st.block _ EX2.out.lt hxn.out).trans EX2.out
 have hi:=indexAsk_any E f' HII.out γ1 X st.inv A B k j s pv p q (st.mono ST2.out.inv _ _ HA.out) hB hp hq hql e he (W.heap.size + 1) hx1 (st.none EX2.out.lt hxn.out)
 have HS1:Hid (Step E γ W γ1 X):=ST2.out.trans st
 have hcf:Calls Tryz.prog 165 #[.slice (some ⟨B,0,none⟩) q.list.length q.list.length,.func (.func 167) #[] #[.pointer (some ⟨W.heap.size + 1,0,none⟩)]] X fun r W' => r = .returned (.bool (anyV E.es (f' + 1) q.list e)) ∧ ∃ γ',Step E γ1 X γ' W':=by
  clear hw2 d0 d1 hB st hx1 HS1 ST2 EX2 hxn
  go_enter Tryz.func165,Tryz.ntmps165
  go_wp2_with fail
  refine hi.mono ?_
  clear hi
  rintro r W' ⟨⟨i,rfl,hi⟩,hst⟩
  have HS:Hid _:=hst
  have HH:Hid (_ = _):=hi
  clear hst hi
  go_wp2
  go_ret
  exact ⟨by rw [← show decide (0 ≤ i) = _ from HH.out];rfl,HS.out⟩
 clear hi hB st hx1 d0 d1
 go_wp2_with fail
 refine hcf.mono ?_
 clear hcf
 rintro r W' ⟨rfl,γ2,st2⟩
 have HS2:Hid (Step E γ W γ2 W'):=HS1.out.trans st2
 clear st2
 go_wp2
 go_ret
 exact ⟨rfl,γ2,HS2.out⟩
end Go.Proofs.YtnemagmakgiheaaGreat.Mt
