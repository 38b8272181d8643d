/- For all nodes and all selectors within the bound of the second form: the law tapestrierlaw11.WeighSelectors returns true. -/
import Derived.Test.YtnemagmakgiheaaGreatWrBest
import Derived.Test.YtnemagmakgiheaaGreatWgB
import Derived.Test.YtnemagmakgiheaaGreatWgG
import Derived.Test.YtnemagmakgiheaaGreatDmArgs
import Derived.Test.YtnemagmakgiheaaGreatRows
import Derived.HandedShaped
import Derived.JoinedCond
import Derived.Deep.CondSized
set_option maxRecDepth 100000
namespace Go.Proofs.YtnemagmakgiheaaGreat.Wg
open Go.Proofs.YtnemagmakgiheaaGreat.Tre
open Go Go.RowKit Sl Go.Proofs.YtnemagmakgiheaaGreat
theorem selswAt_of_reads {H:Type} {enc:TypeId × Value → H} {W:World} {a:Option Addr} {len cap:Nat} {d:DataW H} {p:List MemPlace}
  (h:DataW.Trod enc Tryz.prog W 0 (fun _ => true) true 28 (.slice a len cap) d p) (hw:∀ n ∈ d.weights Tryz.prog 28,n ≤ reachBytes) :
  ∃ l:List Sel,SelsR 11 W.heap.size W (.slice a len cap) l ∧ WD 11 l:=by
 obtain ⟨fuel,hf⟩:=h
 exact sels_inW 11 (x:=(d,p)) hf hw
theorem selswUp_of {H:Type} {enc:TypeId × Value → H} {W:World} {a:Option Addr} {len cap:Nat} {d:DataW H} {p:List MemPlace} {ds:List (DataW H)} {l:List Sel}
  (h:DataW.Trod enc Tryz.prog W 0 (fun _ => true) true 28 (.slice a len cap) d p) (hs:SelsR 11 W.heap.size W (.slice a len cap) l) (hk:Rows.uptoSmall H ds = true) (hd:d ∈ ds):∀ s ∈ l,OkD 1048576 10 s:=by
 obtain ⟨l2,h1,h2⟩:=selsUp_of_reads h hk hd
 rwa [sels_uniq 11 _ l l2 hs h1]
end Go.Proofs.YtnemagmakgiheaaGreat.Wg
namespace Go.Proofs.YtnemagmakgiheaaGreat
open Go.Proofs.YtnemagmakgiheaaGreat.Tre
open Go Go.ChangeShapes Go.WideShapes Go.ChangeAt Go.RowKit Dm Mt Wg
open Go.ChangeMaps (open_string shut_string)
set_option maxHeartbeats 8000000 in
theorem weighSelectors_walk (w:World) (hM:Mt.ML w) (v0:Value) (l:List Nv) (hl:NodesAt w.heap.size w v0 l) (hN:∀ n ∈ l,NdOk n.nd) (_h88:l.length * 88 ≤ 140737488351232) (v1:Value) (m:List Sel) (hs:SelsR 11 w.heap.size w v1 m) (hwd:WD 11 m) (ho:∀ s ∈ m,OkD 1048576 10 s) :
  Calls Tryz.prog 6 #[v0,v1] w fun e w' => e = .returned (.bool true) ∧ Below w.heap.size w w':=by
 obtain ⟨p,cap,rfl⟩:=hl.row.len
 have hmm:=Wg.RowT.short hs
 unfold maxLen at hmm
 obtain ⟨q,c,rfl⟩:=Wg.RowT.len hs
 have h0:=Wg.alive_any w
 have HM:Hid (Mt.ML w):=hM
 have HL:Hid (NodesAt w.heap.size w (.slice p l.length cap) l):=hl
 have HN:Hid (∀ n ∈ l,NdOk n.nd):=hN
 have HS:Hid (SelsR 11 w.heap.size w (.slice q m.length c) m ∧ WD 11 m ∧ ∀ s ∈ m,OkD 1048576 10 s):=⟨hs,hwd,ho⟩
 clear hl hN hM hs hwd ho
 go_enter Tryz.func6,Tryz.ntmps6
 go_wp2_with fail
 refine h0.mono ?_
 clear h0
 rintro e w1 ⟨rfl,b1⟩
 have hd:=Wg.Dear_deep _ m w1 (HS.out.1.next b1)
 go_wp2_with fail
 refine hd.mono ?_
 clear hd
 rintro e w2 ⟨much,rfl,HD,b2⟩
 have b12:=below_next b1 b2
 have ht:=Mt.trees11_any _ l w2 (HM.out.next b12) (HL.out.next b12) HN.out
 clear b1 b2
 go_wp2_with fail
 refine ht.mono ?_
 clear ht
 rintro e w4 ⟨hT,b5⟩
 have b15:=below_next b12 b5
 clear b12 b5
 unfold Mt.Trees at hT
 cases much with
 | true =>
  rcases hT with rfl | ⟨tb,rb,b,nv,dv,ns,ds,es,rfl,hG,hR,hE,hel,hl40,hV,hsm⟩
  ·go_wp2
   go_ret
   exact ⟨rfl,b15⟩
  ·clear hG hR hE hV hsm
   go_wp2
   go_ret
   exact ⟨rfl,b15⟩
 | false =>
 rcases hT with rfl | ⟨tb,rb,b,nv,dv,ns,ds,es,rfl,hG,hR,hE,hel,hl40,hV,hsm⟩
 ·go_wp2
  go_ret
  exact ⟨rfl,b15⟩
 have hTA:=(Rf.TE.of_new hR hE hV hsm).1
 obtain ⟨T,hTT⟩:∃ T:Rf.TE,T = Rf.TE.mk b rb nv dv ns ds es:=⟨_,rfl⟩
 rw [← hTT] at hTA
 have hTe:T.es = es:=by rw [hTT]
 have hTp:T.p = .pointer (some ⟨rb,0,none⟩):=by rw [hTT]
 have HG:Hid (Mt.Good w4 tb es):=hG
 have HTA:Hid (T.At w4 ∧ T.es = es ∧ T.p = .pointer (some ⟨rb,0,none⟩)):=⟨hTA,hTe,hTp⟩
 have hln:l.length ≤ 40:=hl40
 have HFD:Hid (FewD 11 m):=HD.out rfl
 have ONE:Hid (∀ (k:Nat) (x:Sel),m[k]? = some x → ∃ (bk off:Nat) (xp:Option Addr) (xc:Nat),q = some ⟨bk,off,none⟩ ∧ m.length ≤ c ∧ c ≤ 9223372036854775807 ∧ (∀ X,Below w4.heap.size w4 X → X.cell? ⟨bk,off + k,none⟩ = some (.slice xp x.length xc)) ∧
   (∀ X,Below w4.heap.size w4 X → PartsR 8 X.heap.size X (.slice xp x.length xc) (cutS 8 x)) ∧ FewT 10 x ∧
   (∀ (e:Int) X,Below w4.heap.size w4 X → Calls Tryz.prog 14 #[.pointer (some ⟨tb,0,none⟩),.int .i64 e,.agg #[.slice xp x.length xc]] X fun r w' => r = .returned (.bool (Mt.selectorV es e x)) ∧ Below X.heap.size X w') ∧
   (∀ (e:Int) X,Below w4.heap.size w4 X → Calls Tryz.prog 15 #[.pointer (some ⟨rb,0,none⟩),.int .i64 e,.agg #[.slice xp x.length xc]] X fun r w' => r = .returned (.bool (Mt.selectorV es e x)) ∧ Below X.heap.size X w')):=fun k x hk => by
  obtain ⟨t1,t2,t3⟩:=HTA.out
  have hfew:=HFD.out
  have hwd:=HS.out.2.1
  unfold FewD at hfew
  unfold WD at hwd
  obtain ⟨bk,off,xv,e2,hbk,g1,g2,hp,y0⟩:=SelsR.get (HS.out.1.next b15) hk
  obtain ⟨xp,xc,rfl⟩:=Wg.RowT.len hp
  have hmem:=List.mem_of_getElem? hk
  have hft:FewT 10 x:=⟨(hfew x hmem).1,fun p hp => ⟨((hfew x hmem).2 p hp).1,((hfew x hmem).2 p hp).2⟩⟩
  have hsw:SW 10 x:=fun p hp => ⟨(hwd.2 x hmem p hp).1,(hwd.2 x hmem p hp).2.1,(hwd.2 x hmem p hp).2.2⟩
  have h8:∀ X,Below w4.heap.size w4 X → PartsR 8 X.heap.size X (.slice xp x.length xc) (cutS 8 x):=fun X hX => by
   have h:=PartsR.cut (PartsR.cut (PartsR.next hp hX))
   rwa [cutS_two] at h
  refine ⟨bk,off,xp,xc,e2,g1,by unfold maxLen at g2;omega,fun X hX => (hX.cell (p:=⟨bk,off + k,none⟩) hbk).trans y0,h8,hft,fun e X hX => (HG.out.next hX).sel e 10 _ x (Mt.parts_of (PartsR.next hp hX) hft hsw),fun e X hX => ?_⟩
  have h:=Rf.selector_any T (cutS 8 (cutS 9 x)) (.slice xp x.length xc) e X (t1.next hX) (PartsR.cut (PartsR.cut (PartsR.next hp hX))) (Rf.okS_of 8 (OkD_cut 8 (OkD_cut 9 (HS.out.2.2 x hmem))))
  rw [t2,t3,cutS_two,same_sel] at h
  exact h
 have AM:Hid (∀ X,Below w4.heap.size w4 X → AskOK 14 (.pointer (some ⟨tb,0,none⟩)) (Mt.selectorV es) X q c m):=fun X hX k x hk => by
  obtain ⟨bk,off,xp,xc,e1,g1,g2,a1,a2,a3,a4,a5⟩:=ONE.out k x hk
  exact ⟨bk,off,xp,xc,e1,g1,g2,fun Y hY => a1 Y (below_next hX hY),fun Y hY => a2 Y (below_next hX hY),a3,fun e Y hY => a4 e Y (below_next hX hY)⟩
 have AR:Hid (∀ X,Below w4.heap.size w4 X → AskOK 15 (.pointer (some ⟨rb,0,none⟩)) (Mt.selectorV es) X q c m):=fun X hX k x hk => by
  obtain ⟨bk,off,xp,xc,e1,g1,g2,a1,a2,a3,a4,a5⟩:=ONE.out k x hk
  exact ⟨bk,off,xp,xc,e1,g1,g2,fun Y hY => a1 Y (below_next hX hY),fun Y hY => a2 Y (below_next hX hY),a3,fun e Y hY => a5 e Y (below_next hX hY)⟩
 clear hG hR hE hV hsm hl40 hel hTA hTT hTe hTp HG HTA HD HM HL HN HS HFD T
 go_wp2
 go_loopw [10] (fun y wy => ∃ i:Nat,y = .int .i64 i ∧ i ≤ m.length ∧ Below w4.heap.size w4 wy) (fun y _ => m.length - (intOf y).toNat)
 case atStart => exact ⟨0,rfl,Nat.zero_le _,Below.refl _ _⟩
 case round =>
  rename World => wy
  obtain ⟨i,rfl,hi,bY⟩:=hrel
  have HBY:Hid (Below w4.heap.size w4 wy):=bY
  clear bY
  by_cases hil:i < m.length
  ·have hii:(i:Int) < (m.length:Int):=by omega
   obtain ⟨x,hx⟩:∃ x,m[i]? = some x:=⟨_,List.getElem?_eq_getElem hil⟩
   obtain ⟨bk,off,xp,xc,rfl,g1,g2,hc,hp8,hft,_,_⟩:=ONE.out i x hx
   obtain ⟨V,hV⟩:∃ V,ofV x = V:=⟨_,rfl⟩
   have HC:Hid (∀ X,Below wy.heap.size wy X → X.cell? ⟨bk,off + i,none⟩ = some (.slice xp x.length xc)):=fun X hX => hc X (below_next HBY.out hX)
   have HSM:Hid (∀ X,Below wy.heap.size wy X → Calls Tryz.prog 20 #[.agg #[.slice xp x.length xc]] X fun r w' => r = .returned (.int .i64 V) ∧ Below X.heap.size X w'):=fun X hX => by
    have h:=of_any (.slice xp x.length xc) (cutS 8 x) X (hp8 X (below_next HBY.out hX))
    rwa [ofV_cut,hV] at h
   have HSR:Hid (∀ X,Below wy.heap.size wy X → Calls Tryz.prog 21 #[.agg #[.slice xp x.length xc]] X fun r w' => r = .returned (.int .i64 V) ∧ Below X.heap.size X w'):=fun X hX => by
    have h:=refWeight_any (.slice xp x.length xc) (cutS 8 x) X (hp8 X (below_next HBY.out hX)) (few_cut hft)
    rwa [ofV_cut,hV] at h
   clear hc hp8 hft hx hV ONE AM AR
   go_upto_region 9 with fail
   go_cut [51] (fun y wz => y = .bool false ∧ Below wy.heap.size wy wz)
   case first =>
    refine Rg.wpD_begin [0,1,2,3,4,5,6,7,8,9] (fun X => X.cell? ⟨bk,off + i,none⟩ = some (.slice xp x.length xc)) (by kernel_rfl) ?_
    have q0:Below wy.heap.size wy wy.drew:=below_drew (Below.refl _ _)
    have HeldS:=HC.out _ q0
    refine Rg.ld 0 HeldS ?_
    simp only [Act.put,Rg.sA,Rg.sB,Rg.sC]
    refine Rg.ld 1 HeldS ?_
    simp only [Act.put,Rg.sA,Rg.sB,Rg.sC]
    refine Rg.ld 2 HeldS ?_
    simp only [Act.put,Rg.sA,Rg.sB,Rg.sC]
    refine Rg.ld 3 HeldS ?_
    simp only [Act.put,Rg.sA,Rg.sB,Rg.sC]
    refine Rg.ld 5 HeldS ?_
    simp only [Act.put,Rg.sA,Rg.sB,Rg.sC]
    refine Rg.ld 6 HeldS ?_
    simp only [Act.put,Rg.sA,Rg.sB,Rg.sC]
    refine Rg.ld 7 HeldS ?_
    simp only [Act.put,Rg.sA,Rg.sB,Rg.sC]
    refine Rg.ld 8 HeldS ?_
    simp only [Act.put,Rg.sA,Rg.sB,Rg.sC]
    refine Rg.dd 4 fun K hK => ?_
    go_simp
    go_at_call 20
    refine Calls.mono (HSM.out _ q0) ?_
    rintro r Z1 ⟨rfl,a1⟩
    have q1:=below_next q0 a1
    refine hK _ _ (fun _ => HC.out _ q1) ?_
    clear hK K HeldS
    refine Rg.dd 9 fun K hK => ?_
    go_simp
    go_at_call 21
    refine Calls.mono (HSR.out _ q1) ?_
    rintro r Z2 ⟨rfl,a2⟩
    have q2:=below_next q1 a2
    refine hK _ _ (fun _ => HC.out _ q2) ?_
    clear hK K
    refine Rg.pu 10 ?_
    simp only [Act.put,Rg.sA,Rg.sB,Rg.sC]
    refine Rg.wpD_done (by kernel_rfl) ?_
    go_wp2
    go_meet
    exact ⟨by simp,q2⟩
   case rest =>
    rename World => wz
    obtain ⟨rfl,bZ⟩:=hcut
    have b9:=below_next HBY.out bZ
    go_wp2
    go_roundw
    case rel => exact ⟨i + 1,by go_num,by omega,b9⟩
    case measure => simp [intOf];omega
  ·have hii:¬ (i:Int) < (m.length:Int):=by omega
   have hml:m.length ≤ 9223372036854775807:=by omega
   clear ONE
   go_wp2
   go_loopw [11] (fun y wx => ∃ k:Nat,y = .int .i64 ((k:Int) - 1) ∧ k ≤ l.length + 1 ∧ Below w4.heap.size w4 wx) (fun y _ => l.length + 1 - (intOf y + 1).toNat)
   case atStart => exact ⟨0,rfl,Nat.zero_le _,HBY.out⟩
   case round =>
    rename World => wx
    obtain ⟨k,rfl,hk,bX⟩:=hrel
    have HBX:Hid (Below w4.heap.size w4 wx):=bX
    clear bX
    by_cases hlt:k < l.length + 1
    ·have hki:(k:Int) - 1 < (l.length:Int):=by omega
     have h1:=best_any (.pointer (some ⟨tb,0,none⟩)) (Mt.selectorV es) wx q c m ((k:Int) - 1) hml (AM.out wx HBX.out)
     have HR2:Hid (∀ X,Below w4.heap.size w4 X → Calls Tryz.prog 23 #[.pointer (some ⟨rb,0,none⟩),.int .i64 ((k:Int) - 1),.slice q m.length c] X fun r w' => r = .returned (.tuple #[.int .i64 ((bestW (Mt.selectorV es ((k:Int) - 1)) m).1:Nat),.bool (bestW (Mt.selectorV es ((k:Int) - 1)) m).2]) ∧ Below X.heap.size X w'):=fun X hX => refBest_any (.pointer (some ⟨rb,0,none⟩)) (Mt.selectorV es) X q c m ((k:Int) - 1) hml (AR.out X hX)
     generalize (bestW (Mt.selectorV es ((k:Int) - 1)) m).1 = GA at h1 HR2
     generalize (bestW (Mt.selectorV es ((k:Int) - 1)) m).2 = GB at h1 HR2
     obtain ⟨K1,hK1⟩:∃ K1:Int,(k:Int) - 1 = K1:=⟨_,rfl⟩
     rw [hK1] at h1 HR2 hki ⊢
     have HK1:Hid ((k:Int) - 1 = K1 ∧ k ≤ l.length):=⟨hK1,by omega⟩
     have hw1:IntKind.i64.wrap (K1 + 1) = K1 + 1:=by rw [IntKind.wrap_i64];omega
     clear AM AR hK1
     go_wp2_with fail
     refine h1.mono ?_
     clear h1
     rintro r x1 ⟨rfl,a1⟩
     have B1:=below_next HBX.out a1
     have h2:=HR2.out x1 B1
     clear a1 HR2
     go_wp2_with fail
     refine h2.mono ?_
     clear h2
     rintro r x2 ⟨rfl,a2⟩
     have B2:=below_next B1 a2
     clear a2 B1
     cases GB with
     | true =>
      go_wp2
      go_roundw
      case rel => exact ⟨k + 1,by have:=HK1.out;rw [show ((k + 1:Nat):Int) - 1 = K1 + 1 by omega],by have:=HK1.out;omega,B2⟩
      case measure => simp [intOf];have:=HK1.out;omega
     | false =>
      go_wp2
      go_roundw
      case rel => exact ⟨k + 1,by have:=HK1.out;rw [show ((k + 1:Nat):Int) - 1 = K1 + 1 by omega],by have:=HK1.out;omega,B2⟩
      case measure => simp [intOf];have:=HK1.out;omega
    ·have hki:¬ (k:Int) - 1 < (l.length:Int):=by omega
     have b9:=below_next b15 HBX.out
     clear AM AR
     go_wp2
     go_ret
     exact ⟨rfl,b9⟩
theorem weighSelectors_lifted (os:Os) (started:os.Started) (H:Type) (enc:TypeId × Value → H) (F:Stop.Interp) :
  ReturnsInHanded {} Tryz.checked os 6 .any ((Rows.OpenSpec.upto Rows.weighSelectorsSpec).pre6 enc Tryz.prog Tryz.f6 Rows.weighSelectorsUptoRow.domain false) (((Rows.OpenSpec.upto Rows.weighSelectorsSpec).at F).post enc Tryz.prog Tryz.f6 false true false false):=by
 refine Mt.handed_cond_shaped (C:=Tryz.checked) (s:=Rows.OpenSpec.upto Rows.weighSelectorsSpec) (k:=Rows.uptoSmall) rfl ownNone started (by kernel_rfl) Tryz.func6
  (OpenSpec.witness (enc:=enc) (C:=Tryz.checked) (s:=Rows.OpenSpec.upto Rows.weighSelectorsSpec) (k:=Rows.uptoSmall) rfl false ⟨#[],#[.slice none 0 0,.slice none 0 0],[]⟩ 8 (by kernel_rfl) (by kernel_rfl) (by kernel_rfl)
   (x:=([.nil,.nil],[],[])) (by kernel_rfl) rfl (by kernel_rfl)) ?_
 intro W base args ds gs before hval hW hk hsz0 hS
 have hW':=hW
 obtain ⟨p,q,hA0,hV,rfl,hfz,hnd⟩:=hW
 have hA:DataW.TrodAll enc Tryz.prog W 0 (fun _ => true) true Tryz.f6.params.toList args.toList ds p:=hA0
 rw [Tryz.params6] at hA hval hsz0
 obtain ⟨v0,vs0,d0,ds0,p0,q0,hargs,rfl,rfl,h0,r0⟩:=trodAll_cons hA
 obtain ⟨v1,vs1,d1,ds1,p1,q1,rfl,rfl,rfl,h1,r1⟩:=trodAll_cons r0
 obtain ⟨rfl,rfl,rfl⟩:=trodAll_nil r1
 obtain rfl:args = #[v0,v1]:=by cases args;simp_all
 obtain ⟨rfl,rfl⟩:=trodVars_none hV
 have hsz:=List.all_eq_true.1 hsz0
 simp only [List.append_nil] at hk
 obtain ⟨a0,len0,cap0,rfl⟩:=okWide_slice Tryz.underlying22 (hval 0 22 v0 rfl rfl)
 have k0:=h0
 have lt0:∀ x ∈ p0,x.block < W.heap.size:=by obtain ⟨m,hm⟩:=k0;exact DataW.trod_lt m _ _ _ hm
 obtain ⟨z0,w0,y0,u0⟩:=Dm.nodesAt_of_reads k0 (fun n hn => by simpa using hsz n (DataW.weights_mem_each (j:=0) rfl rfl n hn))
 obtain ⟨a1,len1,cap1,rfl⟩:=okWide_slice Tryz.underlying28 (hval 1 28 v1 rfl rfl)
 have k1:=h1
 have lt1:∀ x ∈ p1,x.block < W.heap.size:=by obtain ⟨m,hm⟩:=k1;exact DataW.trod_lt m _ _ _ hm
 obtain ⟨z1,w1,y1⟩:=selswAt_of_reads k1 (fun n hn => by simpa using hsz n (DataW.weights_mem_each (j:=1) rfl rfl n hn))
 have bk1:=Wg.selswUp_of k1 w1 hk (by simp)
 clear hA0
 refine (weighSelectors_walk W (Tryz.laysM144.s1_3 W hS) _ z0 w0 y0 u0 _ z1 w1 y1 bk1).mono fun e W' ⟨he,bel⟩ => ?_
 subst he
 exact ⟨_,rfl,_,_,_,[],_,[],hW',trodAll_mk1 (shut_bool Tryz.underlying4 _),(trodAll_cons_mk (Below.trod laidOut (by kernel_rfl) (of_decide_eq_true (by kernel_rfl)) k0 bel lt0) (trodAll_cons_mk (Below.trod laidOut (by kernel_rfl) (of_decide_eq_true (by kernel_rfl)) k1 bel lt1) trodAll_mk0)),rfl,bel.frame _,fun h => by cases h⟩
theorem weighSelectors_upto:Rows.WeighSelectorsUptoSaid:=
 OpenClaim.holds_of_cond 6 Tryz.f6 rfl rfl rfl rfl rfl rfl rfl ⟨rfl,rfl,rfl,rfl,rfl⟩ rfl rfl rfl rfl rfl (by kernel_rfl) Tryz.func6 (by kernel_rfl)
  (of_decide_eq_true (by kernel_rfl)) (by unfold Func.isWrapper;first | (rw [if_pos (by decide +kernel)];kernel_rfl) | (rw [if_neg (by decide +kernel)];exact ⟨rfl,rfl⟩))
  (fun os started H enc _ F => weighSelectors_lifted os started H enc F)
#print axioms weighSelectors_upto
end Go.Proofs.YtnemagmakgiheaaGreat
