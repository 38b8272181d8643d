/- For all nodes and every text: the law tapestrierlaw10.MatchTexts returns true; no condition. -/
import Derived.Test.YtnemagmakgiheaaGreatTxSels
import Derived.Test.YtnemagmakgiheaaGreatDmArgs
import Derived.Test.YtnemagmakgiheaaGreatRows
import Derived.HandedShaped
set_option maxRecDepth 100000
namespace Go.Proofs.YtnemagmakgiheaaGreat
open Go.Proofs.YtnemagmakgiheaaGreat.Tre
open Go Go.ChangeShapes Go.WideShapes Go.ChangeAt Go.RowKit Dm Mt Wg Pb
open Go.ChangeMaps (open_string shut_string)
set_option maxHeartbeats 8000000 in
theorem matchTexts_walk (w:World) (hM:Mt.ML w) (v0:Value) (l:List Nv) (hl:NodesAt w.heap.size w v0 l) (hN:∀ n ∈ l,NdOk n.nd) (_h88:l.length * 88 ≤ 140737488351232) (s:ByteArray) (_hs:s.size ≤ 281474976710656) :
  Calls Tryz.prog 3 #[v0,.string s] w fun e w' => e = .returned (.bool true) ∧ Below w.heap.size w w':=by
 obtain ⟨p,cap,rfl⟩:=hl.row.len
 have h0:=Mt.alive_any w hM
 have HM:Hid (Mt.ML w):=hM
 have HL:Hid (NodesAt w.heap.size w (.slice p l.length cap) l):=hl
 have HN:Hid (∀ n ∈ l,NdOk n.nd):=hN
 clear hl hN hM
 go_enter Tryz.func3,Tryz.ntmps3
 go_wp2_with fail
 refine h0.mono ?_
 clear h0
 rintro e w1 ⟨rfl,b1⟩
 have ht:=Mt.trees_any _ l w1 (HM.out.next b1) (HL.out.next b1) HN.out
 go_wp2_with fail
 refine ht.mono ?_
 clear ht
 rintro e w4 ⟨hT,b5⟩
 have b15:=below_next b1 b5
 clear b1 b5
 unfold Mt.Trees at hT
 by_cases hs200:s.size ≤ 200
 case neg =>
  have hti':(200:Int) < (s.size:Int):=by omega
  rcases hT with rfl | ⟨tb,rb,b,nv,dv,ns,ds,es,rfl,hG,hR,hE,hel,hl40,hV,hsm⟩
  ·go_wp2
   go_ret
   exact ⟨rfl,b15⟩
  ·clear hG hR hE hV hsm
   go_wp2
   go_ret
   exact ⟨rfl,b15⟩
 have hti:¬ ((200:Int) < (s.size:Int)):=by omega
 rcases hT with rfl | ⟨tb,rb,b,nv,dv,ns,ds,es,rfl,hG,hR,hE,hel,hl40,hV,hsm⟩
 ·go_wp2
  go_ret
  exact ⟨rfl,b15⟩
 have hTA:=(Rf.TE.of_new hR hE hV hsm).1
 obtain ⟨T,hTT⟩:∃ T:Rf.TE,T = Rf.TE.mk b rb nv dv ns ds es:=⟨_,rfl⟩
 rw [← hTT] at hTA
 have hTe:T.es = es:=by rw [hTT]
 have hTp:T.p = .pointer (some ⟨rb,0,none⟩):=by rw [hTT]
 have HG:Hid (Mt.Good w4 tb es):=hG
 have HTA:Hid (T.At w4 ∧ T.es = es ∧ T.p = .pointer (some ⟨rb,0,none⟩)):=⟨hTA,hTe,hTp⟩
 have hsl:=Pb.sels_full s w4 (by omega)
 have hln:l.length ≤ 40:=hl40
 clear hG hR hE hV hsm hl40 hel hTA hTT hTe hTp
 go_wp2_with fail
 refine hsl.mono ?_
 clear hsl
 rintro e w5 ⟨m,y,rfl,hX,b6⟩
 have b16:=below_next b15 b6
 have hmm:=Wg.RowT.short hX.r9
 obtain ⟨q,c,rfl⟩:=Wg.RowT.len hX.r9
 unfold maxLen at hmm
 have hd:=Wg.Dear_deep _ m w5 hX.r11
 have HX:Hid (TxAt w5 (.slice q m.length c) m):=hX
 have H45:Hid (Below w4.heap.size w4 w5):=b6
 clear hX b15 b6
 go_wp2_with fail
 refine hd.mono ?_
 clear hd
 rintro e w6 ⟨much,rfl,HD,b7⟩
 have b17:=below_next b16 b7
 have H46:Hid (Below w4.heap.size w4 w6):=below_next H45.out b7
 have HX6:Hid (TxAt w6 (.slice q m.length c) m):=HX.out.next b7
 clear b16 b7 H45 HX
 cases much with
 | true =>
  go_wp2
  go_ret
  exact ⟨rfl,b17⟩
 | false =>
  have HFD:Hid (FewD 11 m):=HD.out rfl
  have CA:Hid (∀ e:Int,∀ X,Below w6.heap.size w6 X → Calls Tryz.prog 12 #[.pointer (some ⟨tb,0,none⟩),.int .i64 e,.slice q m.length c] X fun r w' => r = .returned (.bool (Mt.givenV es e m)) ∧ Below X.heap.size X w'):=fun e X hX =>
   (HG.out.next (below_next H46.out hX)).given e 11 _ m (Mt.sels_of 11 _ m (HX6.out.next hX).r11 HFD.out HX6.out.wd)
  have RA:Hid (∀ e:Int,∀ X,Below w6.heap.size w6 X → Calls Tryz.prog 13 #[.pointer (some ⟨rb,0,none⟩),.int .i64 e,.slice q m.length c] X fun r w' => r = .returned (.bool (Mt.givenV es e m)) ∧ Below X.heap.size X w'):=fun e X hX => by
   obtain ⟨t1,t2,t3⟩:=HTA.out
   have h:=Pb.refAny_any T m _ e X (t1.next (below_next H46.out hX)) (HX6.out.next hX)
   rw [t2,t3] at h
   exact h
  -- one selector of them
  have ONE:Hid (∀ (k:Nat) (x:Sel),m[k]? = some x → ∃ (bk off:Nat) (xp:Option Addr) (xc:Nat),q = some ⟨bk,off,none⟩ ∧ m.length ≤ c ∧ c ≤ 9223372036854775807 ∧ (∀ X,Below w6.heap.size w6 X → X.cell? ⟨bk,off + k,none⟩ = some (.slice xp x.length xc)) ∧
    (∀ e:Int,∀ X,Below w6.heap.size w6 X → Calls Tryz.prog 14 #[.pointer (some ⟨tb,0,none⟩),.int .i64 e,.agg #[.slice xp x.length xc]] X fun r w' => r = .returned (.bool (Mt.selectorV es e x)) ∧ Below X.heap.size X w') ∧
    (∀ e:Int,∀ X,Below w6.heap.size w6 X → Calls Tryz.prog 15 #[.pointer (some ⟨rb,0,none⟩),.int .i64 e,.agg #[.slice xp x.length xc]] X fun r w' => r = .returned (.bool (Mt.selectorV es e x)) ∧ Below X.heap.size X w')):=fun k x hk => by
   obtain ⟨t1,t2,t3⟩:=HTA.out
   have hx:=HX6.out
   have hfew:=HFD.out
   have hwd:=hx.wd
   unfold FewD at hfew
   unfold WD at hwd
   obtain ⟨bk,off,xv,e1,hbk,g1,g2,hp9,y0⟩:=SelsR.get hx.r9 hk
   obtain ⟨bk',off',xv',e2,_,_,_,hp11,y0'⟩:=SelsR.get hx.r11 hk
   rw [e1] at e2
   cases e2
   rw [y0] at y0'
   cases y0'
   obtain ⟨xp,xc,rfl⟩:=Wg.RowT.len hp9
   have hmem:=List.mem_of_getElem? hk
   have hft:FewT 10 x:=⟨(hfew x hmem).1,fun p hp => ⟨((hfew x hmem).2 p hp).1,((hfew x hmem).2 p hp).2⟩⟩
   have hsw:SW 10 x:=fun p hp => ⟨(hwd.2 x hmem p hp).1,(hwd.2 x hmem p hp).2.1,(hwd.2 x hmem p hp).2.2⟩
   refine ⟨bk,off,xp,xc,e1,g1,by unfold maxLen at g2;omega,fun X hX => (hX.cell (p:=⟨bk,off + k,none⟩) hbk).trans y0,fun e X hX => (HG.out.next (below_next H46.out hX)).sel e 10 _ x (Mt.parts_of (PartsR.next hp11 hX) hft hsw),fun e X hX => ?_⟩
   have h:=Rf.selector_any T x (.slice xp x.length xc) e X (t1.next (below_next H46.out hX)) (PartsR.next hp9 hX) (hx.ok x hmem)
   rw [same_plain,t2,t3] at h
   exact h
  clear HG HTA HX6 HFD HD HM HL HN H46 T
  go_wp2
  go_loopw [11] (fun y wr => ∃ k:Nat,y = .int .i64 k ∧ k ≤ l.length ∧ Below w6.heap.size w6 wr) (fun y _ => l.length - (intOf y).toNat)
  case atStart => exact ⟨0,rfl,Nat.zero_le _,Below.refl _ _⟩
  case round =>
   obtain ⟨k,rfl,hk,bw⟩:=hrel
   have HBW:Hid (Below w6.heap.size w6 wr):=bw
   clear bw
   by_cases hlt:k < l.length
   ·have hki:(k:Int) < (l.length:Int):=by omega
    have hca:=CA.out k wr HBW.out
    have RA2:Hid (∀ X,Below w6.heap.size w6 X → Calls Tryz.prog 13 #[.pointer (some ⟨rb,0,none⟩),.int .i64 (k:Int),.slice q m.length c] X fun r w' => r = .returned (.bool (Mt.givenV es k m)) ∧ Below X.heap.size X w'):=RA.out k
    generalize Mt.givenV es (k:Int) m = GV at *
    go_wp2_with fail
    refine hca.mono ?_
    clear hca
    rintro r x1 ⟨rfl,a1⟩
    have B1:=below_next HBW.out a1
    have hra:=RA2.out x1 B1
    clear a1 RA2
    go_wp2_with fail
    refine hra.mono ?_
    clear hra
    rintro r x2 ⟨rfl,a2⟩
    have HB2:Hid (Below w6.heap.size w6 x2):=below_next B1 a2
    clear a2 B1
    go_upto_if 51 with fail
    go_cut [52] (fun _ wx => wx = x2)
    case first =>
     cases GV with
     | true =>
      go_wp2
      go_meet
      rfl
     | false =>
      go_wp2
      go_meet
      rfl
    case rest =>
    rename World => x3
    subst hcut
    go_wp2
    go_loopw [12] (fun y wy => ∃ i:Nat,y = .int .i64 i ∧ i ≤ m.length ∧ Below w6.heap.size w6 wy) (fun y _ => m.length - (intOf y).toNat)
    case atStart => exact ⟨0,rfl,Nat.zero_le _,HB2.out⟩
    case round =>
     rename World => wy
     obtain ⟨i,rfl,hi,bY⟩:=hrel
     have HBY:Hid (Below w6.heap.size w6 wy):=bY
     clear bY
     by_cases hil:i < m.length
     ·have hii:(i:Int) < (m.length:Int):=by omega
      obtain ⟨x,hx⟩:∃ x,m[i]? = some x:=⟨_,List.getElem?_eq_getElem hil⟩
      obtain ⟨bk,off,xp,xc,rfl,g1,g2,hc,hsm,hsr⟩:=ONE.out i x hx
      obtain ⟨V,hV⟩:∃ V,Mt.selectorV es (k:Int) x = V:=⟨_,rfl⟩
      have HC:Hid (∀ X,Below wy.heap.size wy X → X.cell? ⟨bk,off + i,none⟩ = some (.slice xp x.length xc)):=fun X hX => hc X (below_next HBY.out hX)
      have HSM:Hid (∀ X,Below wy.heap.size wy X → Calls Tryz.prog 14 #[.pointer (some ⟨tb,0,none⟩),.int .i64 (k:Int),.agg #[.slice xp x.length xc]] X fun r w' => r = .returned (.bool V) ∧ Below X.heap.size X w'):=fun X hX => by
       have h:=hsm k X (below_next HBY.out hX)
       rwa [hV] at h
      have HSR:Hid (∀ X,Below wy.heap.size wy X → Calls Tryz.prog 15 #[.pointer (some ⟨rb,0,none⟩),.int .i64 (k:Int),.agg #[.slice xp x.length xc]] X fun r w' => r = .returned (.bool V) ∧ Below X.heap.size X w'):=fun X hX => by
       have h:=hsr k X (below_next HBY.out hX)
       rwa [hV] at h
      clear hc hsm hsr hx hV CA RA ONE
      go_upto_region 17 with fail
      go_cut [72] (fun y wz => y = .bool false ∧ Below wy.heap.size wy wz)
      case first =>
       refine Rg.wpD_begin [0,1,2,3,4,5,6,7,8,9,10,11,12,13] (fun X => X.cell? ⟨bk,off + i,none⟩ = some (.slice xp x.length xc)) (by kernel_rfl) ?_
       have q0:Below wy.heap.size wy wy.drew:=below_drew (Below.refl _ _)
       have HeldS:=HC.out _ q0
       refine Rg.ld 0 HeldS ?_
       simp only [Act.put,Rg.sA,Rg.sB,Rg.sC]
       refine Rg.ld 1 HeldS ?_
       simp only [Act.put,Rg.sA,Rg.sB,Rg.sC]
       refine Rg.ld 2 HeldS ?_
       simp only [Act.put,Rg.sA,Rg.sB,Rg.sC]
       refine Rg.ld 3 HeldS ?_
       simp only [Act.put,Rg.sA,Rg.sB,Rg.sC]
       refine Rg.ld 4 HeldS ?_
       simp only [Act.put,Rg.sA,Rg.sB,Rg.sC]
       refine Rg.ld 5 HeldS ?_
       simp only [Act.put,Rg.sA,Rg.sB,Rg.sC]
       refine Rg.ld 7 HeldS ?_
       simp only [Act.put,Rg.sA,Rg.sB,Rg.sC]
       refine Rg.ld 8 HeldS ?_
       simp only [Act.put,Rg.sA,Rg.sB,Rg.sC]
       refine Rg.ld 9 HeldS ?_
       simp only [Act.put,Rg.sA,Rg.sB,Rg.sC]
       refine Rg.ld 10 HeldS ?_
       simp only [Act.put,Rg.sA,Rg.sB,Rg.sC]
       refine Rg.ld 11 HeldS ?_
       simp only [Act.put,Rg.sA,Rg.sB,Rg.sC]
       refine Rg.ld 12 HeldS ?_
       simp only [Act.put,Rg.sA,Rg.sB,Rg.sC]
       refine Rg.dd 6 fun K hK => ?_
       go_simp
       go_at_call 14
       refine Calls.mono (HSM.out _ q0) ?_
       rintro r Z1 ⟨rfl,a1⟩
       have q1:=below_next q0 a1
       refine hK _ _ (fun _ => HC.out _ q1) ?_
       clear hK K HeldS
       refine Rg.dd 13 fun K hK => ?_
       go_simp
       go_at_call 15
       refine Calls.mono (HSR.out _ q1) ?_
       rintro r Z2 ⟨rfl,a2⟩
       have q2:=below_next q1 a2
       refine hK _ _ (fun _ => HC.out _ q2) ?_
       clear hK K
       refine Rg.pu 14 ?_
       simp only [Act.put,Rg.sA,Rg.sB,Rg.sC]
       refine Rg.wpD_done (by kernel_rfl) ?_
       go_wp2
       go_meet
       exact ⟨by simp,q2⟩
      case rest =>
       rename World => wz
       obtain ⟨rfl,bZ⟩:=hcut
       have b9:=below_next HBY.out bZ
       go_wp2
       go_roundw
       case rel => exact ⟨i + 1,by go_num,by omega,b9⟩
       case measure => simp [intOf];omega
     ·have hii:¬ (i:Int) < (m.length:Int):=by omega
      have b9:=HBY.out
      clear CA RA ONE
      go_wp2
      go_roundw
      case rel => exact ⟨k + 1,by go_num,by omega,b9⟩
      case measure => simp [intOf];omega
   ·have hki:¬ (k:Int) < (l.length:Int):=by omega
    have b9:=below_next b17 HBW.out
    clear CA RA ONE
    go_wp2
    go_ret
    exact ⟨rfl,b9⟩
theorem matchTexts_lifted (os:Os) (started:os.Started) (H:Type) (enc:TypeId × Value → H) :
  ReturnsInHanded {} Tryz.checked os 3 .any (Rows.matchTextsSpec.pre6 enc Tryz.prog Tryz.f3 Rows.matchTextsRow.domain false) (Rows.matchTextsSpec.post enc Tryz.prog Tryz.f3 false true false false):=by
 refine returnsInHanded_of_change_shaped (C:=Tryz.checked) ownNone started (by kernel_rfl) Tryz.func3
  (ChangeSpec.witness6 (enc:=enc) (C:=Tryz.checked) false ⟨#[],#[.slice none 0 0,.string ⟨#[]⟩],[]⟩ 8 (by kernel_rfl) (by kernel_rfl) (by kernel_rfl) (by kernel_rfl)) ?_
 intro W base args ds gs before hval hW _ hsz0 hS _
 have hW':=hW
 obtain ⟨p,q,hA0,hV,rfl,hfz,hnd⟩:=hW
 have hA:DataW.TrodAll enc Tryz.prog W 0 (fun _ => true) true Tryz.f3.params.toList args.toList ds p:=hA0
 rw [Tryz.params3] at hA hval hsz0
 obtain ⟨v0,vs0,d0,ds0,p0,q0,hargs,rfl,rfl,h0,r0⟩:=trodAll_cons hA
 obtain ⟨v1,vs1,d1,ds1,p1,q1,rfl,rfl,rfl,h1,r1⟩:=trodAll_cons r0
 obtain ⟨rfl,rfl,rfl⟩:=trodAll_nil r1
 obtain rfl:args = #[v0,v1]:=by cases args;simp_all
 obtain ⟨rfl,rfl⟩:=trodVars_none hV
 have hsz:=List.all_eq_true.1 hsz0
 obtain ⟨a0,len0,cap0,rfl⟩:=okWide_slice Tryz.underlying22 (hval 0 22 v0 rfl rfl)
 have k0:=h0
 have lt0:∀ x ∈ p0,x.block < W.heap.size:=by obtain ⟨m,hm⟩:=k0;exact DataW.trod_lt m _ _ _ hm
 obtain ⟨z0,w0,y0,u0⟩:=Dm.nodesAt_of_reads k0 (fun n hn => by simpa using hsz n (DataW.weights_mem_each (j:=0) rfl rfl n hn))
 obtain ⟨s1,rfl,rfl,rfl,w1⟩:=open_string Tryz.underlying9 (hval 1 9 v1 rfl rfl) h1
 have y1:s1.size ≤ 281474976710656:=short_string (by simpa using hsz s1.data.toList.length (DataW.weights_mem_each (j:=1) rfl rfl _ (by simp [DataW.weights])))
 clear hA0
 refine (matchTexts_walk W (Tryz.laysM144.s1_3 W hS) _ z0 w0 y0 u0 s1 y1).mono fun e W' ⟨he,bel⟩ => ?_
 subst he
 exact ⟨_,rfl,_,_,_,[],_,[],hW',trodAll_mk1 (shut_bool Tryz.underlying4 _),(trodAll_cons_mk (Below.trod laidOut (by kernel_rfl) (of_decide_eq_true (by kernel_rfl)) k0 bel lt0) (trodAll_cons_mk (shut_string Tryz.underlying9 w1) trodAll_mk0)),rfl,bel.frame _,fun h => by cases h⟩
theorem matchTexts_said:Rows.MatchTextsSaid:=
 OpenClaim.holds_of_wide 3 Tryz.f3 rfl rfl rfl rfl rfl rfl rfl ⟨rfl,rfl,rfl,rfl,rfl⟩ rfl rfl rfl rfl rfl (by kernel_rfl) Tryz.func3 (by kernel_rfl)
  (of_decide_eq_true (by kernel_rfl)) (by unfold Func.isWrapper;first | (rw [if_pos (by decide +kernel)];kernel_rfl) | (rw [if_neg (by decide +kernel)];exact ⟨rfl,rfl⟩))
  (fun os started H enc _ => matchTexts_lifted os started H enc)
#print axioms matchTexts_said
end Go.Proofs.YtnemagmakgiheaaGreat
