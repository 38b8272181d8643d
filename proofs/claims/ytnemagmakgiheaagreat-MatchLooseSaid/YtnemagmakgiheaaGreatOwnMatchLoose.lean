/- For all nodes and every text: the law tapestrierlaw10.MatchLoose returns true; no condition. -/
import Derived.Test.YtnemagmakgiheaaGreatTxSels
import Derived.Test.YtnemagmakgiheaaGreatMtLoose
import Derived.Test.YtnemagmakgiheaaGreatDmArgs
import Derived.Test.YtnemagmakgiheaaGreatRows
import Derived.HandedShaped
set_option maxRecDepth 100000
namespace Go.Proofs.YtnemagmakgiheaaGreat
open Go.Proofs.YtnemagmakgiheaaGreat.Tre
open Go Go.ChangeShapes Go.WideShapes Go.ChangeAt Go.RowKit Dm Mt Wg Pb
open Go.ChangeMaps (open_string shut_string)
set_option maxHeartbeats 8000000 in
theorem matchLoose_walk (w:World) (hM:Mt.ML w) (v0:Value) (l:List Nv) (hl:NodesAt w.heap.size w v0 l) (hN:∀ n ∈ l,NdOk n.nd) (_h88:l.length * 88 ≤ 140737488351232) (s:ByteArray) (_hs:s.size ≤ 281474976710656) :
  Calls Tryz.prog 5 #[v0,.string s] w fun e w' => e = .returned (.bool true) ∧ Below w.heap.size w w':=by
 obtain ⟨p,cap,rfl⟩:=hl.row.len
 have h0:=Mt.alive_any w hM
 have HM:Hid (Mt.ML w):=hM
 have HL:Hid (NodesAt w.heap.size w (.slice p l.length cap) l):=hl
 have HN:Hid (∀ n ∈ l,NdOk n.nd):=hN
 clear hl hN hM
 go_enter Tryz.func5,Tryz.ntmps5
 go_wp2_with fail
 refine h0.mono ?_
 clear h0
 rintro e w1 ⟨rfl,b1⟩
 have ht:=Mt.trees_any _ l w1 (HM.out.next b1) (HL.out.next b1) HN.out
 go_wp2_with fail
 refine ht.mono ?_
 clear ht
 rintro e w4 ⟨hT,b5⟩
 have b15:=below_next b1 b5
 clear b1 b5
 unfold Mt.Trees at hT
 by_cases hs200:s.size ≤ 200
 case neg =>
  have hti':(200:Int) < (s.size:Int):=by omega
  rcases hT with rfl | ⟨tb,rb,b,nv,dv,ns,ds,es,rfl,hG,hR,hE,hel,hl40,hV,hsm⟩
  ·go_wp2
   go_ret
   exact ⟨rfl,b15⟩
  ·clear hG hR hE hV hsm
   go_wp2
   go_ret
   exact ⟨rfl,b15⟩
 have hti:¬ ((200:Int) < (s.size:Int)):=by omega
 rcases hT with rfl | ⟨tb,rb,b,nv,dv,ns,ds,es,rfl,hG,hR,hE,hel,hl40,hV,hsm⟩
 ·go_wp2
  go_ret
  exact ⟨rfl,b15⟩
 have HG:Hid (Mt.Good w4 tb es):=hG
 have hsl:=Pb.sels_full s w4 (by omega)
 have hln:l.length ≤ 40:=hl40
 clear hG hR hE hV hsm hl40 hel
 go_wp2_with fail
 refine hsl.mono ?_
 clear hsl
 rintro e w5 ⟨m,y,rfl,hX,b6⟩
 have b16:=below_next b15 b6
 have hmm:=Wg.RowT.short hX.r9
 obtain ⟨q,c,rfl⟩:=Wg.RowT.len hX.r9
 unfold maxLen at hmm
 have hd:=Wg.Dear_deep _ m w5 hX.r11
 have HX:Hid (TxAt w5 (.slice q m.length c) m):=hX
 have H45:Hid (Below w4.heap.size w4 w5):=b6
 clear hX b15 b6
 go_wp2_with fail
 refine hd.mono ?_
 clear hd
 rintro e w6 ⟨much,rfl,HD,b7⟩
 have b17:=below_next b16 b7
 have H46:Hid (Below w4.heap.size w4 w6):=below_next H45.out b7
 have HX6:Hid (TxAt w6 (.slice q m.length c) m):=HX.out.next b7
 clear b16 b7 H45 HX
 cases much with
 | true =>
  go_wp2
  go_ret
  exact ⟨rfl,b17⟩
 | false =>
  have HFD:Hid (FewD 11 m):=HD.out rfl
  have ONE:Hid (∀ (k:Nat) (x:Sel),m[k]? = some x → ∃ (bk off:Nat) (xp:Option Addr) (xc:Nat),q = some ⟨bk,off,none⟩ ∧ m.length ≤ c ∧ c ≤ 9223372036854775807 ∧ (∀ X,Below w6.heap.size w6 X → X.cell? ⟨bk,off + k,none⟩ = some (.slice xp x.length xc)) ∧
    PartsR 10 w6.heap.size w6 (.slice xp x.length xc) x ∧ x.length ≤ 60 ∧
    (∀ e:Int,∀ X,Below w6.heap.size w6 X → Calls Tryz.prog 14 #[.pointer (some ⟨tb,0,none⟩),.int .i64 e,.agg #[.slice xp x.length xc]] X fun r w' => r = .returned (.bool (Mt.selectorV es e x)) ∧ Below X.heap.size X w') ∧
    (∀ v:Value,∀ e:Int,∀ X,Below w6.heap.size w6 X → PartsR 10 X.heap.size X v (looseS x) → Calls Tryz.prog 14 #[.pointer (some ⟨tb,0,none⟩),.int .i64 e,.agg #[v]] X fun r w' => r = .returned (.bool (Mt.selectorV es e (looseS x))) ∧ Below X.heap.size X w') ∧
    ∀ e:Int,Mt.selectorV es e x = true → Mt.selectorV es e (looseS x) = true):=fun k x hk => by
   have hx:=HX6.out
   have hfew:=HFD.out
   have hwd:=hx.wd
   unfold FewD at hfew
   unfold WD at hwd
   obtain ⟨bk,off,xv,e2,hbk,g1,g2,hp11,y0⟩:=SelsR.get hx.r11 hk
   obtain ⟨xp,xc,rfl⟩:=Wg.RowT.len hp11
   have hmem:=List.mem_of_getElem? hk
   have hft:FewT 10 x:=⟨(hfew x hmem).1,fun p hp => ⟨((hfew x hmem).2 p hp).1,((hfew x hmem).2 p hp).2⟩⟩
   have hsw:SW 10 x:=fun p hp => ⟨(hwd.2 x hmem p hp).1,(hwd.2 x hmem p hp).2.1,(hwd.2 x hmem p hp).2.2⟩
   exact ⟨bk,off,xp,xc,e2,g1,by unfold maxLen at g2;omega,fun X hX => (hX.cell (p:=⟨bk,off + k,none⟩) hbk).trans y0,hp11,hft.1,
    fun e X hX => (HG.out.next (below_next H46.out hX)).sel e 10 _ x (Mt.parts_of (PartsR.next hp11 hX) hft hsw),
    fun v e X hX hv => (HG.out.next (below_next H46.out hX)).sel e 10 _ (looseS x) (Mt.parts_of hv (loose_few hft) (loose_wd hsw)),
    fun e h => loose_sel HG.out.ok e x h⟩
  clear HG HX6 HFD HD HM HL HN H46
  go_wp2
  go_loopw [11] (fun y wr => ∃ k:Nat,y = .int .i64 k ∧ k ≤ m.length ∧ Below w6.heap.size w6 wr) (fun y _ => m.length - (intOf y).toNat)
  case atStart => exact ⟨0,rfl,Nat.zero_le _,Below.refl _ _⟩
  case round =>
   obtain ⟨k,rfl,hk,bw⟩:=hrel
   have HBW:Hid (Below w6.heap.size w6 wr):=bw
   clear bw
   by_cases hlt:k < m.length
   ·have hki:(k:Int) < (m.length:Int):=by omega
    obtain ⟨x,hx⟩:∃ x,m[k]? = some x:=⟨_,List.getElem?_eq_getElem hlt⟩
    obtain ⟨bk,off,xp,xc,rfl,g1,g2,hc,hpr,h60,hsm,hsl,himp⟩:=ONE.out k x hx
    have HC:Hid (∀ X,Below wr.heap.size wr X → X.cell? ⟨bk,off + k,none⟩ = some (.slice xp x.length xc)):=fun X hX => hc X (below_next HBW.out hX)
    have HPR:Hid (PartsR 10 w6.heap.size w6 (.slice xp x.length xc) x):=hpr
    have HSM:Hid (∀ e:Int,∀ X,Below wr.heap.size wr X → Calls Tryz.prog 14 #[.pointer (some ⟨tb,0,none⟩),.int .i64 e,.agg #[.slice xp x.length xc]] X fun r w' => r = .returned (.bool (Mt.selectorV es e x)) ∧ Below X.heap.size X w'):=fun e X hX => hsm e X (below_next HBW.out hX)
    have HSL:Hid (∀ v:Value,∀ e:Int,∀ X,Below wr.heap.size wr X → PartsR 10 X.heap.size X v (looseS x) → Calls Tryz.prog 14 #[.pointer (some ⟨tb,0,none⟩),.int .i64 e,.agg #[v]] X fun r w' => r = .returned (.bool (Mt.selectorV es e (looseS x))) ∧ Below X.heap.size X w'):=fun v e X hX => hsl v e X (below_next HBW.out hX)
    have HIM:Hid (∀ e:Int,Mt.selectorV es e x = true → Mt.selectorV es e (looseS x) = true):=himp
    have hxl:x.length ≤ 9223372036854775807:=by omega
    obtain ⟨W1,hW1⟩:∃ W1,wr.alloc (.cells #[.slice none 0 0] 36) = W1:=⟨_,rfl⟩
    have START:Hid (Ls w6 wr W1 (.slice none 0 0) []):=by
     rw [← hW1]
     exact Ls.new w6 wr
    clear hc hpr hsm hsl himp hx ONE
    go_upto_region 13 with fail
    clear hW1
    go_wp2
    go_loopw [13] (fun y wz => ∃ (j:Nat) (cv:Value),y = .int .i64 j ∧ j ≤ x.length ∧ Hid (Ls w6 wr wz cv (looseS (x.take j)))) (fun y _ => x.length - (intOf y).toNat)
    case atStart => exact ⟨0,_,rfl,Nat.zero_le _,START⟩
    case round =>
     rename World => wz
     clear START
     obtain ⟨j,cv,rfl,hj,HLS⟩:=hrel
     have y0:=HC.out wz HLS.out.low
     by_cases hjl:j < x.length
     ·have hji:(j:Int) < (x.length:Int):=by omega
      obtain ⟨p,hp⟩:∃ p,x[j]? = some p:=⟨_,List.getElem?_eq_getElem hjl⟩
      have HTK:Hid (looseS (x.take (j + 1)) = looseS (x.take j) ++ [looseP p]):=by
       show _ = _
       unfold looseS
       rw [List.take_add_one,hp,List.map_append]
       rfl
      have htl:(looseS (x.take j)).length ≤ 1000:=by
       unfold looseS
       rw [List.length_map,List.length_take]
       omega
      obtain ⟨pb,po,vi,vk,va,vp,hq,hpb,hc1,hc2,⟨z0,z1,z2,z3,z4,z5⟩,r1,r2,r3,r4⟩:=PartsR.get HPR.out hp
      subst hq
      have HQ:Hid (CpC (SelsR 10 w6.heap.size w6) w6.heap.size w6 [.string p.2.tag,vi,vk,va,vp] p.2):=⟨vi,vk,va,vp,rfl,r1,r2,r3,r4⟩
      obtain ⟨q1,m1,rfl⟩:=r1.len
      obtain ⟨q2,m2,rfl⟩:=r2.len
      obtain ⟨q3,m3,rfl⟩:=r3.len
      obtain ⟨q4,m4,rfl⟩:=r4.len
      clear r1 r2 r3 r4 hp
      unfold maxLen at hc2
      have b6z:=below_next HBW.out HLS.out.low
      have t0:=(b6z.cell (p:=⟨pb,po + j * 6,none⟩) hpb).trans z0
      have t1:=(b6z.cell (p:=⟨pb,po + j * 6 + 1,none⟩) hpb).trans z1
      have t2:=(b6z.cell (p:=⟨pb,po + j * 6 + 2,none⟩) hpb).trans z2
      have t3:=(b6z.cell (p:=⟨pb,po + j * 6 + 3,none⟩) hpb).trans z3
      have t4:=(b6z.cell (p:=⟨pb,po + j * 6 + 4,none⟩) hpb).trans z4
      have t5:=(b6z.cell (p:=⟨pb,po + j * 6 + 5,none⟩) hpb).trans z5
      clear z0 z1 z2 z3 z4 z5 b6z
      obtain ⟨A1,hA1⟩:∃ A1,wz.alloc (.cells #[.int .i64 p.1,.string p.2.tag,.slice q1 p.2.ids.length m1,.slice q2 p.2.classes.length m2,.slice q3 p.2.attrs.length m3,.slice q4 p.2.pss.length m4] 48) = A1:=⟨_,rfl⟩
      have kA1:Hid (Blk A1 wz.heap.size 48 [.int .i64 p.1,.string p.2.tag,.slice q1 p.2.ids.length m1,.slice q2 p.2.classes.length m2,.slice q3 p.2.attrs.length m3,.slice q4 p.2.pss.length m4] ∧ Below wz.heap.size wz A1):=by
       rw [← hA1]
       exact ⟨Blk.new wz _ _,(Below.refl _ _).alloc (Nat.le_refl _) _⟩
      go_upto_region 17 with fail
      clear hA1 t0 t1 t2 t3 t4 t5 y0
      obtain ⟨⟨v0,_⟩,f0⟩:=blk6L kA1.out.1
      go_upto_block 4 with fail
      go_cut [66,67,68,69,70,71] (fun _ _ _ _ _ _ wx => Hid (Blk wx wz.heap.size 48 [.int .i64 (looseK p.1),.string p.2.tag,.slice q1 p.2.ids.length m1,.slice q2 p.2.classes.length m2,.slice q3 p.2.attrs.length m3,.slice q4 p.2.pss.length m4] ∧ Below wz.heap.size wz wx))
      case first =>
       by_cases e2:p.1 = 2
       ·have FIN:Hid (Blk (A1.setCell ⟨wz.heap.size,0,none⟩ (.int .i64 1)) wz.heap.size 48 [.int .i64 (looseK p.1),.string p.2.tag,.slice q1 p.2.ids.length m1,.slice q2 p.2.classes.length m2,.slice q3 p.2.attrs.length m3,.slice q4 p.2.pss.length m4] ∧ Below wz.heap.size wz (A1.setCell ⟨wz.heap.size,0,none⟩ (.int .i64 1))):=
         ⟨by rw [show looseK p.1 = 1 by rw [e2];rfl];exact blk_put kA1.out.1 0 (.int .i64 1),Dm.below_grown kA1.out.2 (grown_set A1 wz.heap.size 0 (.int .i64 1)) kA1.out.2.size (Nat.le_refl _)⟩
        go_wp2
        go_meet
        exact FIN
       ·by_cases e3:p.1 = 3
        ·have FIN:Hid (Blk (A1.setCell ⟨wz.heap.size,0,none⟩ (.int .i64 4)) wz.heap.size 48 [.int .i64 (looseK p.1),.string p.2.tag,.slice q1 p.2.ids.length m1,.slice q2 p.2.classes.length m2,.slice q3 p.2.attrs.length m3,.slice q4 p.2.pss.length m4] ∧ Below wz.heap.size wz (A1.setCell ⟨wz.heap.size,0,none⟩ (.int .i64 4))):=
          ⟨by rw [show looseK p.1 = 4 by rw [e3];rfl];exact blk_put kA1.out.1 0 (.int .i64 4),Dm.below_grown kA1.out.2 (grown_set A1 wz.heap.size 0 (.int .i64 4)) kA1.out.2.size (Nat.le_refl _)⟩
         go_wp2
         go_meet
         exact FIN
        ·have FIN:Hid (Blk A1 wz.heap.size 48 [.int .i64 (looseK p.1),.string p.2.tag,.slice q1 p.2.ids.length m1,.slice q2 p.2.classes.length m2,.slice q3 p.2.attrs.length m3,.slice q4 p.2.pss.length m4] ∧ Below wz.heap.size wz A1):=by
          rw [show looseK p.1 = p.1 by unfold looseK;rw [if_neg e2,if_neg e3]]
          exact kA1.out
         go_wp2
         go_meet
         exact FIN
      case rest =>
       rename World => wx
       obtain ⟨A3,hA3⟩:∃ A3,wx.alloc (.cells #[.int .i64 (looseK p.1),.string p.2.tag,.slice q1 p.2.ids.length m1,.slice q2 p.2.classes.length m2,.slice q3 p.2.attrs.length m3,.slice q4 p.2.pss.length m4] 48) = A3:=⟨_,rfl⟩
       have b3:Below wz.heap.size wz A3:=by rw [← hA3];exact hcut.out.2.alloc hcut.out.2.size _
       have k3:Blk A3 wx.heap.size 48 [.int .i64 (looseK p.1),.string p.2.tag,.slice q1 p.2.ids.length m1,.slice q2 p.2.classes.length m2,.slice q3 p.2.attrs.length m3,.slice q4 p.2.pss.length m4]:=by rw [← hA3];exact Blk.new wx _ _
       obtain ⟨v',Y,hap,kY,HLS2⟩:=Ls.app (q:=looseP p) HLS.out b3 k3 rfl ⟨_,rfl,HQ.out⟩ htl
       obtain ⟨qz,cz,hvz⟩:=HLS2.own.form
       obtain ⟨nz,hnz⟩:∃ nz,(looseS (x.take j) ++ [looseP p]).length = nz:=⟨_,rfl⟩
       rw [hnz] at hvz
       subst hvz
       have HAP:Hid (_ = _):=hap
       have HL2:Hid (Ls w6 wr (Y.setCell ⟨wr.heap.size,0,none⟩ (.slice qz nz cz)) (.slice qz nz cz) (looseS (x.take (j + 1)))):=by
        rw [HTK.out]
        exact HLS2
       obtain ⟨y1,_⟩:=blk1 (HLS.out.blk.next hcut.out.2)
       obtain ⟨⟨v0,v1,v2,v3,v4,v5⟩,_⟩:=blk6L hcut.out.1
       obtain ⟨y2,y3⟩:=blk1 kY
       clear hap HLS2 b3 k3 kY HLS kA1 hnz
       go_wp2_with (at_builtin;refine wpList_plain rfl fun K hK => ?_;refine opw_app _ _ 34 rfl rfl rfl HAP.out (hK _ _ ?_))
       go_roundw
       case rel => exact ⟨j + 1,_,by go_num,by omega,HL2⟩
       case measure => simp [intOf];omega
     ·have hji:¬ (j:Int) < (x.length:Int):=by omega
      have hfull:looseS (x.take j) = looseS x:=by rw [List.take_of_length_le (by omega)]
      rw [hfull] at HLS
      have HLP:Hid (∀ X,Below wz.heap.size wz X → PartsR 10 X.heap.size X cv (looseS x) ∧ Below wr.heap.size wr X ∧ X.cell? ⟨wr.heap.size,0,none⟩ = some cv):=fun X hX => ⟨PartsR.next (HLS.out.parts (below_next HBW.out HLS.out.low)) hX,below_next HLS.out.low hX,(blk1 (HLS.out.blk.next hX)).1⟩
      obtain ⟨qv,cvp,rfl⟩:=Wg.RowT.len (HLP.out wz (Below.refl _ _)).1
      have HZ:Hid (Below wr.heap.size wr wz):=HLS.out.low
      clear HLS
      go_wp2
      go_loopw [15] (fun y wy => ∃ n:Nat,y = .int .i64 n ∧ n ≤ l.length ∧ Below wz.heap.size wz wy) (fun y _ => l.length - (intOf y).toNat)
      case atStart => exact ⟨0,rfl,Nat.zero_le _,Below.refl _ _⟩
      case round =>
       rename World => wy
       obtain ⟨n,rfl,hn,bY⟩:=hrel
       have HBY:Hid (Below wz.heap.size wz wy):=bY
       clear bY
       by_cases hnl:n < l.length
       ·have hni:(n:Int) < (l.length:Int):=by omega
        obtain ⟨V,hV⟩:∃ V,Mt.selectorV es (n:Int) x = V:=⟨_,rfl⟩
        obtain ⟨U,hU⟩:∃ U,Mt.selectorV es (n:Int) (looseS x) = U:=⟨_,rfl⟩
        have HVU:Hid (V = true → U = true):=by
         have h:=HIM.out (n:Int)
         rw [hV,hU] at h
         exact h
        have h1:=HSM.out (n:Int) wy (below_next HZ.out HBY.out)
        rw [hV] at h1
        have h2:=fun X hX => HSL.out (.slice qv (looseS x).length cvp) (n:Int) X (HLP.out X hX).2.1 (HLP.out X hX).1
        rw [hU] at h2
        have HH2:Hid (∀ X,Below wz.heap.size wz X → Calls Tryz.prog 14 #[.pointer (some ⟨tb,0,none⟩),.int .i64 (n:Int),.agg #[.slice qv (looseS x).length cvp]] X fun r w' => r = .returned (.bool U) ∧ Below X.heap.size X w'):=h2
        have z0:=HC.out wy (below_next HZ.out HBY.out)
        have z1:=(HLP.out wy HBY.out).2.2
        clear h2 hV hU HSM HSL HIM
        go_wp2_with fail
        refine h1.mono ?_
        clear h1
        rintro r x1 ⟨rfl,a1⟩
        have B1:=below_next HBY.out a1
        clear z0 z1
        cases V with
        | false =>
         go_wp2
         go_roundw
         case rel => exact ⟨n + 1,by go_num,by omega,B1⟩
         case measure => simp [intOf];omega
        | true =>
         obtain rfl:U = true:=HVU.out rfl
         have z1:=(HLP.out x1 B1).2.2
         have h2:=HH2.out x1 B1
         go_wp2_with fail
         refine h2.mono ?_
         clear h2 z1
         rintro r x2 ⟨rfl,a2⟩
         have B2:=below_next B1 a2
         go_wp2
         go_roundw
         case rel => exact ⟨n + 1,by go_num,by omega,B2⟩
         case measure => simp [intOf];omega
       ·have hni:¬ (n:Int) < (l.length:Int):=by omega
        have b9:=below_next HBW.out (below_next HZ.out HBY.out)
        clear HSM HSL HIM HLP
        go_wp2
        go_roundw
        case rel => exact ⟨k + 1,by go_num,by omega,b9⟩
        case measure => simp [intOf];omega
   ·have hki:¬ (k:Int) < (m.length:Int):=by omega
    have b9:=below_next b17 HBW.out
    clear ONE
    go_wp2
    go_ret
    exact ⟨rfl,b9⟩
theorem matchLoose_lifted (os:Os) (started:os.Started) (H:Type) (enc:TypeId × Value → H) :
  ReturnsInHanded {} Tryz.checked os 5 .any (Rows.matchLooseSpec.pre6 enc Tryz.prog Tryz.f5 Rows.matchLooseRow.domain false) (Rows.matchLooseSpec.post enc Tryz.prog Tryz.f5 false true false false):=by
 refine returnsInHanded_of_change_shaped (C:=Tryz.checked) ownNone started (by kernel_rfl) Tryz.func5
  (ChangeSpec.witness6 (enc:=enc) (C:=Tryz.checked) false ⟨#[],#[.slice none 0 0,.string ⟨#[]⟩],[]⟩ 8 (by kernel_rfl) (by kernel_rfl) (by kernel_rfl) (by kernel_rfl)) ?_
 intro W base args ds gs before hval hW _ hsz0 hS _
 have hW':=hW
 obtain ⟨p,q,hA0,hV,rfl,hfz,hnd⟩:=hW
 have hA:DataW.TrodAll enc Tryz.prog W 0 (fun _ => true) true Tryz.f5.params.toList args.toList ds p:=hA0
 rw [Tryz.params5] at hA hval hsz0
 obtain ⟨v0,vs0,d0,ds0,p0,q0,hargs,rfl,rfl,h0,r0⟩:=trodAll_cons hA
 obtain ⟨v1,vs1,d1,ds1,p1,q1,rfl,rfl,rfl,h1,r1⟩:=trodAll_cons r0
 obtain ⟨rfl,rfl,rfl⟩:=trodAll_nil r1
 obtain rfl:args = #[v0,v1]:=by cases args;simp_all
 obtain ⟨rfl,rfl⟩:=trodVars_none hV
 have hsz:=List.all_eq_true.1 hsz0
 obtain ⟨a0,len0,cap0,rfl⟩:=okWide_slice Tryz.underlying22 (hval 0 22 v0 rfl rfl)
 have k0:=h0
 have lt0:∀ x ∈ p0,x.block < W.heap.size:=by obtain ⟨m,hm⟩:=k0;exact DataW.trod_lt m _ _ _ hm
 obtain ⟨z0,w0,y0,u0⟩:=Dm.nodesAt_of_reads k0 (fun n hn => by simpa using hsz n (DataW.weights_mem_each (j:=0) rfl rfl n hn))
 obtain ⟨s1,rfl,rfl,rfl,w1⟩:=open_string Tryz.underlying9 (hval 1 9 v1 rfl rfl) h1
 have y1:s1.size ≤ 281474976710656:=short_string (by simpa using hsz s1.data.toList.length (DataW.weights_mem_each (j:=1) rfl rfl _ (by simp [DataW.weights])))
 clear hA0
 refine (matchLoose_walk W (Tryz.laysM144.s1_3 W hS) _ z0 w0 y0 u0 s1 y1).mono fun e W' ⟨he,bel⟩ => ?_
 subst he
 exact ⟨_,rfl,_,_,_,[],_,[],hW',trodAll_mk1 (shut_bool Tryz.underlying4 _),(trodAll_cons_mk (Below.trod laidOut (by kernel_rfl) (of_decide_eq_true (by kernel_rfl)) k0 bel lt0) (trodAll_cons_mk (shut_string Tryz.underlying9 w1) trodAll_mk0)),rfl,bel.frame _,fun h => by cases h⟩
theorem matchLoose_said:Rows.MatchLooseSaid:=
 OpenClaim.holds_of_wide 5 Tryz.f5 rfl rfl rfl rfl rfl rfl rfl ⟨rfl,rfl,rfl,rfl,rfl⟩ rfl rfl rfl rfl rfl (by kernel_rfl) Tryz.func5 (by kernel_rfl)
  (of_decide_eq_true (by kernel_rfl)) (by unfold Func.isWrapper;first | (rw [if_pos (by decide +kernel)];kernel_rfl) | (rw [if_neg (by decide +kernel)];exact ⟨rfl,rfl⟩))
  (fun os started H enc _ => matchLoose_lifted os started H enc)
#print axioms matchLoose_said
end Go.Proofs.YtnemagmakgiheaaGreat
