/- The document's own reader of selectors: a condition of an attribute (attr), at every place. -/
import Derived.Test.YtcmmdojlhfmddaaGreatSrAttr
set_option maxRecDepth 100000
namespace Go.Proofs.YtcmmdojlhfmddaaGreat.Sr
open Go.Proofs.YtcmmdojlhfmddaaGreat.Tre
open Go Go.RowKit Sl
set_option maxHeartbeats 2000000 in
theorem attr_any (n₀ R:Nat) (v:Value) (ts:List Bt) (a:Nat) (deep:Int) (w:World) (hP:Pk n₀ w R v ts a false deep) (ha:a ≤ ts.length) (hG:Sl.Good ts) :
  Calls Tryz.prog 87 #[.pointer (some ⟨R,0,none⟩)] w (AttrOut n₀ R v ts deep w a (attrV (ts.drop a))):=by
 have hlm:=hP.most
 have hR:=hP.lt
 have b0:Below w.heap.size w (w.alloc (.cells #[.string ⟨#[]⟩,.int .i64 0,.string ⟨#[]⟩] 157)):=(Below.refl _ w).alloc (Nat.le_refl _) _
 have kZ:=Blk.new w 157 [.string ⟨#[]⟩,.int .i64 0,.string ⟨#[]⟩]
 replace kZ:Blk (w.alloc (.cells #[.string ⟨#[]⟩,.int .i64 0,.string ⟨#[]⟩] 157)) w.heap.size _ _:=kZ
 have hP1:=hP.below b0
 have hB1:But R w _:=But.of_below b0
 have H0:=fun b (h:ts.drop b = dropW (ts.drop a)) => attr_0 h
 obtain ⟨V,hV⟩:∃ V,attrV (ts.drop a) = V:=⟨_,rfl⟩
 rw [hV] at H0 ⊢
 clear hV
 have HG:Hid (Sl.Good ts):=hG
 clear hG
 go_enter Tryz.func87,Tryz.ntmps87
 go_upto_region 1 with fail
 generalize w.alloc (.cells #[.string ⟨#[]⟩,.int .i64 0,.string ⟨#[]⟩] 157) = W1 at *
 have h1:=white_any n₀ R v ts a false deep W1 hP1
 go_wp2_with fail
 refine h1.mono ?_
 clear h1
 rintro e w2 ⟨b,rfl,hab,hbl,hdb,hP2,hbut2⟩
 have hbl':b ≤ ts.length:=by omega
 have H0':=H0 b hdb
 clear H0
 have H0:Hid (V = _):=H0'
 clear H0'
 clear hbl
 replace kZ:=hbut2.blk kZ (by omega)
 have hB2:=hB1.trans hbut2
 clear hB1 hbut2 hP1 hdb
 have h2:=see_any n₀ R v ts b false deep 0 w2 hP2 (by omega)
 rw [Nat.add_zero] at h2
 have hTm:=Sl.Good.at HG b
 have h4:=fun X hX => see_any n₀ R v ts b false deep 0 X hX (by omega)
 rw [Nat.add_zero] at h4
 have hlt:Hid ((at' ts b).kind = 1 → b < ts.length):=fun h => at_lt (by rw [h];decide)
 generalize at' ts b = T at *
 unfold tkV at h2 h4
 go_wp2_with fail
 refine h2.mono ?_
 clear h2
 rintro e w3 ⟨rfl,b3⟩
 have hf1:=tkField1 T.kind T.text T.n T.whole T.c w3
 have hlow:=Lw.refLower_any T.text w3 (Nat.le_trans hTm.1 (by decide))
 obtain ⟨low,hlw⟩:∃ low:ByteArray,(⟨(Lw.low T.text.data.toList).toArray⟩:ByteArray) = low:=⟨_,rfl⟩
 rw [hlw] at hlow
 have hls:lowS T.text = low:=hlw
 replace H0:Hid (V = if T.kind = 1 then attr1 low (ts.drop (b + 1)) else none):=by rw [← hls];exact H0
 clear hlw hls
 go_wp2_with fail
 refine hlow.mono ?_
 clear hlow hf1
 rintro e w4 ⟨rfl,b4⟩
 have b24:=below_next b3 b4
 have bX:Below w4.heap.size w4 (w4.alloc (.cells #[.string low,.int .i64 0,.string ⟨#[]⟩] 157)):=(Below.refl _ _).alloc (Nat.le_refl _) _
 have kX:Blk (w4.alloc (.cells #[.string low,.int .i64 0,.string ⟨#[]⟩] 157)) w4.heap.size 157 [.string low,.int .i64 0,.string ⟨#[]⟩]:=Blk.new w4 157 _
 have b25:=below_next b24 bX
 have hz4:w.heap.size < w4.heap.size:=Nat.lt_of_lt_of_le kZ.lt b24.size
 have S5:AtSt n₀ R v ts deep w w4.heap.size ⟨low,0,⟨#[]⟩⟩ b false _:=⟨kZ.below b25 kZ.lt,kX,hP2.below b25,hB2.trans (But.of_below b25),hz4,hR⟩
 clear b3 b4 b24 bX kX b25 hP2 hB2 kZ b0 hP
 go_upto_region 3 with fail
 generalize w4.alloc (.cells #[.string low,.int .i64 0,.string ⟨#[]⟩] 157) = W5 at *
 generalize w4.heap.size = X at *
 have h5:=h4 W5 S5.p
 clear h4
 go_wp2_with fail
 refine h5.mono ?_
 clear h5
 rintro e w6 ⟨rfl,b6⟩
 have S6:=S5.below b6
 clear S5 b6
 have hf0:=tkField0 T.kind T.text T.n T.whole T.c w6
 by_cases g1:T.kind = 1
 case neg =>
  have H1:V = none:=Eq.trans (show V = _ from H0) (if_neg g1)
  clear H0
  replace H1:Hid (V = none):=H1
  have e1:(T.kind != 1) = true:=by simpa using g1
  obtain ⟨⟨p0,p1,p2,p3⟩,q0,q1,q2,q3⟩:=blk4 S6.p.blk
  have S7:=S6.spoil
  clear g1
  go_upto_region 5 with fail
  generalize w6.setCell ⟨R,2,none⟩ (.bool true) = W7 at *
  clear p0 p1 p2 p3 q0 q1 q2 q3 S6
  obtain ⟨⟨x0,x1,x2⟩,_⟩:=blk3 S7.x
  obtain ⟨⟨z0,z1,z2⟩,y0,y1,y2⟩:=blk3 S7.z
  obtain ⟨hL,hO⟩:=S7.out hab (.inr ⟨rfl,H1⟩)
  go_wp2
  exact bodyPost_ret (results_struct rfl _ _ w.heap.size _ rfl hL) rfl hO
 replace H0:Hid (V = attr1 low (ts.drop (b + 1))):=Eq.trans (show V = _ from H0) (if_pos g1)
 replace hlt:b < ts.length:=(show _ → _ from hlt) g1
 rw [g1] at hf0
 obtain ⟨⟨p0,p1,p2,p3⟩,q0,q1,q2,q3⟩:=blk4 S6.p.blk
 have hw1:IntKind.i64.wrap ((b:Int) + 1) = (b:Int) + 1:=by rw [IntKind.wrap_i64];omega
 have S7:=S6.at (b':=b + 1) (by omega)
 push_cast at S7
 clear hTm
 go_upto_region 7 with fail
 generalize w6.setCell ⟨R,1,none⟩ (.int .i64 ((b:Int) + 1)) = W7 at *
 clear p0 p1 p2 p3 q0 q1 q2 q3 S6 hf0 hw1
 have h7:=white_any n₀ R v ts (b + 1) false deep W7 S7.p
 go_wp2_with fail
 refine h7.mono ?_
 clear h7
 rintro e w8 ⟨c,rfl,hbc,hcl,hdc,hP8,hbut8⟩
 have S8:=S7.go hP8 hbut8
 clear S7 hP8 hbut8
 have hcl':c ≤ ts.length:=by omega
 replace H0:Hid (V = _):=Eq.trans (show V = _ from H0) (attr_1 hdc)
 clear hcl hdc
 have h8:=see_any n₀ R v ts c false deep 0 w8 S8.p (by omega)
 have h9:=fun X hX => see_any n₀ R v ts c false deep 0 X hX (by omega)
 rw [Nat.add_zero] at h8 h9
 have hU:∃ U,at' ts c = U:=⟨_,rfl⟩
 obtain ⟨U,hU⟩:=hU
 rw [hU] at h8 h9
 replace H0:Hid (V = if U.kind = 19 then some (⟨low,0,⟨#[]⟩⟩,ts.drop (c + 1)) else (opV (ts.drop c)).bind fun o => attr2 low o.1 o.2):=by rw [← hU];exact H0
 unfold tkV at h8 h9
 go_wp2_with fail
 refine h8.mono ?_
 clear h8
 rintro e w9 ⟨rfl,b9⟩
 have S9:=S8.below b9
 clear S8 b9
 have hf0:=tkField0 U.kind U.text U.n U.whole U.c w9
 by_cases g19:U.kind = 19
 case pos =>
  replace H0:Hid (V = some (⟨low,0,⟨#[]⟩⟩,ts.drop (c + 1))):=Eq.trans (show V = _ from H0) (if_pos g19)
  rw [g19] at hf0
  have hcl2:c < ts.length:=at_lt (by rw [hU,g19];decide)
  obtain ⟨⟨p0,p1,p2,p3⟩,q0,q1,q2,q3⟩:=blk4 S9.p.blk
  have hw1:IntKind.i64.wrap ((c:Int) + 1) = (c:Int) + 1:=by rw [IntKind.wrap_i64];omega
  have S10:=S9.at (b':=c + 1) (by omega)
  push_cast at S10
  rw [g19]
  clear h9 g19
  go_upto_region 10 with fail
  generalize w9.setCell ⟨R,1,none⟩ (.int .i64 ((c:Int) + 1)) = W10 at *
  clear p0 p1 p2 p3 q0 q1 q2 q3 S9
  obtain ⟨⟨x0,x1,x2⟩,_⟩:=blk3 S10.x
  obtain ⟨⟨z0,z1,z2⟩,y0,y1,y2⟩:=blk3 S10.z
  obtain ⟨hL,hO⟩:=S10.out (a:=a) (by omega) (.inl ⟨rfl,H0,by omega⟩)
  go_wp2
  exact bodyPost_ret (results_struct rfl _ _ w.heap.size _ rfl hL) rfl hO
 replace H0:Hid (V = (opV (ts.drop c)).bind fun o => attr2 low o.1 o.2):=Eq.trans (show V = _ from H0) (if_neg g19)
 have e19:(U.kind == 19) = false:=by simpa using g19
 have h10:=h9 w9 S9.p
 clear h9
 go_upto_region 11 with fail
 clear hf0 e19 g19
 go_wp2_with fail
 refine h10.mono ?_
 clear h10
 rintro e w10 ⟨rfl,b10⟩
 have S10:=S9.below b10
 clear S9 b10
 have bO:Below w10.heap.size w10 (w10.alloc (.cells #[.int .i64 U.kind,.string U.text,.int .i64 U.n,.bool U.whole,.int .i64 U.c] 85)):=(Below.refl _ _).alloc (Nat.le_refl _) _
 have kO:Blk (w10.alloc (.cells #[.int .i64 U.kind,.string U.text,.int .i64 U.n,.bool U.whole,.int .i64 U.c] 85)) w10.heap.size 85 [.int .i64 U.kind,.string U.text,.int .i64 U.n,.bool U.whole,.int .i64 U.c]:=Blk.new w10 85 _
 have S11:=S10.below bO
 have hOX:X < w10.heap.size:=S10.x.lt
 have hOR:R < w10.heap.size:=S10.p.lt
 clear S10 bO
 go_upto_region 12 with fail
 generalize w10.alloc (.cells #[.int .i64 U.kind,.string U.text,.int .i64 U.n,.bool U.whole,.int .i64 U.c] 85) = W11 at *
 generalize w10.heap.size = O at *
 obtain ⟨⟨t0,t1,t2,t3,t4⟩,_⟩:=blk5 kO
 have hw1:IntKind.i64.wrap ((c:Int) + 1) = (c:Int) + 1:=by rw [IntKind.wrap_i64];omega
 have hw2:IntKind.i64.wrap ((c:Int) + 2) = (c:Int) + 2:=by rw [IntKind.wrap_i64];omega
 obtain ⟨B,HB⟩:∃ B,Hid (decide (U.kind = 10 ∧ U.c = 61) = B):=⟨_,rfl⟩
 go_cut [53] (fun b wx => b = .bool B ∧ W11 = wx)
 case first =>
  by_cases gk:U.kind = 10
  ·rw [gk] at t0
   by_cases gc:U.c = 61
   ·obtain rfl:true = B:=(decide_eq_true (⟨gk,gc⟩:U.kind = 10 ∧ U.c = 61)).symm.trans HB
    rw [gc] at t4
    clear gk HB gc
    go_wp2
    go_meet
    exact ⟨rfl,rfl⟩
   ·obtain rfl:false = B:=(decide_eq_false (fun h:U.kind = 10 ∧ U.c = 61 => gc h.2)).symm.trans HB
    have gc':(U.c == 61) = false:=by simpa using gc
    clear gk gc HB
    go_wp2
    go_meet
    exact ⟨rfl,rfl⟩
  ·obtain rfl:false = B:=(decide_eq_false (fun h:U.kind = 10 ∧ U.c = 61 => gk h.1)).symm.trans HB
   have gk':(U.kind == 10) = false:=by simpa using gk
   clear gk HB
   go_wp2
   go_meet
   exact ⟨rfl,rfl⟩
 case rest =>
 obtain ⟨rfl,rfl⟩:=hcut
 go_upto_if 53 with fail
 go_cut [] (fun wx => ∃ (o:Int) (c':Nat),AtSt n₀ R v ts deep w X ⟨low,o,⟨#[]⟩⟩ c' false wx ∧ OpV V low ts a o c')
 case first =>
  obtain ⟨⟨p0,p1,p2,p3⟩,q0,q1,q2,q3⟩:=blk4 S11.p.blk
  obtain ⟨⟨x0,x1,x2⟩,y0,y1,y2⟩:=blk3 S11.x
  have hXR:X ≠ R:=by have:=S11.hX;omega
  by_cases gi:U.kind = 10 ∧ U.c = 61
  ·have hop:=op_is (ts:=ts) (b:=c) (by rw [hU];exact gi)
   have hcl2:c < ts.length:=at_lt (by rw [hU,gi.1];decide)
   have S12:=(S11.op 1).at (b':=c + 1) (by omega)
   push_cast at S12
   have HV:OpV V low ts a 1 (c + 1):=⟨by omega,.inl ⟨by decide,by have h:V = _:=H0;rw [h,hop];rfl,hcl2⟩⟩
   obtain rfl:true = B:=(decide_eq_true gi).symm.trans HB
   clear H0 hop S11 gi HB
   go_wp2
   go_meet
   exact ⟨1,c + 1,S12,HV⟩
  ·obtain rfl:false = B:=(decide_eq_false gi).symm.trans HB
   clear HB
   go_upto_region 15 with fail
   by_cases gk:U.kind = 10
   case neg =>
    have gk':(U.kind == 10) = false:=by simpa using gk
    have HV:OpV V low ts a 0 c:=⟨by omega,.inr ⟨rfl,by have h:V = _:=H0;rw [h,op_none (by rw [hU];exact gi) (fun h => absurd (by rw [hU] at h;exact h) gk)];rfl⟩⟩
    clear gi gk H0
    go_wp2
    go_meet
    exact ⟨0,c,S11,HV⟩
   have hcl2:c < ts.length:=at_lt (by rw [hU,gk];decide)
   have hd:=delim_any n₀ R v ts c false deep 1 61 W11 S11.p (by omega)
   have t0':=t0
   rw [gk] at t0'
   by_cases gd:(at' ts (c + 1)).kind = 10 ∧ (at' ts (c + 1)).c = 61
   case neg =>
    rw [decide_eq_false gd] at hd
    have HV:OpV V low ts a 0 c:=⟨by omega,.inr ⟨rfl,by have h:V = _:=H0;rw [h,op_none (by rw [hU];exact gi) (fun _ => gd)];rfl⟩⟩
    clear gi gd H0 gk t0
    go_wp2_with fail
    refine hd.mono ?_
    clear hd
    rintro e w12 ⟨rfl,b12⟩
    have S12:=S11.below b12
    clear S11 b12
    go_wp2
    go_meet
    exact ⟨0,c,S12,HV⟩
   rw [decide_eq_true gd] at hd
   have hop:=op_two (ts:=ts) (b:=c) (by rw [hU];exact gk) (by rw [hU];exact fun h => gi ⟨gk,h⟩) gd
   rw [hU] at hop
   have hcl3:c + 1 < ts.length:=at_lt (by rw [gd.1];decide)
   have HV:OpV V low ts a (op5 U.c) (c + 2):=by
    refine ⟨by omega,?_⟩
    have h:V = _:=H0
    rw [hop] at h
    by_cases h0:op5 U.c = 0
    ·rw [if_pos h0] at h;exact .inr ⟨h0,h⟩
    ·rw [if_neg h0] at h;exact .inl ⟨h0,h,by omega⟩
   clear H0 hop gi gd t0 gk
   go_wp2_with fail
   refine hd.mono ?_
   clear hd
   rintro e w12 ⟨rfl,b12⟩
   have S12:=S11.below b12
   replace kO:=kO.below b12 kO.lt
   clear S11 b12 t0' t1 t2 t3 t4 p0 p1 p2 p3 q0 q1 q2 q3 x0 x1 x2 y0 y1 y2
   have bL:Below w12.heap.size w12 (w12.alloc (.cells #[.int .i64 126,.int .i64 124,.int .i64 94,.int .i64 36,.int .i64 42] 3)):=(Below.refl _ _).alloc (Nat.le_refl _) _
   have kL:Blk (w12.alloc (.cells #[.int .i64 126,.int .i64 124,.int .i64 94,.int .i64 36,.int .i64 42] 3)) w12.heap.size 3 [.int .i64 126,.int .i64 124,.int .i64 94,.int .i64 36,.int .i64 42]:=Blk.new w12 3 _
   have S13:=S12.below bL
   replace kO:=kO.below bL kO.lt
   have hLX:w12.heap.size ≠ X:=by have:=S12.x.lt;omega
   have hOX':O ≠ X:=by omega
   clear S12 bL
   go_upto_region 17 with fail
   generalize w12.alloc (.cells #[.int .i64 126,.int .i64 124,.int .i64 94,.int .i64 36,.int .i64 42] 3) = W13 at *
   generalize w12.heap.size = LL at *
   go_wp2
   go_loopw [6] (fun y wr => ∃ (k:Nat),y = .int .i64 k ∧ k ≤ 5 ∧ AtSt n₀ R v ts deep w X ⟨low,opTo k U.c,⟨#[]⟩⟩ c false wr ∧ Blk wr O 85 [.int .i64 U.kind,.string U.text,.int .i64 U.n,.bool U.whole,.int .i64 U.c] ∧ Blk wr LL 3 [.int .i64 126,.int .i64 124,.int .i64 94,.int .i64 36,.int .i64 42]) (fun y _ => 5 - (intOf y).toNat)
   case atStart => exact ⟨0,rfl,by omega,S13,kO,kL⟩
   case round =>
    obtain ⟨k,rfl,hk5,Sk,kOk,kLk⟩:=hrel
    clear S13 kO kL
    obtain ⟨⟨t0,t1,t2,t3,t4⟩,_⟩:=blk5 kOk
    obtain ⟨⟨l0,l1,l2,l3,l4⟩,_⟩:=blk5 kLk
    obtain ⟨⟨x0,x1,x2⟩,y0,y1,y2⟩:=blk3 Sk.x
    by_cases hlt5:k < 5
    ·have hki:(k:Int) < 5:=by omega
     obtain ⟨z,hz,hcell⟩:∃ z,l5.getD k 0 = z ∧ wr.cell? ⟨LL,k,none⟩ = some (.int .i64 z):=by
      have:k = 0 ∨ k = 1 ∨ k = 2 ∨ k = 3 ∨ k = 4:=by omega
      rcases this with rfl | rfl | rfl | rfl | rfl
      ·exact ⟨_,rfl,l0⟩
      ·exact ⟨_,rfl,l1⟩
      ·exact ⟨_,rfl,l2⟩
      ·exact ⟨_,rfl,l3⟩
      ·exact ⟨_,rfl,l4⟩
     have hto:opTo (k + 1) U.c = if z = U.c then 2 + (k:Int) else opTo k U.c:=by rw [← hz];rfl
     clear l0 l1 l2 l3 l4 t0 t1 t2 t3 hz hk5
     have hwk:IntKind.i64.wrap ((k:Int) + 1) = (k:Int) + 1:=by rw [IntKind.wrap_i64];omega
     have hwk2:IntKind.i64.wrap (2 + (k:Int)) = 2 + (k:Int):=by rw [IntKind.wrap_i64];omega
     have HN:Hid (∀ (n:Nat) (o:Int),o = opTo (k + 1) U.c → AtSt n₀ R v ts deep w X ⟨low,opTo (k + 1) U.c,⟨#[]⟩⟩ c false ((wr.drewN n).setCell ⟨X,1,none⟩ (.int .i64 o)) ∧ Blk ((wr.drewN n).setCell ⟨X,1,none⟩ (.int .i64 o)) O 85 [.int .i64 U.kind,.string U.text,.int .i64 U.n,.bool U.whole,.int .i64 U.c] ∧ Blk ((wr.drewN n).setCell ⟨X,1,none⟩ (.int .i64 o)) LL 3 [.int .i64 126,.int .i64 124,.int .i64 94,.int .i64 36,.int .i64 42]):=fun n o ho => by
      subst ho
      exact ⟨(Sk.below (below_drewN wr n)).op _,Blk.other (blk_drew kOk n) hOX' _,Blk.other (blk_drew kLk n) hLX _⟩
     have HM:Hid (∀ (n:Nat),opTo (k + 1) U.c = opTo k U.c → AtSt n₀ R v ts deep w X ⟨low,opTo (k + 1) U.c,⟨#[]⟩⟩ c false (wr.drewN n) ∧ Blk (wr.drewN n) O 85 [.int .i64 U.kind,.string U.text,.int .i64 U.n,.bool U.whole,.int .i64 U.c] ∧ Blk (wr.drewN n) LL 3 [.int .i64 126,.int .i64 124,.int .i64 94,.int .i64 36,.int .i64 42]):=fun n ho => by
      rw [ho]
      exact ⟨Sk.below (below_drewN wr n),blk_drew kOk n,blk_drew kLk n⟩
     have HTO:Hid (opTo (k + 1) U.c = if z = U.c then 2 + (k:Int) else opTo k U.c):=hto
     clear hto Sk kOk kLk
     by_cases hzc:z = U.c
     ·have hzz:(z == U.c) = true:=by simpa using hzc
      have HE:Hid (2 + (k:Int) = opTo (k + 1) U.c):=((show _ = _ from HTO).trans (if_pos hzc)).symm
      clear HTO hzc
      go_wp2
      go_quiet (fail)
      go_wp2
      exact ⟨⟨k + 1,by go_num,by omega,(show ∀ (n:Nat) (o:Int),_ → _ from HN) _ _ HE⟩,by simp [intOf];omega⟩
     ·have hzz:(z == U.c) = false:=by simpa using hzc
      have HE:Hid (opTo (k + 1) U.c = opTo k U.c):=(show _ = _ from HTO).trans (if_neg hzc)
      clear HTO hzc
      go_wp2
      go_quiet (fail)
      go_wp2
      exact ⟨⟨k + 1,by go_num,by omega,(show ∀ (n:Nat),_ → _ from HM) _ HE⟩,by simp [intOf];omega⟩
    ·obtain rfl:k = 5:=by omega
     rw [opTo_5] at Sk
     obtain ⟨⟨p0,p1,p2,p3⟩,q0,q1,q2,q3⟩:=blk4 Sk.p.blk
     have S12:=Sk.at (b':=c + 2) (by omega)
     push_cast at S12
     generalize op5 U.c = o at *
     clear l0 l1 l2 l3 l4 t0 t1 t2 t3 t4 x0 x1 x2 y0 y1 y2 Sk kLk
     go_wp2
     go_meet
     exact ⟨o,c + 2,S12,HV⟩
 case rest =>
 clear S11 H0 t0 t1 t2 t3 t4 kO hw1 hw2 hU
 obtain ⟨o,c',S12,HV⟩:=hcut
 obtain ⟨⟨x0,x1,x2⟩,y0,y1,y2⟩:=blk3 S12.x
 by_cases g0:o = 0
 ·subst g0
  have HV':Hid (a ≤ c' ∧ V = none):=by
   obtain ⟨h1,h2 | h2⟩:=(show _ ∧ _ from HV)
   ·exact absurd rfl h2.1
   ·exact ⟨h1,h2.2⟩
  clear HV
  obtain ⟨⟨p0,p1,p2,p3⟩,q0,q1,q2,q3⟩:=blk4 S12.p.blk
  have S13:=S12.spoil
  go_upto_region 25 with fail
  generalize wc.setCell ⟨R,2,none⟩ (.bool true) = W13 at *
  clear p0 p1 p2 p3 q0 q1 q2 q3 S12 x0 x1 x2 y0 y1 y2
  obtain ⟨⟨x0,x1,x2⟩,_⟩:=blk3 S13.x
  obtain ⟨⟨z0,z1,z2⟩,y0,y1,y2⟩:=blk3 S13.z
  obtain ⟨hL,hO⟩:=S13.out (show _ ∧ _ from HV').1 (.inr ⟨rfl,(show _ ∧ _ from HV').2⟩)
  go_wp2
  exact bodyPost_ret (results_struct rfl _ _ w.heap.size _ rfl hL) rfl hO
 have g0':(o == 0) = false:=by simpa using g0
 have HV':Hid (a ≤ c' ∧ V = attr2 low o (ts.drop c') ∧ c' ≤ ts.length):=by
  obtain ⟨h1,h2 | h2⟩:=(show _ ∧ _ from HV)
  ·exact ⟨h1,h2.2⟩
  ·exact absurd h2.1 g0
 have hcc:a ≤ c' ∧ c' ≤ ts.length:=⟨(show _ ∧ _ ∧ _ from HV').1,(show _ ∧ _ ∧ _ from HV').2.2⟩
 clear HV g0
 have h12:=white_any n₀ R v ts c' false deep wc S12.p
 go_wp2_with fail
 refine h12.mono ?_
 clear h12 x0 x1 x2 y0 y1 y2
 rintro e w13 ⟨d,rfl,hcd,hdl,hdd,hP13,hbut13⟩
 have S13:=S12.go hP13 hbut13
 clear S12 hP13 hbut13
 have hdl':d ≤ ts.length:=by omega
 clear hdl
 have h13:=see_any n₀ R v ts d false deep 0 w13 S13.p (by omega)
 have h14:=fun X hX => see_any n₀ R v ts d false deep 0 X hX (by omega)
 rw [Nat.add_zero] at h13 h14
 obtain ⟨H,hH⟩:∃ H,at' ts d = H:=⟨_,rfl⟩
 rw [hH] at h13 h14
 unfold tkV at h13 h14
 go_wp2_with fail
 refine h13.mono ?_
 clear h13
 rintro e w14 ⟨rfl,b14⟩
 have S14:=S13.below b14
 clear S13 b14
 have hf0:=tkField0 H.kind H.text H.n H.whole H.c w14
 replace h14:=h14 w14 S14.p
 go_wp2_with fail
 refine h14.mono ?_
 clear h14 hf0
 rintro e w15 ⟨rfl,b15⟩
 have S15:=S14.below b15
 clear S14 b15
 have hf1:=tkField1 H.kind H.text H.n H.whole H.c w15
 obtain ⟨⟨x0,x1,x2⟩,y0,y1,y2⟩:=blk3 S15.x
 have S16:=S15.text H.text
 go_upto_region 29 with fail
 generalize w15.setCell ⟨X,2,none⟩ (.string H.text) = W16 at *
 clear S15 x0 x1 x2 y0 y1 y2 hf1
 clear HB
 obtain ⟨B,HB⟩:∃ B,Hid (decide (¬ (H.kind = 1 ∨ H.kind = 4)) = B):=⟨_,rfl⟩
 go_cut [115] (fun b wx => b = .bool B ∧ W16 = wx)
 case first =>
  by_cases k1:H.kind = 1
  ·obtain rfl:false = B:=(decide_eq_false (fun h:¬ (H.kind = 1 ∨ H.kind = 4) => h (.inl k1))).symm.trans HB
   have k1':(H.kind != 1) = false:=by simpa using k1
   clear k1 HB
   go_wp2
   go_meet
   exact ⟨rfl,rfl⟩
  ·have k1':(H.kind != 1) = true:=by simpa using k1
   by_cases k4:H.kind = 4
   ·obtain rfl:false = B:=(decide_eq_false (fun h:¬ (H.kind = 1 ∨ H.kind = 4) => h (.inr k4))).symm.trans HB
    have k4':(H.kind != 4) = false:=by simpa using k4
    clear k4 k1 HB
    go_wp2
    go_meet
    exact ⟨rfl,rfl⟩
   ·have k4':(H.kind != 4) = true:=by simpa using k4
    obtain rfl:true = B:=(decide_eq_true (p:=¬ (H.kind = 1 ∨ H.kind = 4)) (fun h => h.elim k1 k4)).symm.trans HB
    clear k4 k1 HB
    go_wp2
    go_meet
    exact ⟨rfl,rfl⟩
 case rest =>
 obtain ⟨rfl,rfl⟩:=hcut
 obtain ⟨⟨p0,p1,p2,p3⟩,q0,q1,q2,q3⟩:=blk4 S16.p.blk
 by_cases gh:H.kind = 1 ∨ H.kind = 4
 case neg =>
  obtain rfl:true = B:=(decide_eq_true gh).symm.trans HB
  clear HB
  have HV2:Hid (a ≤ d ∧ V = none):=by
   obtain ⟨h1,h2,h3⟩:=(show _ ∧ _ ∧ _ from HV')
   exact ⟨by omega,by rw [h2,attr_2no hdd (by rw [hH];exact gh)]⟩
  clear HV' gh
  have S17:=S16.spoil
  go_upto_region 31 with fail
  generalize W16.setCell ⟨R,2,none⟩ (.bool true) = W17 at *
  clear p0 p1 p2 p3 q0 q1 q2 q3 S16
  obtain ⟨⟨x0,x1,x2⟩,_⟩:=blk3 S17.x
  obtain ⟨⟨z0,z1,z2⟩,y0,y1,y2⟩:=blk3 S17.z
  obtain ⟨hL,hO⟩:=S17.out (show _ ∧ _ from HV2).1 (.inr ⟨rfl,(show _ ∧ _ from HV2).2⟩)
  go_wp2
  exact bodyPost_ret (results_struct rfl _ _ w.heap.size _ rfl hL) rfl hO
 obtain rfl:false = B:=(decide_eq_false (fun h:¬ (H.kind = 1 ∨ H.kind = 4) => h gh)).symm.trans HB
 clear HB
 have hdl2:d < ts.length:=at_lt (by rw [hH];omega)
 have hw1:IntKind.i64.wrap ((d:Int) + 1) = (d:Int) + 1:=by rw [IntKind.wrap_i64];omega
 have S17:=S16.at (b':=d + 1) (by omega)
 push_cast at S17
 go_upto_region 33 with fail
 generalize W16.setCell ⟨R,1,none⟩ (.int .i64 ((d:Int) + 1)) = W17 at *
 clear p0 p1 p2 p3 q0 q1 q2 q3 S16 hw1
 have h17:=white_any n₀ R v ts (d + 1) false deep W17 S17.p
 go_wp2_with fail
 refine h17.mono ?_
 clear h17
 rintro e w18 ⟨f,rfl,hdf,hfl,hdd2,hP18,hbut18⟩
 have S18:=S17.go hP18 hbut18
 clear S17 hP18 hbut18
 have hfl':f ≤ ts.length:=by omega
 clear hfl
 have h18:=see_any n₀ R v ts f false deep 0 w18 S18.p (by omega)
 rw [Nat.add_zero] at h18
 obtain ⟨E,hE⟩:∃ E,at' ts f = E:=⟨_,rfl⟩
 rw [hE] at h18
 unfold tkV at h18
 have HV2:Hid (V = if E.kind = 19 then some (⟨low,o,H.text⟩,ts.drop (f + 1)) else none):=by
  obtain ⟨h1,h2,h3⟩:=(show _ ∧ _ ∧ _ from HV')
  have h4:=attr_2 (nm:=low) (o:=o) hdd hdd2
  rw [hH,hE,if_pos gh] at h4
  exact h2.trans h4
 clear HV' gh hdd hdd2
 go_wp2_with fail
 refine h18.mono ?_
 clear h18
 rintro e w19 ⟨rfl,b19⟩
 have S19:=S18.below b19
 clear S18 b19
 have hf0:=tkField0 E.kind E.text E.n E.whole E.c w19
 obtain ⟨⟨p0,p1,p2,p3⟩,q0,q1,q2,q3⟩:=blk4 S19.p.blk
 have hw1:IntKind.i64.wrap ((f:Int) + 1) = (f:Int) + 1:=by rw [IntKind.wrap_i64];omega
 by_cases g19:E.kind = 19
 ·have hfl2:f < ts.length:=at_lt (by rw [hE,g19];decide)
  have HV3:Hid (V = some (⟨low,o,H.text⟩,ts.drop (f + 1))):=(show V = _ from HV2).trans (if_pos g19)
  rw [g19] at hf0
  rw [g19]
  have S20:=S19.at (b':=f + 1) (by omega)
  push_cast at S20
  clear HV2 g19
  go_upto_region 37 with fail
  generalize w19.setCell ⟨R,1,none⟩ (.int .i64 ((f:Int) + 1)) = W20 at *
  clear p0 p1 p2 p3 q0 q1 q2 q3 S19
  obtain ⟨⟨x0,x1,x2⟩,_⟩:=blk3 S20.x
  obtain ⟨⟨z0,z1,z2⟩,y0,y1,y2⟩:=blk3 S20.z
  obtain ⟨hL,hO⟩:=S20.out (a:=a) (by omega) (.inl ⟨rfl,HV3,by omega⟩)
  go_wp2
  exact bodyPost_ret (results_struct rfl _ _ w.heap.size _ rfl hL) rfl hO
 ·have g19':(E.kind != 19) = true:=by simpa using g19
  have HV3:Hid (V = none):=(show V = _ from HV2).trans (if_neg g19)
  have S20:=S19.spoil.at (b':=f + 1) (by omega)
  push_cast at S20
  clear HV2 g19
  go_upto_region 37 with fail
  generalize (w19.setCell ⟨R,2,none⟩ (.bool true)).setCell ⟨R,1,none⟩ (.int .i64 ((f:Int) + 1)) = W20 at *
  clear p0 p1 p2 p3 q0 q1 q2 q3 S19
  obtain ⟨⟨x0,x1,x2⟩,_⟩:=blk3 S20.x
  obtain ⟨⟨z0,z1,z2⟩,y0,y1,y2⟩:=blk3 S20.z
  obtain ⟨hL,hO⟩:=S20.out (a:=a) (by omega) (.inr ⟨rfl,HV3⟩)
  go_wp2
  exact bodyPost_ret (results_struct rfl _ _ w.heap.size _ rfl hL) rfl hO
end Go.Proofs.YtcmmdojlhfmddaaGreat.Sr

/- The document's own word (which word of a list a text is); what a pseudo-class is, by places. -/
set_option maxRecDepth 100000
namespace Go.Proofs.YtcmmdojlhfmddaaGreat.Sr
open Go.Proofs.YtcmmdojlhfmddaaGreat.Tre
open Go Go.RowKit Sl
def idx:List (List UInt8) → List UInt8 → Option Nat
 | [],_ => none
 | x :: l,s => if x = s then some 0 else (idx l s).map (· + 1)
theorem beq_false {s x:ByteArray} (h:¬ s = x):(s.toList == x.toList) = false:=by
 rw [ByteArray.toList_eq,ByteArray.toList_eq,beq_eq_false_iff_ne]
 intro e
 exact h (by
  cases s;cases x
  simp only [ByteArray.mk.injEq]
  exact Array.toList_inj.1 e)
def StrsIn (W:World) (g:Nat) (ss:List (List UInt8)):Prop:=∀ j s,ss[j]? = some s → W.cell? ⟨g,0 + j,none⟩ = some (.string ⟨s.toArray⟩)
theorem StrsIn.below {X Y:World} {g n:Nat} {ss:List (List UInt8)} (h:StrsIn X g ss) (hb:Below n X Y) (hg:g < n):StrsIn Y g ss:=fun j s hj => (hb.cell (p:=⟨g,0 + j,none⟩) hg).trans (h j s hj)
def strCells (ss:List (List UInt8)):List Value:=ss.map fun s => .string ⟨s.toArray⟩
theorem StrsIn.new (w:World) (ss:List (List UInt8)) (t:TypeId):StrsIn (w.alloc (.cells (strCells ss).toArray t)) w.heap.size ss:=fun j s hj => by
 rw [cell_of_block (heap_alloc_new w _),Nat.zero_add,List.getElem?_toArray,strCells,List.getElem?_map,hj]
 rfl
def idxV (l:List (List UInt8)) (s:List UInt8):Int × Bool:=match idx l s with
 | some n => ((n:Int),true)
 | none => (0,false)
theorem idx_lt:∀ {l:List (List UInt8)} {s:List UInt8} {n:Nat},idx l s = some n → n < l.length
 | x :: l,s,n,h => by
  unfold idx at h
  split at h
  ·cases h;simp
  ·obtain ⟨m,hm,rfl⟩:=Option.map_eq_some_iff.1 h
   have:=idx_lt hm
   simp
   omega
def Left (l:List (List UInt8)) (s:List UInt8) (k:Nat):Prop:=idx l s = (idx (l.drop k) s).map (· + k)
theorem Left.start (l:List (List UInt8)) (s:List UInt8):Left l s 0:=by
 unfold Left
 cases h:idx l s <;> simp [h]
theorem Left.next {l:List (List UInt8)} {s x:List UInt8} {k:Nat} (h:Left l s k) (hx:l[k]? = some x) (hne:¬ x = s):Left l s (k + 1):=by
 obtain ⟨hk,rfl⟩:=List.getElem?_eq_some_iff.1 hx
 unfold Left at *
 rw [h,List.drop_eq_getElem_cons hk,idx,if_neg hne,Option.map_map]
 congr 1
 funext n
 simp
 omega
theorem Left.hit {l:List (List UInt8)} {s x:List UInt8} {k:Nat} (h:Left l s k) (hx:l[k]? = some x) (he:x = s):idxV l s = ((k:Int),true):=by
 obtain ⟨hk,rfl⟩:=List.getElem?_eq_some_iff.1 hx
 unfold Left at h
 unfold idxV
 rw [h,List.drop_eq_getElem_cons hk,idx,if_pos he]
 simp
theorem Left.none {l:List (List UInt8)} {s:List UInt8} {k:Nat} (h:Left l s k) (hk:l.length ≤ k):idxV l s = (0,false):=by
 unfold Left at h
 rw [List.drop_eq_nil_of_le hk] at h
 unfold idxV
 rw [h]
 rfl
set_option maxHeartbeats 1000000 in
theorem refWord_any (s:ByteArray) (g cap:Nat) (ss:List (List UInt8)) (w:World) (hS:StrsIn w g ss) (_hl:ss.length ≤ 100) :
  Calls Tryz.prog 66 #[.string s,.slice (some ⟨g,0,none⟩) ss.length cap] w fun e w' => e = .returned (.tuple #[.int .i64 (idxV ss s.data.toList).1,.bool (idxV ss s.data.toList).2]) ∧ w' = w:=by
 obtain ⟨V,hV⟩:∃ V,idxV ss s.data.toList = V:=⟨_,rfl⟩
 rw [hV]
 go_enter Tryz.func66,Tryz.ntmps66
 go_wp2
 go_loopw [6] (fun i wr => ∃ k:Nat,i = .int .i64 k ∧ k ≤ ss.length ∧ Hid (Left ss s.data.toList k) ∧ w = wr) (fun i _ => ss.length - (intOf i).toNat)
 case atStart => exact ⟨0,rfl,Nat.zero_le _,Left.start _ _,rfl⟩
 case round =>
  obtain ⟨k,rfl,hk,HL,rfl⟩:=hrel
  by_cases hlt:k < ss.length
  ·have hki:(k:Int) < (ss.length:Int):=by omega
   obtain ⟨x,hx⟩:∃ x,ss[k]? = some x:=⟨_,List.getElem?_eq_getElem hlt⟩
   have hc:=hS k x hx
   rw [Nat.zero_add] at hc
   have hxe:(⟨x.toArray⟩:ByteArray) = s ↔ x = s.data.toList:=⟨fun e => by rw [← e],fun e => by rw [e]⟩
   generalize (⟨x.toArray⟩:ByteArray) = xs at hc hxe
   by_cases he:xs = s
   ·subst he
    obtain rfl:((k:Int),true) = V:=by rw [← hV];exact (Left.hit HL hx (hxe.1 rfl)).symm
    clear hV hS hx hxe HL
    go_wp2
    go_ret2
    exact ⟨rfl,rfl⟩
   ·have HL':Hid (Left ss s.data.toList (k + 1)):=Left.next HL hx (fun e => he (hxe.2 e))
    have hne:=beq_false he
    clear hV hx hxe HL hS
    go_wp2
    exact ⟨⟨k + 1,by go_num,by omega,HL',trivial⟩,by simp [intOf];omega⟩
  ·have hki:¬ (k:Int) < (ss.length:Int):=by omega
   obtain rfl:((0:Int),false) = V:=by rw [← hV];exact (Left.none HL (by omega)).symm
   clear hV HL hS
   go_wp2
   go_ret2
   exact ⟨rfl,rfl⟩
/-! ### pseudo-classes, by places -/
def wordsP:List (List UInt8):=[rootT,firstT,lastT,onlyT,emptyT]
theorem plain_idx (w:List UInt8):plainV w = (idx wordsP w).map (fun n => 1 + (n:Int)):=by
 simp only [plainV,wordsP,idx]
 by_cases h1:w = rootT
 ·subst h1;rfl
 by_cases h2:w = firstT
 ·subst h2;rfl
 by_cases h3:w = lastT
 ·subst h3;rfl
 by_cases h4:w = onlyT
 ·subst h4;rfl
 by_cases h5:w = emptyT
 ·subst h5;rfl
 simp [h1,h2,h3,h4,h5,Ne.symm h1,Ne.symm h2,Ne.symm h3,Ne.symm h4,Ne.symm h5]
def listX (d:Nat) (r:List Bt):Option (List Sel × List Bt):=(listV d r).bind fun x =>
 if d = 8 then (match x.2 with
  | [] => some (x.1,[])
  | _ => none)
 else match x.2 with
  | e :: r2 => if e.kind = 17 then some (x.1,r2) else none
  | [] => none
theorem listed_x {d:Nat} (hd:d < 8) (k:Int) (r:List Bt):listedV (innerV (d + 1)) k r = (listX d r).map fun x => (.mk k 0 0 x.1,x.2):=by
 unfold listedV listX
 show (listV d r).bind _ = _
 cases listV d r with
 | none => rfl
 | some x =>
  obtain ⟨l,r2⟩:=x
  simp only [Option.bind_some]
  rw [if_neg (by omega)]
  cases r2 with
  | nil => rfl
  | cons e r2 =>
   by_cases h:e.kind = 17
   ·simp [h]
   ·simp [h]
theorem listed_0 (k:Int) (r:List Bt):listedV (innerV 0) k r = none:=rfl
theorem ps_at (L:Inner) (ts:List Bt) (a:Nat):pseudoV L (ts.drop a) =
  if (at' ts a).kind = 1 then (plainV (lowOf (at' ts a))).map fun k => (.mk k 0 0 [],ts.drop (a + 1))
  else if (at' ts a).kind = 20 then
   if lowOf (at' ts a) = nthT then (nthV (ts.drop (a + 1))).map fun x => (.mk 6 x.1 x.2.1 [],x.2.2)
   else if lowOf (at' ts a) = notT then listedV L 7 (ts.drop (a + 1))
   else if lowOf (at' ts a) = isT then listedV L 8 (ts.drop (a + 1))
   else none
  else none:=by
 by_cases hl:a < ts.length
 ·rw [at_cons hl];rfl
 ·rw [(at_none (by omega)).1,(at_none (by omega)).2];rfl
def PsOut (n₀ R:Nat) (v:Value) (ts:List Bt) (d:Nat) (w:World) (a:Nat) (V:Option (Ps × List Bt)) (e:Ending) (w':World):Prop:=
 ∃ (x:Ps) (y:Value) (b:Nat) (bad:Bool),e = .returned (.agg #[.int .i64 x.kind,.int .i64 x.a,.int .i64 x.b,y]) ∧ SelsAt d (fun b => w.heap.size ≤ b) w' y x.list ∧ Pk n₀ w' R v ts b bad (8 - (d:Int)) ∧ a + 1 ≤ b ∧ ((bad = false ∧ V = some (x,ts.drop b) ∧ b ≤ ts.length) ∨ (bad = true ∧ V = none)) ∧ But R w w'
def InOut (n₀ R:Nat) (v:Value) (ts:List Bt) (d:Nat) (w:World) (a:Nat) (e:Ending) (w':World):Prop:=
 ∃ (l:List Sel) (y:Value) (b:Nat) (bad:Bool),e = .returned y ∧ SelsAt d (fun b => w.heap.size ≤ b) w' y l ∧ Pk n₀ w' R v ts b bad (8 - (d:Int)) ∧ a ≤ b ∧ ((bad = false ∧ (∀ k,listedV (innerV d) k (ts.drop a) = some (.mk k 0 0 l,ts.drop b)) ∧ b ≤ ts.length) ∨ (bad = true ∧ ∀ k,listedV (innerV d) k (ts.drop a) = none)) ∧ But R w w'
def InOK (n₀ d:Nat):Prop:=∀ (R:Nat) (v:Value) (ts:List Bt) (a:Nat) (w:World),Pk n₀ w R v ts a false (8 - (d:Int)) → a ≤ ts.length → Sl.Good ts → Calls Tryz.prog 98 #[.pointer (some ⟨R,0,none⟩)] w (InOut n₀ R v ts d w a)
structure PsSt (n₀ R:Nat) (v:Value) (ts:List Bt) (deep:Int) (w:World) (X:Nat) (T:Bt) (b:Nat) (bad:Bool) (W:World):Prop where
 z:Blk W w.heap.size 160 [.int .i64 0,.int .i64 0,.int .i64 0,.slice none 0 0]
 t:Blk W X 85 [.int .i64 T.kind,.string T.text,.int .i64 T.n,.bool T.whole,.int .i64 T.c]
 p:Pk n₀ W R v ts b bad deep
 but:But R w W
 hX:w.heap.size < X
 hR:R < w.heap.size
section
variable {n₀ R:Nat} {v:Value} {ts:List Bt} {deep:Int} {w:World} {X:Nat} {T:Bt} {b:Nat} {bad:Bool} {W W':World}
theorem PsSt.below (h:PsSt n₀ R v ts deep w X T b bad W) (hb:Below W.heap.size W W'):PsSt n₀ R v ts deep w X T b bad W':=⟨h.z.below hb h.z.lt,h.t.below hb h.t.lt,h.p.below hb,h.but.trans (But.of_below hb),h.hX,h.hR⟩
theorem PsSt.go (h:PsSt n₀ R v ts deep w X T b bad W) {b':Nat} {bad':Bool} (hP:Pk n₀ W' R v ts b' bad' deep) (hb:But R W W'):PsSt n₀ R v ts deep w X T b' bad' W':=by
 have:=h.hX
 have:=h.hR
 exact ⟨hb.blk h.z (by omega),hb.blk h.t (by omega),hP,h.but.trans hb,h.hX,h.hR⟩
theorem PsSt.at (h:PsSt n₀ R v ts deep w X T b bad W) {b':Nat} (hb:b' ≤ ts.length + 10):PsSt n₀ R v ts deep w X T b' bad (W.setCell ⟨R,1,none⟩ (.int .i64 b')):=h.go (h.p.set hb) (But.set R W 1 _)
theorem PsSt.spoil (h:PsSt n₀ R v ts deep w X T b bad W):PsSt n₀ R v ts deep w X T b true (W.setCell ⟨R,2,none⟩ (.bool true)):=h.go (h.p.spoil true) (But.set R W 2 _)
end
theorem PsSt.out {n₀ R:Nat} {v:Value} {ts:List Bt} {d:Nat} {w:World} {X:Nat} {T:Bt} {b:Nat} {bad:Bool} {W:World} (h:PsSt n₀ R v ts (8 - (d:Int)) w X T b bad W) {a:Nat} {V:Option (Ps × List Bt)} (hab:a + 1 ≤ b) (x:Ps) (y:Value) (hy:SelsAt d (fun b => w.heap.size < b) W y x.list) (hv:(bad = false ∧ V = some (x,ts.drop b) ∧ b ≤ ts.length) ∨ (bad = true ∧ V = none)) :
  (loadVar 160 ⟨w.heap.size,0,none⟩).run Tryz.prog (set4 W w.heap.size (.int .i64 x.kind) (.int .i64 x.a) (.int .i64 x.b) y) = .ok (.agg #[.int .i64 x.kind,.int .i64 x.a,.int .i64 x.b,y]) (set4 W w.heap.size (.int .i64 x.kind) (.int .i64 x.a) (.int .i64 x.b) y) ∧
  PsOut n₀ R v ts d w a V (.returned (.agg #[.int .i64 x.kind,.int .i64 x.a,.int .i64 x.b,y])) (set4 W w.heap.size (.int .i64 x.kind) (.int .i64 x.a) (.int .i64 x.b) y):=by
 have h1:=h.hR
 have h2:=h.p.low
 refine ⟨load_ps (blk_set4 h.z _ _ _ _),x,y,b,bad,rfl,?_,?_,hab,hv,?_⟩
 ·refine hy.fr d ⟨(grown_set4 W _ _ _ _ _).size,fun c hc hl => ⟨(grown_set4 W w.heap.size _ _ _ _).block c hl.lt (fun e => ?_),by omega⟩⟩
  cases e
  omega
 ·exact h.p.other4 (by omega) (by omega) _ _ _ _
 ·exact But.fresh4 h.but (Nat.le_refl _) _ _ _ _
end Go.Proofs.YtcmmdojlhfmddaaGreat.Sr

/- The document's own reader of selectors: a pseudo-class (pseudo), where lists within it (inner) are read. -/
set_option maxRecDepth 100000
namespace Go.Proofs.YtcmmdojlhfmddaaGreat.Sr
open Go.Proofs.YtcmmdojlhfmddaaGreat.Tre
open Go Go.RowKit Sl
theorem str_ne {z:ByteArray} {l:List UInt8} (h:¬ z.data.toList = l):(z.toList == l) = false:=by
 rw [ByteArray.toList_eq,beq_eq_false_iff_ne]
 exact h
theorem PsSt.fresh {n₀ R:Nat} {v:Value} {ts:List Bt} {deep:Int} {w:World} {X:Nat} {T:Bt} {b:Nat} {bad:Bool} {W:World} (h:PsSt n₀ R v ts deep w X T b bad W) {C i:Nat} (hC:w.heap.size < C) (hX:X ≠ C) (u:Value):PsSt n₀ R v ts deep w X T b bad (W.setCell ⟨C,i,none⟩ u):=by
 have:=h.hR
 have:=h.p.low
 exact ⟨Blk.other h.z (by omega) u,Blk.other h.t hX u,h.p.other (by omega) (by omega) u,Kept.fresh h.but (by omega) u,h.hX,h.hR⟩
set_option maxHeartbeats 2000000 in
theorem pseudo_any (n₀ R:Nat) (v:Value) (ts:List Bt) (a d:Nat) (w:World) (hP:Pk n₀ w R v ts a false (8 - (d:Int))) (ha:a ≤ ts.length) (hG:Sl.Good ts) (hI:InOK n₀ d) :
  Calls Tryz.prog 88 #[.pointer (some ⟨R,0,none⟩)] w (PsOut n₀ R v ts d w a (pseudoV (innerV d) (ts.drop a))):=by
 have hlm:=hP.most
 have hR:=hP.lt
 have b0:Below w.heap.size w (w.alloc (.cells #[.int .i64 0,.int .i64 0,.int .i64 0,.slice none 0 0] 160)):=(Below.refl _ w).alloc (Nat.le_refl _) _
 have kZ:Blk (w.alloc (.cells #[.int .i64 0,.int .i64 0,.int .i64 0,.slice none 0 0] 160)) w.heap.size 160 [.int .i64 0,.int .i64 0,.int .i64 0,.slice none 0 0]:=Blk.new w 160 _
 have hP1:=hP.below b0
 have hB1:But R w _:=But.of_below b0
 have H0:=ps_at (innerV d) ts a
 obtain ⟨V,hV⟩:∃ V,pseudoV (innerV d) (ts.drop a) = V:=⟨_,rfl⟩
 rw [hV] at H0 ⊢
 clear hV
 have HG:Hid (Sl.Good ts):=hG
 have HI:Hid (InOK n₀ d):=hI
 have HV:Hid (V = _):=H0
 have hTm:=Sl.Good.at hG a
 have HR:Hid ((at' ts a).kind ≠ 0 → a < ts.length):=fun h => at_lt h
 clear hG hI H0
 go_enter Tryz.func88,Tryz.ntmps88
 go_upto_region 1 with fail
 generalize w.alloc (.cells #[.int .i64 0,.int .i64 0,.int .i64 0,.slice none 0 0] 160) = W1 at *
 have h1:=see_any n₀ R v ts a false (8 - (d:Int)) 0 W1 hP1 (by omega)
 rw [Nat.add_zero] at h1
 generalize at' ts a = T at *
 unfold tkV at h1
 go_wp2_with fail
 refine h1.mono ?_
 clear h1
 rintro e w2 ⟨rfl,b2⟩
 have bT:Below w2.heap.size w2 (w2.alloc (.cells #[.int .i64 T.kind,.string T.text,.int .i64 T.n,.bool T.whole,.int .i64 T.c] 85)):=(Below.refl _ _).alloc (Nat.le_refl _) _
 have kT:Blk (w2.alloc (.cells #[.int .i64 T.kind,.string T.text,.int .i64 T.n,.bool T.whole,.int .i64 T.c] 85)) w2.heap.size 85 [.int .i64 T.kind,.string T.text,.int .i64 T.n,.bool T.whole,.int .i64 T.c]:=Blk.new w2 85 _
 have b23:=below_next b2 bT
 have S3:PsSt n₀ R v ts (8 - (d:Int)) w w2.heap.size T a false _:=⟨kZ.below b23 kZ.lt,kT,hP1.below b23,hB1.trans (But.of_below b23),Nat.lt_of_lt_of_le kZ.lt b2.size,hR⟩
 clear b2 bT kT b23 kZ hP1 hB1 hP b0
 go_upto_region 2 with fail
 generalize w2.alloc (.cells #[.int .i64 T.kind,.string T.text,.int .i64 T.n,.bool T.whole,.int .i64 T.c] 85) = W3 at *
 generalize w2.heap.size = X at *
 obtain ⟨⟨p0,p1,p2,p3⟩,q0,q1,q2,q3⟩:=blk4 S3.p.blk
 have hw1:IntKind.i64.wrap ((a:Int) + 1) = (a:Int) + 1:=by rw [IntKind.wrap_i64];omega
 have S4:=S3.at (b':=a + 1) (by omega)
 push_cast at S4
 go_upto_region 3 with fail
 generalize W3.setCell ⟨R,1,none⟩ (.int .i64 ((a:Int) + 1)) = W4 at *
 clear p0 p1 p2 p3 q0 q1 q2 q3 S3 hw1
 obtain ⟨⟨t0,t1,t2,t3,t4⟩,_⟩:=blk5 S4.t
 have hlow:=Lw.refLower_any T.text W4 (Nat.le_trans hTm.1 (by decide))
 obtain ⟨low,hlw⟩:∃ low,Lw.low T.text.data.toList = low:=⟨_,rfl⟩
 have HVl:Hid (V = if T.kind = 1 then (plainV low).map fun k => (.mk k 0 0 [],ts.drop (a + 1))
  else if T.kind = 20 then
   if low = nthT then (nthV (ts.drop (a + 1))).map fun x => (.mk 6 x.1 x.2.1 [],x.2.2)
   else if low = notT then listedV (innerV d) 7 (ts.drop (a + 1))
   else if low = isT then listedV (innerV d) 8 (ts.drop (a + 1))
   else none
  else none):=by
  rw [← hlw]
  exact HV
 rw [hlw] at hlow
 clear HV hlw
 go_wp2_with fail
 refine hlow.mono ?_
 clear hlow t0 t1 t2 t3 t4
 rintro e w5 ⟨rfl,b5⟩
 have S5:=S4.below b5
 clear S4 b5
 obtain ⟨⟨t0,t1,t2,t3,t4⟩,_⟩:=blk5 S5.t
 have nilS:∀ W,SelsAt d (fun b => w.heap.size < b) W (.slice none 0 0) []:=fun W => SelsAt.nil d _ W
 have HN:Hid (∀ W,SelsAt d (fun b => w.heap.size < b) W (.slice none 0 0) []):=nilS
 clear nilS
 by_cases g1:T.kind = 1
 ·have HV1:Hid (V = (plainV low).map fun k => (.mk k 0 0 [],ts.drop (a + 1))):=(show V = _ from HVl).trans (if_pos g1)
  have hla:a < ts.length:=(show _ → _ from HR) (by rw [g1];decide)
  rw [g1] at t0
  have bL:Below w5.heap.size w5 (w5.alloc (.cells (strCells wordsP).toArray 9)):=(Below.refl _ _).alloc (Nat.le_refl _) _
  have hSt:=StrsIn.new w5 wordsP 9
  have S6:=S5.below bL
  have hwd:=refWord_any ⟨low.toArray⟩ w5.heap.size 5 wordsP _ hSt (by decide)
  obtain ⟨n,ok,hno,HV2⟩:∃ (n:Int) (ok:Bool),idxV wordsP low = (n,ok) ∧ Hid ((ok = true ∧ 0 ≤ n ∧ n < 5 ∧ V = some (.mk (1 + n) 0 0 [],ts.drop (a + 1))) ∨ (ok = false ∧ V = none)):=by
   have h:V = _:=HV1
   rw [plain_idx] at h
   unfold idxV
   cases hU:idx wordsP low with
   | none =>
    rw [hU] at h
    exact ⟨0,false,rfl,.inr ⟨rfl,h⟩⟩
   | some n =>
    have h5:=idx_lt hU
    rw [hU] at h
    exact ⟨n,true,rfl,.inl ⟨rfl,by omega,by simp [wordsP] at h5;omega,h⟩⟩
  rw [show (⟨low.toArray⟩:ByteArray).data.toList = low from rfl,hno] at hwd
  clear HVl g1 hSt bL HI HG hno HV1
  change Calls _ _ #[_,.slice (some ⟨w5.heap.size,0,none⟩) 5 5] _ _ at hwd
  unfold strCells wordsP rootT firstT lastT onlyT emptyT at hwd S6
  simp only [List.map_cons,List.map_nil] at hwd S6
  generalize (⟨low.toArray⟩:ByteArray) = zl at *
  go_upto_region 5 with fail
  go_wp2_with fail
  refine hwd.mono ?_
  clear hwd t0 t1 t2 t3 t4 S5
  rintro e w6 ⟨rfl,rfl⟩
  obtain ⟨⟨z0,z1,z2,z3⟩,y0,y1,y2,y3⟩:=blk4 S6.z
  obtain ⟨⟨p0,p1,p2,p3⟩,q0,q1,q2,q3⟩:=blk4 S6.p.blk
  cases ok with
  | true =>
   have HV3:Hid (0 ≤ n ∧ n < 5 ∧ V = some (.mk (1 + n) 0 0 [],ts.drop (a + 1))):=by
    rcases (show _ ∨ _ from HV2) with h | h
    ·exact h.2
    ·exact absurd h.1 (by decide)
   have hw1:IntKind.i64.wrap (1 + n) = 1 + n:=by
    obtain ⟨h1,h2,_⟩:=(show _ ∧ _ ∧ _ from HV3)
    rw [IntKind.wrap_i64];omega
   obtain ⟨hL,hO⟩:=S6.out (a:=a) (Nat.le_refl _) (.mk (1 + n) 0 0 []) (.slice none 0 0) ((show ∀ W,_ from HN) _) (.inl ⟨rfl,(show _ ∧ _ ∧ _ from HV3).2.2,hla⟩)
   clear HV2
   go_wp2
   exact bodyPost_ret (results_struct rfl _ _ w.heap.size _ rfl hL) rfl hO
  | false =>
   have HV3:Hid (V = none):=by
    rcases (show _ ∨ _ from HV2) with h | h
    ·exact absurd h.1 (by decide)
    ·exact h.2
   have S7:=S6.spoil
   clear HV2
   go_upto_region 9 with fail
   generalize World.setCell _ ⟨R,2,none⟩ (.bool true) = W7 at *
   clear p0 p1 p2 p3 q0 q1 q2 q3 z0 z1 z2 z3 y0 y1 y2 y3 S6
   obtain ⟨⟨z0,z1,z2,z3⟩,y0,y1,y2,y3⟩:=blk4 S7.z
   obtain ⟨hL,hO⟩:=S7.out (a:=a) (Nat.le_refl _) (.mk 0 0 0 []) (.slice none 0 0) ((show ∀ W,_ from HN) _) (.inr ⟨rfl,HV3⟩)
   go_wp2
   exact bodyPost_ret (results_struct rfl _ _ w.heap.size _ rfl hL) rfl hO
 ·have g1':(T.kind == 1) = false:=by simpa using g1
  have HV1:Hid (V = if T.kind = 20 then
   if low = nthT then (nthV (ts.drop (a + 1))).map fun x => (.mk 6 x.1 x.2.1 [],x.2.2)
   else if low = notT then listedV (innerV d) 7 (ts.drop (a + 1))
   else if low = isT then listedV (innerV d) 8 (ts.drop (a + 1))
   else none
  else none):=(show V = _ from HVl).trans (if_neg g1)
  clear HVl g1
  by_cases g20:T.kind = 20
  case neg =>
   have g20':(T.kind != 20) = true:=by simpa using g20
   have HV2:Hid (V = none):=(show V = _ from HV1).trans (if_neg g20)
   obtain ⟨⟨p0,p1,p2,p3⟩,q0,q1,q2,q3⟩:=blk4 S5.p.blk
   have S6:=S5.spoil
   clear HV1 g20 HI HG
   go_upto_region 12 with fail
   generalize World.setCell _ ⟨R,2,none⟩ (.bool true) = W7 at *
   clear p0 p1 p2 p3 q0 q1 q2 q3 S5
   obtain ⟨⟨z0,z1,z2,z3⟩,y0,y1,y2,y3⟩:=blk4 S6.z
   obtain ⟨hL,hO⟩:=S6.out (a:=a) (Nat.le_refl _) (.mk 0 0 0 []) (.slice none 0 0) ((show ∀ W,_ from HN) _) (.inr ⟨rfl,HV2⟩)
   go_wp2
   exact bodyPost_ret (results_struct rfl _ _ w.heap.size _ rfl hL) rfl hO
  have HV2:=(show V = _ from HV1).trans (if_pos g20)
  have hla:a < ts.length:=(show _ → _ from HR) (by rw [g20];decide)
  rw [g20] at t0
  replace HV2:Hid (V = _):=HV2
  have g20':(T.kind != 20) = false:=by simpa using g20
  clear HV1 g20 g1'
  go_upto_region 13 with fail
  clear t0 t1 t2 t3 t4
  by_cases gn:low = nthT
  ·subst gn
   have HV3:Hid (V = (nthV (ts.drop (a + 1))).map fun x => (.mk 6 x.1 x.2.1 [],x.2.2)):=(show V = _ from HV2).trans (if_pos rfl)
   have hn:=nth_any n₀ R v ts (a + 1) (8 - (d:Int)) w5 S5.p hla (fun t ht => ⟨Nat.le_trans ((show Sl.Good ts from HG) t ht).1 (by decide),((show Sl.Good ts from HG) t ht).2⟩)
   unfold nthT
   clear HV2 HI HG
   go_wp2_with fail
   refine hn.mono ?_
   clear hn
   rintro e w6 ⟨hcs,hb6⟩
   obtain ⟨A,B,b,bad,rfl,hab,hPb,hres⟩:∃ (A B:Int) (b:Nat) (bad:Bool),e = .returned (.agg #[.int .i64 6,.int .i64 A,.int .i64 B,.slice none 0 0]) ∧ a + 1 ≤ b ∧ Pk n₀ w6 R v ts b bad (8 - (d:Int)) ∧ Hid ((bad = false ∧ V = some (.mk 6 A B [],ts.drop b) ∧ b ≤ ts.length) ∨ (bad = true ∧ V = none)):=by
    rcases hcs with ⟨A,B,b,h1,h2,h3,rfl,h5⟩ | ⟨h1,⟨A,B,rfl⟩,b,h2,h3,h4⟩
    ·exact ⟨A,B,b,false,rfl,h2,h5,.inl ⟨rfl,by rw [show V = _ from HV3,h1];rfl,h3⟩⟩
    ·exact ⟨A,B,b,true,rfl,h2,h4,.inr ⟨rfl,by rw [show V = _ from HV3,h1];rfl⟩⟩
   have S6:=S5.go hPb hb6
   clear hcs S5 hPb hb6 HV3
   obtain ⟨⟨z0,z1,z2,z3⟩,y0,y1,y2,y3⟩:=blk4 S6.z
   obtain ⟨hL,hO⟩:=S6.out (a:=a) hab (.mk 6 A B []) (.slice none 0 0) ((show ∀ W,_ from HN) _) hres
   go_wp2
   exact bodyPost_ret (results_struct rfl _ _ w.heap.size _ rfl hL) rfl hO
  have m1:((⟨low.toArray⟩:ByteArray).toList == [110,116,104,45,99,104,105,108,100]) = false:=str_ne gn
  have HV3:=(show V = _ from HV2).trans (if_neg gn)
  replace HV3:Hid (V = _):=HV3
  clear HV2
  by_cases g7:low = notT
  ·subst g7
   have HV4:Hid (V = listedV (innerV d) 7 (ts.drop (a + 1))):=(show V = _ from HV3).trans (if_pos rfl)
   clear HV3 gn
   have bX:Below w5.heap.size w5 (w5.alloc (.cells #[.int .i64 7,.int .i64 0,.int .i64 0,.slice none 0 0] 160)):=(Below.refl _ _).alloc (Nat.le_refl _) _
   have kX:Blk (w5.alloc (.cells #[.int .i64 7,.int .i64 0,.int .i64 0,.slice none 0 0] 160)) w5.heap.size 160 [.int .i64 7,.int .i64 0,.int .i64 0,.slice none 0 0]:=Blk.new w5 160 _
   have S6:=S5.below bX
   have hXw:w.heap.size < w5.heap.size:=by have:=S5.z.lt;omega
   have hXX:X < w5.heap.size:=S5.t.lt
   unfold notT at m1 ⊢
   go_upto_region 21 with fail
   generalize w5.alloc (.cells #[.int .i64 7,.int .i64 0,.int .i64 0,.slice none 0 0] 160) = W6 at *
   have hs6:w5.heap.size < W6.heap.size:=kX.lt
   clear bX S5
   generalize w5.heap.size = XB at *
   have hin:=(show InOK n₀ d from HI) R v ts (a + 1) W6 S6.p hla HG
   clear HI HG
   go_wp2_with fail
   refine hin.mono ?_
   clear hin
   rintro e w7 ⟨l,y,b,bad,rfl,hsl,hPb,hab,hres,hb7⟩
   have S7:=S6.go hPb hb7
   have kX7:=hb7.blk kX (by omega)
   have HV5:Hid ((bad = false ∧ V = some (.mk 7 0 0 l,ts.drop b) ∧ b ≤ ts.length) ∨ (bad = true ∧ V = none)):=by
    rcases hres with ⟨h1,h2,h3⟩ | ⟨h1,h2⟩
    ·exact .inl ⟨h1,by rw [show V = _ from HV4,h2],h3⟩
    ·exact .inr ⟨h1,by rw [show V = _ from HV4,h2]⟩
   obtain ⟨py,my,cy,rfl⟩:∃ p m c,y = .slice p m c:=by
    cases d with
    | zero => exact ⟨_,_,_,hsl.2⟩
    | succ d => obtain ⟨p,c,h,_⟩:=FinRow.form hsl;exact ⟨_,_,_,h⟩
   have S8:=S7.fresh (C:=XB) (i:=3) hXw (by omega) (.slice py my cy)
   have kX8:=blk_put kX7 3 (.slice py my cy)
   have hsl8:SelsAt d (fun b => w.heap.size < b) (w7.setCell ⟨XB,3,none⟩ (.slice py my cy)) (.slice py my cy) l:=hsl.fr d ⟨(grown_set w7 XB 3 _).size,fun c hc hl => ⟨(grown_set w7 XB 3 _).block c hl.lt (fun e => by cases e;omega),by omega⟩⟩
   obtain ⟨⟨x0,x1,x2,x3⟩,e0,e1,e2,e3⟩:=blk4 kX7
   clear hres HV4 S6 S7 hPb hb7 hsl kX kX7 hs6
   go_upto_region 22 with fail
   generalize w7.setCell ⟨XB,3,none⟩ (.slice py my cy) = W8 at *
   clear x0 x1 x2 x3 e0 e1 e2 e3
   obtain ⟨⟨x0,x1,x2,x3⟩,e0,e1,e2,e3⟩:=blk4 (show Blk W8 XB 160 [.int .i64 7,.int .i64 0,.int .i64 0,.slice py my cy] from kX8)
   obtain ⟨⟨z0,z1,z2,z3⟩,y0,y1,y2,y3⟩:=blk4 S8.z
   obtain ⟨hL,hO⟩:=S8.out (a:=a) (by omega) (.mk 7 0 0 l) (.slice py my cy) hsl8 HV5
   go_wp2
   exact bodyPost_ret (results_struct rfl _ _ w.heap.size _ rfl hL) rfl hO
  have m2:((⟨low.toArray⟩:ByteArray).toList == [110,111,116]) = false:=str_ne g7
  replace HV3:Hid (V = _):=(show V = _ from HV3).trans (if_neg g7)
  by_cases g8:low = isT
  ·subst g8
   have HV4:Hid (V = listedV (innerV d) 8 (ts.drop (a + 1))):=(show V = _ from HV3).trans (if_pos rfl)
   clear HV3 gn g7
   have bX:Below w5.heap.size w5 (w5.alloc (.cells #[.int .i64 8,.int .i64 0,.int .i64 0,.slice none 0 0] 160)):=(Below.refl _ _).alloc (Nat.le_refl _) _
   have kX:Blk (w5.alloc (.cells #[.int .i64 8,.int .i64 0,.int .i64 0,.slice none 0 0] 160)) w5.heap.size 160 [.int .i64 8,.int .i64 0,.int .i64 0,.slice none 0 0]:=Blk.new w5 160 _
   have S6:=S5.below bX
   have hXw:w.heap.size < w5.heap.size:=by have:=S5.z.lt;omega
   have hXX:X < w5.heap.size:=S5.t.lt
   unfold isT at m1 m2 ⊢
   go_upto_region 21 with fail
   generalize w5.alloc (.cells #[.int .i64 8,.int .i64 0,.int .i64 0,.slice none 0 0] 160) = W6 at *
   have hs6:w5.heap.size < W6.heap.size:=kX.lt
   clear bX S5
   generalize w5.heap.size = XB at *
   have hin:=(show InOK n₀ d from HI) R v ts (a + 1) W6 S6.p hla HG
   clear HI HG
   go_wp2_with fail
   refine hin.mono ?_
   clear hin
   rintro e w7 ⟨l,y,b,bad,rfl,hsl,hPb,hab,hres,hb7⟩
   have S7:=S6.go hPb hb7
   have kX7:=hb7.blk kX (by omega)
   have HV5:Hid ((bad = false ∧ V = some (.mk 8 0 0 l,ts.drop b) ∧ b ≤ ts.length) ∨ (bad = true ∧ V = none)):=by
    rcases hres with ⟨h1,h2,h3⟩ | ⟨h1,h2⟩
    ·exact .inl ⟨h1,by rw [show V = _ from HV4,h2],h3⟩
    ·exact .inr ⟨h1,by rw [show V = _ from HV4,h2]⟩
   obtain ⟨py,my,cy,rfl⟩:∃ p m c,y = .slice p m c:=by
    cases d with
    | zero => exact ⟨_,_,_,hsl.2⟩
    | succ d => obtain ⟨p,c,h,_⟩:=FinRow.form hsl;exact ⟨_,_,_,h⟩
   have S8:=S7.fresh (C:=XB) (i:=3) hXw (by omega) (.slice py my cy)
   have kX8:=blk_put kX7 3 (.slice py my cy)
   have hsl8:SelsAt d (fun b => w.heap.size < b) (w7.setCell ⟨XB,3,none⟩ (.slice py my cy)) (.slice py my cy) l:=hsl.fr d ⟨(grown_set w7 XB 3 _).size,fun c hc hl => ⟨(grown_set w7 XB 3 _).block c hl.lt (fun e => by cases e;omega),by omega⟩⟩
   obtain ⟨⟨x0,x1,x2,x3⟩,e0,e1,e2,e3⟩:=blk4 kX7
   clear hres HV4 S6 S7 hPb hb7 hsl kX kX7 hs6
   go_upto_region 22 with fail
   generalize w7.setCell ⟨XB,3,none⟩ (.slice py my cy) = W8 at *
   clear x0 x1 x2 x3 e0 e1 e2 e3
   obtain ⟨⟨x0,x1,x2,x3⟩,e0,e1,e2,e3⟩:=blk4 (show Blk W8 XB 160 [.int .i64 8,.int .i64 0,.int .i64 0,.slice py my cy] from kX8)
   obtain ⟨⟨z0,z1,z2,z3⟩,y0,y1,y2,y3⟩:=blk4 S8.z
   obtain ⟨hL,hO⟩:=S8.out (a:=a) (by omega) (.mk 8 0 0 l) (.slice py my cy) hsl8 HV5
   go_wp2
   exact bodyPost_ret (results_struct rfl _ _ w.heap.size _ rfl hL) rfl hO
  have m3:((⟨low.toArray⟩:ByteArray).toList == [105,115]) = false:=str_ne g8
  replace HV3:Hid (V = none):=(show V = _ from HV3).trans (if_neg g8)
  generalize (⟨low.toArray⟩:ByteArray) = zl at *
  obtain ⟨⟨p0,p1,p2,p3⟩,q0,q1,q2,q3⟩:=blk4 S5.p.blk
  have S6:=S5.spoil
  clear gn g7 g8 HI HG
  go_upto_region 24 with fail
  generalize World.setCell _ ⟨R,2,none⟩ (.bool true) = W7 at *
  clear p0 p1 p2 p3 q0 q1 q2 q3 S5
  obtain ⟨⟨z0,z1,z2,z3⟩,y0,y1,y2,y3⟩:=blk4 S6.z
  obtain ⟨hL,hO⟩:=S6.out (a:=a) (Nat.le_refl _) (.mk 0 0 0 []) (.slice none 0 0) ((show ∀ W,_ from HN) _) (.inr ⟨rfl,HV3⟩)
  go_wp2
  exact bodyPost_ret (results_struct rfl _ _ w.heap.size _ rfl hL) rfl hO
theorem list_bad (n₀ R:Nat) (v:Value) (ts:List Bt) (a:Nat) (deep:Int) (w:World) (hP:Pk n₀ w R v ts a true deep) :
  Calls Tryz.prog 21 #[.pointer (some ⟨R,0,none⟩)] w fun e w' => e = .returned (.slice none 0 0) ∧ w' = w:=by
 obtain ⟨⟨p0,p1,p2,p3⟩,q0,q1,q2,q3⟩:=blk4 hP.blk
 go_enter Tryz.func21,Tryz.ntmps21
 go_wp2
 go_loopw [] (fun wr => w = wr) (fun _ => 0)
 case atStart => rfl
 case round =>
  subst hrel
  go_wp2
  go_ret
  exact ⟨rfl,rfl⟩
def ListOut (n₀ R:Nat) (v:Value) (ts:List Bt) (d:Nat) (w:World) (a:Nat) (e:Ending) (w':World):Prop:=
 ∃ (l:List Sel) (y:Value) (b:Nat) (bad:Bool),e = .returned y ∧ SelsAt (d + 1) (fun b => w.heap.size ≤ b) w' y l ∧ Pk n₀ w' R v ts b bad (8 - (d:Int)) ∧ a ≤ b ∧ ((bad = false ∧ listX d (ts.drop a) = some (l,ts.drop b) ∧ b ≤ ts.length) ∨ (bad = true ∧ listX d (ts.drop a) = none)) ∧ But R w w'
def ListOK (n₀ d:Nat):Prop:=∀ (R:Nat) (v:Value) (ts:List Bt) (a:Nat) (w:World),Pk n₀ w R v ts a false (8 - (d:Int)) → a ≤ ts.length → Sl.Good ts → Calls Tryz.prog 21 #[.pointer (some ⟨R,0,none⟩)] w (ListOut n₀ R v ts d w a)
theorem Pk.deep {n₀:Nat} {W:World} {R:Nat} {v:Value} {ts:List Bt} {a:Nat} {bad:Bool} {deep:Int} (h:Pk n₀ W R v ts a bad deep) (d:Int):Pk n₀ (W.setCell ⟨R,3,none⟩ (.int .i64 d)) R v ts a bad d:=
 ⟨blk_put h.blk 3 _,h.toks.below ((Below.refl n₀ W).setCell (p:=⟨R,3,none⟩) h.low _),h.low,h.least,h.most⟩
set_option maxHeartbeats 1000000 in
theorem inner_any (n₀ d:Nat) (hd:d ≤ 8) (hL:∀ d',d = d' + 1 → ListOK n₀ d'):InOK n₀ d:=by
 intro R v ts a w hP ha hG
 obtain ⟨⟨p0,p1,p2,p3⟩,q0,q1,q2,q3⟩:=blk4 hP.blk
 have hw1:IntKind.i64.wrap (8 - (d:Int) + 1) = 9 - (d:Int):=by rw [IntKind.wrap_i64];omega
 have hw2:IntKind.i64.wrap (9 - (d:Int) - 1) = 8 - (d:Int):=by rw [IntKind.wrap_i64];omega
 have hP1:=hP.deep (9 - (d:Int))
 have hB1:=But.set R w 3 (.int .i64 (9 - (d:Int)))
 go_enter Tryz.func98,Tryz.ntmps98
 go_upto_region 2 with fail
 generalize w.setCell ⟨R,3,none⟩ (.int .i64 (9 - (d:Int))) = W1 at *
 clear p0 p1 p2 p3 q0 q1 q2 q3
 obtain ⟨⟨p0,p1,p2,p3⟩,q0,q1,q2,q3⟩:=blk4 hP1.blk
 cases d with
 | zero =>
  have hP2:=hP1.spoil true
  have hB2:=hB1.trans (But.set R W1 2 (.bool true))
  go_upto_region 4 with fail
  generalize W1.setCell ⟨R,2,none⟩ (.bool true) = W2 at *
  clear p0 p1 p2 p3 q0 q1 q2 q3
  have h2:=list_bad n₀ R v ts a _ W2 hP2
  go_wp2_with fail
  refine h2.mono ?_
  clear h2
  rintro e w3 ⟨rfl,rfl⟩
  obtain ⟨⟨p0,p1,p2,p3⟩,q0,q1,q2,q3⟩:=blk4 hP2.blk
  have hP3:=hP2.deep (8 - ((0:Nat):Int))
  have hB3:=hB2.trans (But.set R w3 3 (.int .i64 (8 - ((0:Nat):Int))))
  clear hP1 hB1 hB2
  go_wp2
  go_ret
  exact ⟨[],_,a,true,rfl,SelsAt.nil _ _ _,hP3,Nat.le_refl _,.inr ⟨rfl,fun k => listed_0 k _⟩,hB3⟩
 | succ d =>
  have e9:9 - ((d + 1:Nat):Int) = 8 - (d:Int):=by omega
  have hgt:¬ (8:Int) < 8 - (d:Int):=by omega
  rw [e9] at hP1 p3 hw2
  rw [e9]
  have h2:=hL d rfl R v ts a W1 hP1 ha hG
  clear hL
  go_upto_region 4 with fail
  clear p0 p1 p2 p3 q0 q1 q2 q3
  go_wp2_with fail
  refine h2.mono ?_
  clear h2
  rintro e w3 ⟨l,y,b,bad,rfl,hsl,hPb,hab,hres,hb3⟩
  obtain ⟨⟨p0,p1,p2,p3⟩,q0,q1,q2,q3⟩:=blk4 hPb.blk
  have hP3:=hPb.deep (8 - ((d + 1:Nat):Int))
  have hB3:=(hB1.trans hb3).trans (But.set R w3 3 (.int .i64 (8 - ((d + 1:Nat):Int))))
  have hR:=hP.lt
  have hsz:=hB1.size
  have hsl3:SelsAt (d + 1) (fun b => w.heap.size ≤ b) (w3.setCell ⟨R,3,none⟩ (.int .i64 (8 - ((d + 1:Nat):Int)))) y l:=hsl.fr (d + 1) ⟨(grown_set w3 R 3 _).size,fun c hc hl => ⟨(grown_set w3 R 3 _).block c hl.lt (fun e => by cases e;omega),by omega⟩⟩
  have HF:Hid (InOut n₀ R v ts (d + 1) w a (.returned y) (w3.setCell ⟨R,3,none⟩ (.int .i64 (8 - ((d + 1:Nat):Int))))):=by
   refine ⟨l,y,b,bad,rfl,hsl3,hP3,hab,?_,hB3⟩
   rcases hres with ⟨h1,h2,h3⟩ | ⟨h1,h2⟩
   ·exact .inl ⟨h1,fun k => by rw [listed_x (by omega),h2];rfl,h3⟩
   ·exact .inr ⟨h1,fun k => by rw [listed_x (by omega),h2];rfl⟩
  clear hsl3 hP3 hB3 hres hsl hb3 hB1 hP1 hP
  push_cast at HF hw2
  go_wp2
  go_ret
  exact HF
end Go.Proofs.YtcmmdojlhfmddaaGreat.Sr
