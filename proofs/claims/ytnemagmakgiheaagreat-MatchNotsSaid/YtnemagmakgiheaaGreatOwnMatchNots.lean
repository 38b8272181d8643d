/- For all nodes and every two texts: the law tapestrierlaw10.MatchNots returns true; no condition. -/
import Derived.Test.YtnemagmakgiheaaGreatTxSels
import Derived.Test.YtnemagmakgiheaaGreatMtNots
import Derived.Test.YtnemagmakgiheaaGreatDmArgs
import Derived.Test.YtnemagmakgiheaaGreatRows
import Derived.HandedShaped
set_option maxRecDepth 100000
namespace Go.Proofs.YtnemagmakgiheaaGreat
open Go.Proofs.YtnemagmakgiheaaGreat.Tre
open Go Go.ChangeShapes Go.WideShapes Go.ChangeAt Go.RowKit Dm Mt Wg Pb
open Go.ChangeMaps (open_string shut_string)
set_option maxHeartbeats 8000000 in
theorem matchNots_walk (w:World) (hM:Mt.ML w) (v0:Value) (l:List Nv) (hl:NodesAt w.heap.size w v0 l) (hN:∀ n ∈ l,NdOk n.nd) (_h88:l.length * 88 ≤ 140737488351232) (a:ByteArray) (_ha:a.size ≤ 281474976710656) (b:ByteArray) (_hb:b.size ≤ 281474976710656) :
  Calls Tryz.prog 4 #[v0,.string a,.string b] w fun e w' => e = .returned (.bool true) ∧ Below w.heap.size w w':=by
 obtain ⟨p,cap,rfl⟩:=hl.row.len
 have h0:=Mt.alive_any w hM
 have HM:Hid (Mt.ML w):=hM
 have HL:Hid (NodesAt w.heap.size w (.slice p l.length cap) l):=hl
 have HN:Hid (∀ n ∈ l,NdOk n.nd):=hN
 clear hl hN hM
 go_enter Tryz.func4,Tryz.ntmps4
 go_wp2_with fail
 refine h0.mono ?_
 clear h0
 rintro e w1 ⟨rfl,b1⟩
 have ht:=Mt.trees_any _ l w1 (HM.out.next b1) (HL.out.next b1) HN.out
 go_wp2_with fail
 refine ht.mono ?_
 clear ht
 rintro e w4 ⟨hT,b5⟩
 have b15:=below_next b1 b5
 clear b1 b5
 unfold Mt.Trees at hT
 by_cases ha100:a.size ≤ 100
 case neg =>
  have hti':(100:Int) < (a.size:Int):=by omega
  rcases hT with rfl | ⟨tb,rb,b0,nv,dv,ns,ds,es,rfl,hG,hR,hE,hel,hl40,hV,hsm⟩
  ·go_wp2
   go_ret
   exact ⟨rfl,b15⟩
  ·clear hG hR hE hV hsm
   go_wp2
   go_ret
   exact ⟨rfl,b15⟩
 have hta:¬ ((100:Int) < (a.size:Int)):=by omega
 by_cases hb100:b.size ≤ 100
 case neg =>
  have hti':(100:Int) < (b.size:Int):=by omega
  rcases hT with rfl | ⟨tb,rb,b0,nv,dv,ns,ds,es,rfl,hG,hR,hE,hel,hl40,hV,hsm⟩
  ·go_wp2
   go_ret
   exact ⟨rfl,b15⟩
  ·clear hG hR hE hV hsm
   go_wp2
   go_ret
   exact ⟨rfl,b15⟩
 have htb:¬ ((100:Int) < (b.size:Int)):=by omega
 rcases hT with rfl | ⟨tb,rb,b0,nv,dv,ns,ds,es,rfl,hG,hR,hE,hel,hl40,hV,hsm⟩
 ·go_wp2
  go_ret
  exact ⟨rfl,b15⟩
 have HG:Hid (Mt.Good w4 tb es ∧ es.length = l.length):=⟨hG,hel⟩
 have hsx:=Pb.sels_full a w4 (by omega)
 have hsy:=fun X => Pb.sels_full b X (by omega)
 have hln:l.length ≤ 40:=hl40
 clear hG hR hE hV hsm hl40 hel HM HL HN
 go_wp2_with fail
 refine hsx.mono ?_
 clear hsx
 rintro e w5 ⟨x,vx,rfl,hX,b6⟩
 have b16:=below_next b15 b6
 have H45:Hid (Below w4.heap.size w4 w5):=b6
 have hsy5:=hsy w5
 clear b15 b6 hsy
 go_wp2_with fail
 refine hsy5.mono ?_
 clear hsy5
 rintro e w6 ⟨y,vy,rfl,hY,b7⟩
 have b17:=below_next b16 b7
 have H46:Hid (Below w4.heap.size w4 w6):=below_next H45.out b7
 have hX6:=hX.next b7
 obtain ⟨qx,cx,rfl⟩:=Wg.RowT.len hX6.r9
 obtain ⟨qy,cy,rfl⟩:=Wg.RowT.len hY.r9
 have hlx:=hX6.few
 have hly:=hY.few
 have hdx:=Wg.Dear_deep _ x w6 hX6.r11
 have HX:Hid (TxAt w6 (.slice qx x.length cx) x):=hX6
 have HY:Hid (TxAt w6 (.slice qy y.length cy) y):=hY
 clear hX hX6 hY b16 b7 H45
 go_wp2_with fail
 refine hdx.mono ?_
 clear hdx
 rintro e w7 ⟨much,rfl,HDX,b8⟩
 cases much with
 | true =>
  have b18:=below_next b17 b8
  clear HX HY
  go_wp2
  go_ret
  exact ⟨rfl,b18⟩
 | false =>
 have hdy:=Wg.Dear_deep _ y w7 (HY.out.next b8).r11
 go_wp2_with fail
 refine hdy.mono ?_
 clear hdy
 rintro e w8 ⟨much,rfl,HDY,b9⟩
 have b89:=below_next b8 b9
 have b19:=below_next b17 b89
 have HX8:Hid (TxAt w8 (.slice qx x.length cx) x):=HX.out.next b89
 have HY8:Hid (TxAt w8 (.slice qy y.length cy) y):=HY.out.next b89
 have H48:Hid (Below w4.heap.size w4 w8):=below_next H46.out b89
 clear HX HY b8 b9 b89 b17 H46
 cases much with
 | true =>
  go_wp2
  go_ret
  exact ⟨rfl,b19⟩
 | false =>
 by_cases hx0:x.length = 0
 ·have hxi:(x.length:Int) = 0:=by omega
  go_wp2
  go_ret
  exact ⟨rfl,b19⟩
 have hxi:¬ ((x.length:Int) = 0):=by omega
 by_cases hy0:y.length = 0
 ·have hyi:(y.length:Int) = 0:=by omega
  go_wp2
  go_ret
  exact ⟨rfl,b19⟩
 have hyi:¬ ((y.length:Int) = 0):=by omega
 have hxd:((x.length:Int) == 0) = false:=beq_eq_false_iff_ne.2 hxi
 have hyd:((y.length:Int) == 0) = false:=beq_eq_false_iff_ne.2 hyi
 obtain ⟨v1,W1,v2,W2,hr1,hr2,hsr,b2⟩:=app_sels HX8.out.r11 HY8.out.r11 hlx hly
 have HAP1:Hid (_ = _):=hr1
 have HAP2:Hid (_ = _):=hr2
 obtain ⟨Z1,hZ1⟩:∃ Z,W2.alloc (.cells #[.int .i64 8,.int .i64 0,.int .i64 0,v2] 40) = Z:=⟨_,rfl⟩
 obtain ⟨Z2,hZ2⟩:∃ Z,Z1.alloc (.cells #[.string ⟨#[]⟩,.slice none 0 0,.slice none 0 0,.slice none 0 0,.slice (some ⟨W2.heap.size,0,none⟩) 1 1] 45) = Z:=⟨_,rfl⟩
 obtain ⟨Z3,hZ3⟩:∃ Z,Z2.alloc (.cells #[.int .i64 7,.int .i64 0,.int .i64 0,v2] 40) = Z:=⟨_,rfl⟩
 obtain ⟨Z4,hZ4⟩:∃ Z,Z3.alloc (.cells #[.string ⟨#[]⟩,.slice none 0 0,.slice none 0 0,.slice none 0 0,.slice (some ⟨Z2.heap.size,0,none⟩) 1 1] 45) = Z:=⟨_,rfl⟩
 have c1:Below W2.heap.size W2 Z1:=by rw [← hZ1];exact (Below.refl _ _).alloc (Nat.le_refl _) _
 have c2:Below Z1.heap.size Z1 Z2:=by rw [← hZ2];exact (Below.refl _ _).alloc (Nat.le_refl _) _
 have c3:Below Z2.heap.size Z2 Z3:=by rw [← hZ3];exact (Below.refl _ _).alloc (Nat.le_refl _) _
 have c4:Below Z3.heap.size Z3 Z4:=by rw [← hZ4];exact (Below.refl _ _).alloc (Nat.le_refl _) _
 have k1:Blk Z1 W2.heap.size 40 [.int .i64 8,.int .i64 0,.int .i64 0,v2]:=by rw [← hZ1];exact Blk.new W2 _ _
 have k2:Blk Z2 Z1.heap.size 45 [.string ⟨#[]⟩,.slice none 0 0,.slice none 0 0,.slice none 0 0,.slice (some ⟨W2.heap.size,0,none⟩) 1 1]:=by rw [← hZ2];exact Blk.new Z1 _ _
 have k3:Blk Z3 Z2.heap.size 40 [.int .i64 7,.int .i64 0,.int .i64 0,v2]:=by rw [← hZ3];exact Blk.new Z2 _ _
 have k4:Blk Z4 Z3.heap.size 45 [.string ⟨#[]⟩,.slice none 0 0,.slice none 0 0,.slice none 0 0,.slice (some ⟨Z2.heap.size,0,none⟩) 1 1]:=by rw [← hZ4];exact Blk.new Z3 _ _
 have c14:=below_next (below_next (below_next c1 c2) c3) c4
 have HNT:Hid (Nots Z4 v2 (x ++ y) W2.heap.size Z1.heap.size Z2.heap.size Z3.heap.size ∧ Below w4.heap.size w4 Z4 ∧ Below w8.heap.size w8 Z4):=
  ⟨⟨k1.next (below_next (below_next c2 c3) c4),k2.next (below_next c3 c4),k3.next c4,k4,hsr.next c14⟩,below_next H48.out (below_next b2 c14),below_next b2 c14⟩
 have hqv:=hsr.form
 clear c1 c2 c3 c4 k1 k2 k3 k4 c14 hsr b2 hr1 hr2
 obtain ⟨qv,mv,cv,rfl⟩:=hqv
 obtain ⟨Z5,hZ5⟩:∃ Z,Z4.alloc (.cells #[.int .i64 0,.string ⟨#[]⟩,.slice none 0 0,.slice none 0 0,.slice none 0 0,.slice (some ⟨W2.heap.size,0,none⟩) 1 1] 48) = Z:=⟨_,rfl⟩
 have c5:Below Z4.heap.size Z4 Z5:=by rw [← hZ5];exact (Below.refl _ _).alloc (Nat.le_refl _) _
 have k5:Blk Z5 Z4.heap.size 48 [.int .i64 0,.string ⟨#[]⟩,.slice none 0 0,.slice none 0 0,.slice none 0 0,.slice (some ⟨W2.heap.size,0,none⟩) 1 1]:=by rw [← hZ5];exact Blk.new Z4 _ _
 have NT5:=HNT.out.1.next c5
 have hps:PartsR 11 Z5.heap.size Z5 (.slice (some ⟨Z4.heap.size,0,none⟩) 1 1) [((0:Int),isC 8 (x ++ y))]:=parts_oneR (c:=isC 8 (x ++ y)) k5 (cp_psR (q:=.mk 8 0 0 (x ++ y)) NT5.p1 NT5.sr)
 have hdp:=deepSel_any 8 (Nat.le_refl _) _ _ Z5 (PartsR.cut (PartsR.cut (PartsR.cut hps)))
 rw [show (8:Int) - ((8:Nat):Int) = 0 from rfl,show cutS 8 (cutS 9 (cutS 10 [((0:Int),isC 8 (x ++ y))])) = cutS 8 [((0:Int),isC 8 (x ++ y))] by rw [show cutS 9 (cutS 10 [((0:Int),isC 8 (x ++ y))]) = cutS 9 [((0:Int),isC 8 (x ++ y))] from cutS_two 9 _];exact cutS_two 8 _,deepS_cut] at hdp
 obtain ⟨DV,hDV⟩:∃ t,deepS 8 [((0:Int),isC 8 (x ++ y))] = t:=⟨_,rfl⟩
 rw [hDV] at hdp
 have HDV:Hid (deepS 8 [((0:Int),isC 8 (x ++ y))] = DV):=hDV
 have HC5:Hid (Below Z4.heap.size Z4 Z5):=c5
 obtain ⟨⟨i0,i1,i2,i3,i4⟩,_⟩:=blk5 HNT.out.1.i1
 clear c5 k5 NT5 hps hDV
 go_wp2_with (at_builtin;refine wpList_plain rfl fun K hK => ?_;first | refine opw_app _ _ 28 rfl rfl rfl HAP1.out (hK _ _ ?_) | refine opw_app _ _ 28 rfl rfl rfl HAP2.out (hK _ _ ?_))
 refine hdp.mono ?_
 clear hdp i0 i1 i2 i3 i4 hZ1 hZ2 hZ3 hZ4 hZ5
 rintro e z6 ⟨rfl,c6⟩
 have HN6:Hid (Nots z6 (.slice qv mv cv) (x ++ y) W2.heap.size Z1.heap.size Z2.heap.size Z3.heap.size ∧ Below w4.heap.size w4 z6 ∧ Below w8.heap.size w8 z6):=
  ⟨HNT.out.1.next (below_next HC5.out c6),below_next HNT.out.2.1 (below_next HC5.out c6),below_next HNT.out.2.2 (below_next HC5.out c6)⟩
 have b26:=below_next b19 HN6.out.2.2
 clear c6 HNT HC5
 cases DV with
 | true =>
  go_wp2
  go_ret
  exact ⟨rfl,b26⟩
 | false =>
 have HAL:Hid ((x ++ y).all (fitsV 7) = true):=isC_good HDV.out
 generalize W2.heap.size = P1 at *
 generalize Z1.heap.size = I1 at *
 generalize Z2.heap.size = P2 at *
 generalize Z3.heap.size = I2 at *
 have HFX:Hid (FewD 11 x ∧ FewD 11 y):=⟨HDX.out trivial,HDY.out trivial⟩
 have HWD:Hid (WD 11 (x ++ y)):=by
  have h1:=HX8.out.wd
  have h2:=HY8.out.wd
  unfold WD at h1 h2 ⊢
  refine ⟨by rw [List.length_append];omega,fun s hs => ?_⟩
  rcases List.mem_append.1 hs with h | h
  ·exact h1.2 s h
  ·exact h2.2 s h
 have HFB:Hid (FewD 11 (x ++ y)):=by
  have h1:=HFX.out.1
  have h2:=HFX.out.2
  unfold FewD at h1 h2 ⊢
  intro s hs
  rcases List.mem_append.1 hs with h | h
  ·exact h1 s h
  ·exact h2 s h
 have CX:Hid (∀ k:Int,∀ X,Below z6.heap.size z6 X → Calls Tryz.prog 12 #[.pointer (some ⟨tb,0,none⟩),.int .i64 k,.slice qx x.length cx] X fun r w' => r = .returned (.bool (Mt.givenV es k x)) ∧ Below X.heap.size X w'):=fun k X hX =>
  (HG.out.1.next (below_next HN6.out.2.1 hX)).given k 11 _ x (Mt.sels_of 11 _ x (HX8.out.next (below_next HN6.out.2.2 hX)).r11 HFX.out.1 HX8.out.wd)
 have CY:Hid (∀ k:Int,∀ X,Below z6.heap.size z6 X → Calls Tryz.prog 12 #[.pointer (some ⟨tb,0,none⟩),.int .i64 k,.slice qy y.length cy] X fun r w' => r = .returned (.bool (Mt.givenV es k y)) ∧ Below X.heap.size X w'):=fun k X hX =>
  (HG.out.1.next (below_next HN6.out.2.1 hX)).given k 11 _ y (Mt.sels_of 11 _ y (HY8.out.next (below_next HN6.out.2.2 hX)).r11 HFX.out.2 HY8.out.wd)
 have CB:Hid (∀ k:Int,∀ X,Below z6.heap.size z6 X → Calls Tryz.prog 12 #[.pointer (some ⟨tb,0,none⟩),.int .i64 k,.slice qv mv cv] X fun r w' => r = .returned (.bool (Mt.givenV es k x || Mt.givenV es k y)) ∧ Below X.heap.size X w'):=fun k X hX => by
  have h:=(HG.out.1.next (below_next HN6.out.2.1 hX)).given k 11 _ (x ++ y) (Mt.sels_of 11 _ (x ++ y) (HN6.out.1.next hX).sr HFB.out HWD.out)
  rw [given_app] at h
  exact h
 have CI:Hid (∀ k:Nat,k < es.length → ∀ X,Below z6.heap.size z6 X → Calls Tryz.prog 17 #[.pointer (some ⟨tb,0,none⟩),.int .i64 (k:Int),.agg #[.string ⟨#[]⟩,.slice none 0 0,.slice none 0 0,.slice none 0 0,.slice (some ⟨P1,0,none⟩) 1 1]] X fun r w' => r = .returned (.bool (Mt.givenV es k x || Mt.givenV es k y)) ∧ Below X.heap.size X w'):=fun k hk X hX => by
  have hN:=HN6.out.1.next hX
  have h:=(HG.out.1.next (below_next HN6.out.2.1 hX)).cmp k 11 (isC 8 (x ++ y)) _ _ _ _ (cp_ps (q:=.mk 8 0 0 (x ++ y)) hN.p1 (Mt.sels_of 11 _ (x ++ y) hN.sr HFB.out HWD.out) (show Mt.i64 8 from ⟨by decide,by decide⟩) (show Mt.i64 0 from ⟨by decide,by decide⟩) (show Mt.i64 0 from ⟨by decide,by decide⟩) (by show (x ++ y).length ≤ _;rw [List.length_append];omega))
  rw [isC_comp hk (.inr rfl) HAL.out,given_app] at h
  exact h
 have CN:Hid (∀ k:Nat,k < es.length → ∀ X,Below z6.heap.size z6 X → Calls Tryz.prog 17 #[.pointer (some ⟨tb,0,none⟩),.int .i64 (k:Int),.agg #[.string ⟨#[]⟩,.slice none 0 0,.slice none 0 0,.slice none 0 0,.slice (some ⟨P2,0,none⟩) 1 1]] X fun r w' => r = .returned (.bool (!(Mt.givenV es k x || Mt.givenV es k y))) ∧ Below X.heap.size X w'):=fun k hk X hX => by
  have hN:=HN6.out.1.next hX
  have h:=(HG.out.1.next (below_next HN6.out.2.1 hX)).cmp k 11 (isC 7 (x ++ y)) _ _ _ _ (cp_ps (q:=.mk 7 0 0 (x ++ y)) hN.p2 (Mt.sels_of 11 _ (x ++ y) hN.sr HFB.out HWD.out) (show Mt.i64 7 from ⟨by decide,by decide⟩) (show Mt.i64 0 from ⟨by decide,by decide⟩) (show Mt.i64 0 from ⟨by decide,by decide⟩) (by show (x ++ y).length ≤ _;rw [List.length_append];omega))
  rw [isC_comp hk (.inl rfl) HAL.out,given_app] at h
  exact h
 have CELLS:Hid (∀ X,Below z6.heap.size z6 X → Blk X I1 45 [.string ⟨#[]⟩,.slice none 0 0,.slice none 0 0,.slice none 0 0,.slice (some ⟨P1,0,none⟩) 1 1] ∧ Blk X I2 45 [.string ⟨#[]⟩,.slice none 0 0,.slice none 0 0,.slice none 0 0,.slice (some ⟨P2,0,none⟩) 1 1]):=fun X hX => ⟨HN6.out.1.i1.next hX,HN6.out.1.i2.next hX⟩
 have HEL:Hid (es.length = l.length):=HG.out.2
 clear HAL HFX HWD HFB HX8 HY8 HG HN6 HDV HDX HDY H48 HAP1 HAP2
 go_wp2
 go_loopw [18] (fun y wr => ∃ k:Nat,y = .int .i64 k ∧ k ≤ l.length ∧ Below z6.heap.size z6 wr) (fun y _ => l.length - (intOf y).toNat)
 case atStart => exact ⟨0,rfl,Nat.zero_le _,Below.refl _ _⟩
 case round =>
  obtain ⟨k,rfl,hk,bw⟩:=hrel
  have HBW:Hid (Below z6.heap.size z6 wr):=bw
  clear bw
  by_cases hlt:k < l.length
  ·have hki:(k:Int) < (l.length:Int):=by omega
   have hke:k < es.length:=by rw [HEL.out];exact hlt
   have hcx:=CX.out k wr HBW.out
   have HCY:Hid (∀ X,Below z6.heap.size z6 X → Calls Tryz.prog 12 #[.pointer (some ⟨tb,0,none⟩),.int .i64 (k:Int),.slice qy y.length cy] X fun r w' => r = .returned (.bool (Mt.givenV es k y)) ∧ Below X.heap.size X w'):=CY.out k
   have HCB:Hid (∀ X,Below z6.heap.size z6 X → Calls Tryz.prog 12 #[.pointer (some ⟨tb,0,none⟩),.int .i64 (k:Int),.slice qv mv cv] X fun r w' => r = .returned (.bool (Mt.givenV es k x || Mt.givenV es k y)) ∧ Below X.heap.size X w'):=CB.out k
   have HCI:Hid (∀ X,Below z6.heap.size z6 X → Calls Tryz.prog 17 #[.pointer (some ⟨tb,0,none⟩),.int .i64 (k:Int),.agg #[.string ⟨#[]⟩,.slice none 0 0,.slice none 0 0,.slice none 0 0,.slice (some ⟨P1,0,none⟩) 1 1]] X fun r w' => r = .returned (.bool (Mt.givenV es k x || Mt.givenV es k y)) ∧ Below X.heap.size X w'):=CI.out k hke
   have HCN:Hid (∀ X,Below z6.heap.size z6 X → Calls Tryz.prog 17 #[.pointer (some ⟨tb,0,none⟩),.int .i64 (k:Int),.agg #[.string ⟨#[]⟩,.slice none 0 0,.slice none 0 0,.slice none 0 0,.slice (some ⟨P2,0,none⟩) 1 1]] X fun r w' => r = .returned (.bool (!(Mt.givenV es k x || Mt.givenV es k y))) ∧ Below X.heap.size X w'):=CN.out k hke
   generalize Mt.givenV es (k:Int) x = GX at *
   generalize Mt.givenV es (k:Int) y = GY at *
   clear CX CY CB CI CN
   go_wp2_with fail
   refine hcx.mono ?_
   clear hcx
   rintro r x1 ⟨rfl,a1⟩
   have B1:=below_next HBW.out a1
   have hcy:=HCY.out x1 B1
   clear a1 HCY
   go_wp2_with fail
   refine hcy.mono ?_
   clear hcy
   rintro r x2 ⟨rfl,a2⟩
   have HB2:Hid (Below z6.heap.size z6 x2):=below_next B1 a2
   clear a2 B1
   go_upto_region 21 with fail
   go_cut [128] (fun y wz => y = .bool false ∧ Below z6.heap.size z6 wz)
   case first =>
    cases GX with
    | true =>
     have hcb:=HCB.out x2 HB2.out
     simp only [Bool.true_or] at hcb
     go_wp2_with fail
     refine hcb.mono ?_
     clear hcb
     rintro r x3 ⟨rfl,a3⟩
     have B3:=below_next HB2.out a3
     obtain ⟨⟨i0,i1,i2,i3,i4⟩,_⟩:=blk5 (CELLS.out x3 B3).1
     have hci:=HCI.out x3 B3
     simp only [Bool.true_or] at hci
     clear a3
     go_wp2_with fail
     refine hci.mono ?_
     clear hci i0 i1 i2 i3 i4
     rintro r x4 ⟨rfl,a4⟩
     have B4:=below_next B3 a4
     obtain ⟨⟨i0,i1,i2,i3,i4⟩,_⟩:=blk5 (CELLS.out x4 B4).2
     have hcn:=HCN.out x4 B4
     simp only [Bool.true_or,Bool.not_true] at hcn
     clear a4 B3
     go_wp2_with fail
     refine hcn.mono ?_
     clear hcn i0 i1 i2 i3 i4
     rintro r x5 ⟨rfl,a5⟩
     have B5:=below_next B4 a5
     clear a5 B4
     go_wp2
     go_meet
     exact ⟨rfl,B5⟩
    | false =>
     cases GY with
     | true =>
      have hcb:=HCB.out x2 HB2.out
      simp only [Bool.or_true] at hcb
      go_wp2_with fail
      refine hcb.mono ?_
      clear hcb
      rintro r x3 ⟨rfl,a3⟩
      have B3:=below_next HB2.out a3
      obtain ⟨⟨i0,i1,i2,i3,i4⟩,_⟩:=blk5 (CELLS.out x3 B3).1
      have hci:=HCI.out x3 B3
      simp only [Bool.or_true] at hci
      clear a3
      go_wp2_with fail
      refine hci.mono ?_
      clear hci i0 i1 i2 i3 i4
      rintro r x4 ⟨rfl,a4⟩
      have B4:=below_next B3 a4
      obtain ⟨⟨i0,i1,i2,i3,i4⟩,_⟩:=blk5 (CELLS.out x4 B4).2
      have hcn:=HCN.out x4 B4
      simp only [Bool.or_true,Bool.not_true] at hcn
      clear a4 B3
      go_wp2_with fail
      refine hcn.mono ?_
      clear hcn i0 i1 i2 i3 i4
      rintro r x5 ⟨rfl,a5⟩
      have B5:=below_next B4 a5
      clear a5 B4
      go_wp2
      go_meet
      exact ⟨rfl,B5⟩
     | false =>
      have hcb:=HCB.out x2 HB2.out
      simp only [Bool.or_false] at hcb
      go_wp2_with fail
      refine hcb.mono ?_
      clear hcb
      rintro r x3 ⟨rfl,a3⟩
      have B3:=below_next HB2.out a3
      obtain ⟨⟨i0,i1,i2,i3,i4⟩,_⟩:=blk5 (CELLS.out x3 B3).1
      have hci:=HCI.out x3 B3
      simp only [Bool.or_false] at hci
      clear a3
      go_wp2_with fail
      refine hci.mono ?_
      clear hci i0 i1 i2 i3 i4
      rintro r x4 ⟨rfl,a4⟩
      have B4:=below_next B3 a4
      obtain ⟨⟨i0,i1,i2,i3,i4⟩,_⟩:=blk5 (CELLS.out x4 B4).2
      have hcn:=HCN.out x4 B4
      simp only [Bool.or_false,Bool.not_false] at hcn
      clear a4 B3
      go_wp2_with fail
      refine hcn.mono ?_
      clear hcn i0 i1 i2 i3 i4
      rintro r x5 ⟨rfl,a5⟩
      have B5:=below_next B4 a5
      clear a5 B4
      go_wp2
      go_meet
      exact ⟨rfl,B5⟩
   case rest =>
    rename World => wz
    obtain ⟨rfl,bZ⟩:=hcut
    go_wp2
    go_roundw
    case rel => exact ⟨k + 1,by go_num,by omega,bZ⟩
    case measure => simp [intOf];omega
  ·have hki:¬ (k:Int) < (l.length:Int):=by omega
   have b9:=below_next b26 HBW.out
   clear CX CY CB CI CN
   go_wp2
   go_ret
   exact ⟨rfl,b9⟩
theorem matchNots_lifted (os:Os) (started:os.Started) (H:Type) (enc:TypeId × Value → H) :
  ReturnsInHanded {} Tryz.checked os 4 .any (Rows.matchNotsSpec.pre6 enc Tryz.prog Tryz.f4 Rows.matchNotsRow.domain false) (Rows.matchNotsSpec.post enc Tryz.prog Tryz.f4 false true false false):=by
 refine returnsInHanded_of_change_shaped (C:=Tryz.checked) ownNone started (by kernel_rfl) Tryz.func4
  (ChangeSpec.witness6 (enc:=enc) (C:=Tryz.checked) false ⟨#[],#[.slice none 0 0,.string ⟨#[]⟩,.string ⟨#[]⟩],[]⟩ 8 (by kernel_rfl) (by kernel_rfl) (by kernel_rfl) (by kernel_rfl)) ?_
 intro W base args ds gs before hval hW _ hsz0 hS _
 have hW':=hW
 obtain ⟨p,q,hA0,hV,rfl,hfz,hnd⟩:=hW
 have hA:DataW.TrodAll enc Tryz.prog W 0 (fun _ => true) true Tryz.f4.params.toList args.toList ds p:=hA0
 rw [Tryz.params4] at hA hval hsz0
 obtain ⟨v0,vs0,d0,ds0,p0,q0,hargs,rfl,rfl,h0,r0⟩:=trodAll_cons hA
 obtain ⟨v1,vs1,d1,ds1,p1,q1,rfl,rfl,rfl,h1,r1⟩:=trodAll_cons r0
 obtain ⟨v2,vs2,d2,ds2,p2,q2,rfl,rfl,rfl,h2,r2⟩:=trodAll_cons r1
 obtain ⟨rfl,rfl,rfl⟩:=trodAll_nil r2
 obtain rfl:args = #[v0,v1,v2]:=by cases args;simp_all
 obtain ⟨rfl,rfl⟩:=trodVars_none hV
 have hsz:=List.all_eq_true.1 hsz0
 obtain ⟨a0,len0,cap0,rfl⟩:=okWide_slice Tryz.underlying22 (hval 0 22 v0 rfl rfl)
 have k0:=h0
 have lt0:∀ x ∈ p0,x.block < W.heap.size:=by obtain ⟨m,hm⟩:=k0;exact DataW.trod_lt m _ _ _ hm
 obtain ⟨z0,w0,y0,u0⟩:=Dm.nodesAt_of_reads k0 (fun n hn => by simpa using hsz n (DataW.weights_mem_each (j:=0) rfl rfl n hn))
 obtain ⟨s1,rfl,rfl,rfl,w1⟩:=open_string Tryz.underlying9 (hval 1 9 v1 rfl rfl) h1
 have y1:s1.size ≤ 281474976710656:=short_string (by simpa using hsz s1.data.toList.length (DataW.weights_mem_each (j:=1) rfl rfl _ (by simp [DataW.weights])))
 obtain ⟨s2,rfl,rfl,rfl,w2⟩:=open_string Tryz.underlying9 (hval 2 9 v2 rfl rfl) h2
 have y2:s2.size ≤ 281474976710656:=short_string (by simpa using hsz s2.data.toList.length (DataW.weights_mem_each (j:=2) rfl rfl _ (by simp [DataW.weights])))
 clear hA0
 refine (matchNots_walk W (Tryz.laysM144.s1_3 W hS) _ z0 w0 y0 u0 s1 y1 s2 y2).mono fun e W' ⟨he,bel⟩ => ?_
 subst he
 exact ⟨_,rfl,_,_,_,[],_,[],hW',trodAll_mk1 (shut_bool Tryz.underlying4 _),(trodAll_cons_mk (Below.trod laidOut (by kernel_rfl) (of_decide_eq_true (by kernel_rfl)) k0 bel lt0) (trodAll_cons_mk (shut_string Tryz.underlying9 w1) (trodAll_cons_mk (shut_string Tryz.underlying9 w2) trodAll_mk0))),rfl,bel.frame _,fun h => by cases h⟩
theorem matchNots_said:Rows.MatchNotsSaid:=
 OpenClaim.holds_of_wide 4 Tryz.f4 rfl rfl rfl rfl rfl rfl rfl ⟨rfl,rfl,rfl,rfl,rfl⟩ rfl rfl rfl rfl rfl (by kernel_rfl) Tryz.func4 (by kernel_rfl)
  (of_decide_eq_true (by kernel_rfl)) (by unfold Func.isWrapper;first | (rw [if_pos (by decide +kernel)];kernel_rfl) | (rw [if_neg (by decide +kernel)];exact ⟨rfl,rfl⟩))
  (fun os started H enc _ => matchNots_lifted os started H enc)
#print axioms matchNots_said
end Go.Proofs.YtnemagmakgiheaaGreat
