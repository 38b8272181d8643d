/- The document's Weight, of every selector that is few at every depth: what weigh.Of answers. -/
import Derived.Test.YtnemagmakgiheaaGreatWrSpec
import Derived.Test.YtnemagmakgiheaaGreatWgG
import Derived.Test.YtnemagmakgiheaaGreatRgn
import Derived.Test.YtnemagmakgiheaaGreatMtGc
set_option maxRecDepth 100000
namespace Go.Proofs.YtnemagmakgiheaaGreat.Wg
open Go.Proofs.YtnemagmakgiheaaGreat.Tre
open Go Go.RowKit Dm
theorem cut_any (n:Nat) (w:World):Calls Tryz.prog 79 #[.int .i64 n] w fun e w' => e = .returned (.int .i64 (min n 255:Nat)) ∧ w' = w:=by
 by_cases h:255 < n
 ·have hi:(255:Int) < (n:Int):=by omega
  have hm:min n 255 = 255:=by omega
  rw [hm]
  go_enter Tryz.func79,Tryz.ntmps79
  go_wp2
  go_ret
  exact ⟨rfl,rfl⟩
 ·have hi:¬ (255:Int) < (n:Int):=by omega
  have hm:min n 255 = n:=by omega
  rw [hm]
  go_enter Tryz.func79,Tryz.ntmps79
  go_wp2
  go_ret
  exact ⟨rfl,rfl⟩
structure WrSt (w:World) (v:Value) (o:Sm) (W:World):Prop where
 b:Blk W w.heap.size 36 [v]
 n:Blk W (w.heap.size + 1) 136 [.int .i64 (o.i:Nat),.int .i64 (o.c:Nat),.int .i64 (o.t:Nat)]
 bl:Below w.heap.size w W
theorem WrSt.below {w:World} {v:Value} {o:Sm} {W W':World} (h:WrSt w v o W) (hb:Below W.heap.size W W'):WrSt w v o W':=⟨h.b.next hb,h.n.next hb,below_next h.bl hb⟩
theorem WrSt.put {w:World} {v:Value} {o:Sm} {W:World} (h:WrSt w v o W) (k:Nat) (x:Value):Blk (W.setCell ⟨w.heap.size + 1,k,none⟩ x) w.heap.size 36 [v] ∧ Blk (W.setCell ⟨w.heap.size + 1,k,none⟩ x) (w.heap.size + 1) 136 ([.int .i64 (o.i:Nat),.int .i64 (o.c:Nat),.int .i64 (o.t:Nat)].set k x) ∧ Below w.heap.size w (W.setCell ⟨w.heap.size + 1,k,none⟩ x):=by
 have g:=grown_set W (w.heap.size + 1) k x
 exact ⟨h.b.kept g (fun e => by have:=Option.some.inj e;omega),blk_put h.n k x,Dm.below_grown h.bl g h.bl.size (by omega)⟩
theorem WrSt.setI {w:World} {v:Value} {o:Sm} {W:World} (h:WrSt w v o W) (x:Nat) {y:Int} (e:y = x):WrSt w v ⟨x,o.c,o.t⟩ (W.setCell ⟨w.heap.size + 1,0,none⟩ (.int .i64 y)):=by
 subst e
 obtain ⟨a,b,c⟩:=h.put 0 (.int .i64 x)
 exact ⟨a,b,c⟩
theorem WrSt.setC {w:World} {v:Value} {o:Sm} {W:World} (h:WrSt w v o W) (x:Nat) {y:Int} (e:y = x):WrSt w v ⟨o.i,x,o.t⟩ (W.setCell ⟨w.heap.size + 1,1,none⟩ (.int .i64 y)):=by
 subst e
 obtain ⟨a,b,c⟩:=h.put 1 (.int .i64 x)
 exact ⟨a,b,c⟩
theorem WrSt.setT {w:World} {v:Value} {o:Sm} {W:World} (h:WrSt w v o W) (x:Nat) {y:Int} (e:y = x):WrSt w v ⟨o.i,o.c,x⟩ (W.setCell ⟨w.heap.size + 1,2,none⟩ (.int .i64 y)):=by
 subst e
 obtain ⟨a,b,c⟩:=h.put 2 (.int .i64 x)
 exact ⟨a,b,c⟩
theorem blk_other {W:World} {B A k:Nat} {t:TypeId} {cs:List Value} (h:Blk W A t cs) (x:Value) (hne:A ≠ B):Blk (W.setCell ⟨B,k,none⟩ x) A t cs:=h.kept (grown_set W B k x) (fun e => hne (by cases e;rfl))
def bestV:Nat → List Sel → Nat → Nat
 | 0,_,_ => 0
 | d + 1,l,j => weightV ((l.take j).foldl (fun o s => heavier o (sumsV (greatV d) s)) Sm.zero)
theorem best_zero (d:Nat) (l:List Sel):bestV d l 0 = 0:=by cases d <;> rfl
theorem bestV_succ (d:Nat) (l:List Sel) (j:Nat):bestV (d + 1) l j = weightV ((l.take j).foldl (fun o s => heavier o (sumsV (greatV d) s)) Sm.zero):=rfl
theorem best_step {d:Nat} {l:List Sel} {j:Nat} {s:Sel} (h:l[j]? = some s):bestV (d + 1) l (j + 1) = if bestV (d + 1) l j < weightV (sumsV (greatV d) s) then weightV (sumsV (greatV d) s) else bestV (d + 1) l j:=by
 rw [bestV_succ,bestV_succ,List.take_add_one,h,List.foldl_append]
 exact heavier_w _ _
theorem best_end (d:Nat) (l:List Sel) (j:Nat) (h:¬ (j < l.length ∧ 0 < d)):bestV d l j = weightV (greatV d l):=by
 cases d with
 | zero => rfl
 | succ d =>
  rw [bestV_succ,List.take_of_length_le (by omega)]
  rfl
def RwOK (d:Nat):Prop:=∀ (v:Value) (s:Sel) (w:World),PartsR d w.heap.size w v s → FewT (d + 2) s → Calls Tryz.prog 50 #[.agg #[v],.int .i64 (8 - (d:Int))] w fun e w' => e = .returned (.int .i64 (weightV (sumsV (greatV d) s):Nat)) ∧ Below w.heap.size w w'
theorem takeF {α β:Type} (f:β → α → β) (z:β) {l:List α} {k:Nat} {x:α} (h:l[k]? = some x):(l.take (k + 1)).foldl f z = f ((l.take k).foldl f z) x:=by
 rw [List.take_add_one,h,List.foldl_append]
 rfl
set_option maxHeartbeats 8000000 in
theorem weight_of (d:Nat) (hd:d ≤ 8) (hI:∀ d',d = d' + 1 → RwOK d'):RwOK d:=by
 intro v s w hv hf
 obtain ⟨q,cap,rfl⟩:=RowT.len hv
 have H60:s.length ≤ 60:=hf.1
 obtain ⟨V,hV⟩:∃ V,weightV (sumsV (greatV d) s) = V:=⟨_,rfl⟩
 rw [hV]
 have HV:Hid (weightV (sumsV (greatV d) s) = V):=hV
 clear hV
 have HI:Hid (∀ d',d = d' + 1 → RwOK d'):=hI
 have HF:Hid (FewT (d + 2) s):=hf
 obtain ⟨D,hD⟩:∃ D:Int,8 - (d:Int) = D:=⟨_,rfl⟩
 rw [hD]
 have HD:Hid (8 - (d:Int) = D ∧ d ≤ 8):=⟨hD,hd⟩
 obtain ⟨W,hW⟩:∃ W,(w.alloc (.cells #[.slice q s.length cap] 36)).alloc (.cells #[.int .i64 0,.int .i64 0,.int .i64 0] 136) = W:=⟨_,rfl⟩
 have S0:WrSt w (.slice q s.length cap) Sm.zero W:=by
  rw [← hW]
  refine ⟨Mt.blk_alloc (Blk.new w 36 _) _,?_,((Below.refl _ w).alloc (Nat.le_refl _) _).alloc (by simp) _⟩
  have:=Blk.new (w.alloc (.cells #[.slice q s.length cap] 36)) 136 [.int .i64 0,.int .i64 0,.int .i64 0]
  rwa [World.size_alloc] at this
 have HP:Hid (∀ X,Below w.heap.size w X → PartsR d w.heap.size X (.slice q s.length cap) s):=fun X hX => PartsR.below hv hX
 clear hv hf hI hd hD
 go_enter Tryz.func50,Tryz.ntmps50
 go_upto_region 2 with fail
 clear hW
 obtain ⟨NB,hNB⟩:∃ NB,w.heap.size + 1 = NB:=⟨_,rfl⟩
 rw [hNB]
 go_wp2
 go_loopw [6] (fun x wr => ∃ (k:Nat) (o:Sm),x = .int .i64 k ∧ k ≤ s.length ∧ Hid (WrSt w (.slice q s.length cap) o wr) ∧ Hid ((s.take k).foldl (fun o p => rawC (greatV d) o p.2) Sm.zero = o) ∧ Hid (SmB (k * 1300) o)) (fun x _ => s.length - (intOf x).toNat)
 case atStart => exact ⟨0,Sm.zero,rfl,Nat.zero_le _,S0,rfl,⟨Nat.zero_le _,Nat.zero_le _,Nat.zero_le _⟩⟩
 case round =>
  clear S0
  obtain ⟨k,o,rfl,hk,S,HO,HB⟩:=hrel
  obtain ⟨sb,_⟩:=blk1 S.out.b
  by_cases hlt:k < s.length
  ·have hki:(k:Int) < (s.length:Int):=by omega
   obtain ⟨p,hp⟩:∃ p,s[k]? = some p:=⟨_,List.getElem?_eq_getElem hlt⟩
   have HO1:Hid ((s.take (k + 1)).foldl (fun o p => rawC (greatV d) o p.2) Sm.zero = rawC (greatV d) o p.2):=by
    show _ = _
    rw [takeF _ _ hp,HO.out]
   obtain ⟨hfc,hfq⟩:=HF.out.2 p (List.mem_of_getElem? hp)
   obtain ⟨f1,f2,f3,f4⟩:=hfc
   obtain ⟨b,off,vi,vk,va,vp,hq,hbn,hc1,hc2,⟨_,x1,x2,x3,x4,x5⟩,r1,r2,r3,r4⟩:=PartsR.get (HP.out wr S.out.bl) hp
   subst hq
   obtain ⟨qi,ci,rfl⟩:=r1.len
   obtain ⟨qk,ck,rfl⟩:=r2.len
   obtain ⟨qa,ca,rfl⟩:=r3.len
   obtain ⟨qp,cp,rfl⟩:=r4.len
   have R4:Hid (∀ X,Below w.heap.size wr X → RowT 4 (PsC (SelsR d w.heap.size X)) w.heap.size X (.slice qp p.2.pss.length cp) p.2.pss):=fun X hX => RowT.below r4 hX (fun _ _ ⟨x,e,hx⟩ => ⟨x,e,hx.below d hX⟩)
   have HFQ:Hid (∀ u ∈ p.2.pss,FewD (d + 2) u.list):=hfq
   have HFC:Hid (FewC p.2):=⟨f1,f2,f3,f4⟩
   clear r1 r2 r3 r4 hp hfq
   obtain ⟨A,hA⟩:∃ A,wr.alloc (.cells #[.string p.2.tag,.slice qi p.2.ids.length ci,.slice qk p.2.classes.length ck,.slice qa p.2.attrs.length ca,.slice qp p.2.pss.length cp] 45) = A:=⟨_,rfl⟩
   have KA:Hid (Blk A wr.heap.size 45 [.string p.2.tag,.slice qi p.2.ids.length ci,.slice qk p.2.classes.length ck,.slice qa p.2.attrs.length ca,.slice qp p.2.pss.length cp] ∧ Below wr.heap.size wr A):=by
    rw [← hA]
    exact ⟨Blk.new wr _ _,(Below.refl _ _).alloc (Nat.le_refl _) _⟩
   have HCN:Hid (w.heap.size + 1 < wr.heap.size):=S.out.n.lt
   go_upto_region 6 with fail
   clear hA x1 x2 x3 x4 x5 sb
   obtain ⟨CB,hCB⟩:∃ CB,wr.heap.size = CB:=⟨_,rfl⟩
   have SA:Hid (WrSt w (.slice (some ⟨b,off,none⟩) s.length cap) o A):=S.out.below KA.out.2
   have BA:Hid (Below w.heap.size wr A):=KA.out.2.mono S.out.bl.size
   have HB0:=HB.out
   obtain ⟨li,hli⟩:∃ n,p.2.ids.length = n:=⟨_,rfl⟩
   obtain ⟨lk,hlk⟩:∃ n,p.2.classes.length = n:=⟨_,rfl⟩
   obtain ⟨la,hla⟩:∃ n,p.2.attrs.length = n:=⟨_,rfl⟩
   obtain ⟨lp,hlp⟩:∃ n,p.2.pss.length = n:=⟨_,rfl⟩
   rw [hli] at KA
   rw [hlk] at KA
   rw [hla] at KA
   rw [hlp] at KA R4
   have HRN:Hid (rawN p.2 = ⟨li,lk + la,if p.2.tag = ⟨#[]⟩ then 0 else 1⟩ ∧ li ≤ 5 ∧ lk ≤ 5 ∧ la ≤ 5 ∧ lp ≤ 5):=by
    have h:=HFC.out
    exact ⟨by rw [← hli,← hlk,← hla];rfl,by rw [← hli];exact h.1,by rw [← hlk];exact h.2.1,by rw [← hla];exact h.2.2.1,by rw [← hlp];exact h.2.2.2⟩
   obtain ⟨_,f1,f2,f3,f4⟩:=HRN.out
   have HLP:Hid (p.2.pss.length = lp):=hlp
   clear hli hlk hla hlp HFC
   have hw1:IntKind.i64.wrap ((o.i:Int) + (li:Int)) = (o.i:Int) + (li:Int):=by rw [IntKind.wrap_i64];have:=HB0.1;omega
   have hw2:IntKind.i64.wrap ((o.c:Int) + (lk:Int)) = (o.c:Int) + (lk:Int):=by rw [IntKind.wrap_i64];have:=HB0.2.1;omega
   have hw3:IntKind.i64.wrap ((o.c:Int) + (lk:Int) + (la:Int)) = (o.c:Int) + (lk:Int) + (la:Int):=by rw [IntKind.wrap_i64];have:=HB0.2.1;omega
   have hw4:IntKind.i64.wrap ((o.t:Int) + 1) = (o.t:Int) + 1:=by rw [IntKind.wrap_i64];have:=HB0.2.2;omega
   clear HB0
   have KA2:Hid (Blk A CB 45 [.string p.2.tag,.slice qi li ci,.slice qk lk ck,.slice qa la ca,.slice qp lp cp] ∧ NB ≠ CB):=by
    rw [← hCB,← hNB]
    exact ⟨KA.out.1,by have:=HCN.out;omega⟩
   have hNBC:=KA2.out.2
   clear KA
   obtain ⟨⟨c0,c1,c2,c3,c4⟩,_⟩:=blk5 KA2.out.1
   obtain ⟨⟨n0,n1,n2⟩,n3,n4,n5⟩:=Mt.blk3 SA.out.n
   rw [hNB] at n0 n1 n2 n3 n4 n5
   rw [hCB] at *
   go_upto_region 7 with fail
   have S1:=SA.out.setI (o.i + li) (y:=(o.i:Int) + (li:Int)) (by omega)
   rw [hNB] at S1
   have K1:=blk_other KA2.out.1 (B:=NB) (k:=0) (.int .i64 ((o.i:Int) + (li:Int))) (Ne.symm KA2.out.2)
   have B1:=Dm.below_grown BA.out (grown_set A NB 0 (.int .i64 ((o.i:Int) + (li:Int)))) (by have:=BA.out.size;have:=HCN.out;omega) (by omega)
   generalize A.setCell ⟨NB,0,none⟩ (.int .i64 ((o.i:Int) + (li:Int))) = A1 at *
   clear c0 c1 c2 c3 c4 n0 n1 n2 n3 n4 n5
   obtain ⟨⟨c0,c1,c2,c3,c4⟩,_⟩:=blk5 K1
   obtain ⟨⟨_,n1,n2⟩,_,n4,n5⟩:=Mt.blk3 (show Blk A1 NB 136 [.int .i64 ((o.i + li:Nat):Int),.int .i64 (o.c:Int),.int .i64 (o.t:Int)] from by rw [← hNB];exact S1.n)
   have HS1:Hid (WrSt w (.slice (some ⟨b,off,none⟩) s.length cap) ⟨o.i + li,o.c,o.t⟩ A1):=S1
   have HK1:Hid (Blk A1 CB 45 [.string p.2.tag,.slice qi li ci,.slice qk lk ck,.slice qa la ca,.slice qp lp cp] ∧ Below w.heap.size wr A1):=⟨K1,B1⟩
   clear S1 K1 B1 SA KA2 BA hw1
   go_upto_region 8 with fail
   have S2:=HS1.out.setC (o.c + (lk + la)) (y:=(o.c:Int) + (lk:Int) + (la:Int)) (by omega)
   rw [hNB] at S2
   have K2:=blk_other HK1.out.1 (B:=NB) (k:=1) (.int .i64 ((o.c:Int) + (lk:Int) + (la:Int))) (Ne.symm hNBC)
   have B2:=Dm.below_grown HK1.out.2 (grown_set A1 NB 1 (.int .i64 ((o.c:Int) + (lk:Int) + (la:Int)))) (by have:=HK1.out.2.size;have:=HCN.out;omega) (by omega)
   generalize A1.setCell ⟨NB,1,none⟩ (.int .i64 ((o.c:Int) + (lk:Int) + (la:Int))) = A2 at *
   clear c0 c1 c2 c3 c4 n1 n2 n4 n5 hw2 hw3
   obtain ⟨⟨c0,c1,c2,c3,c4⟩,_⟩:=blk5 K2
   obtain ⟨⟨_,_,n2⟩,_,_,n5⟩:=Mt.blk3 (show Blk A2 NB 136 [.int .i64 ((o.i + li:Nat):Int),.int .i64 ((o.c + (lk + la):Nat):Int),.int .i64 (o.t:Int)] from by rw [← hNB];exact S2.n)
   have HS2:Hid (WrSt w (.slice (some ⟨b,off,none⟩) s.length cap) ⟨o.i + li,o.c + (lk + la),o.t⟩ A2):=S2
   have HK2:Hid (Blk A2 CB 45 [.string p.2.tag,.slice qi li ci,.slice qk lk ck,.slice qa la ca,.slice qp lp cp] ∧ Below w.heap.size wr A2):=⟨K2,B2⟩
   clear S2 K2 B2 HS1 HK1
   obtain ⟨te,hte⟩:∃ te,p.2.tag.toList.isEmpty = te:=⟨_,rfl⟩
   have HTE:Hid ((te = true → p.2.tag = ⟨#[]⟩) ∧ (te = false → ¬ p.2.tag = ⟨#[]⟩)):=by
    refine ⟨fun h => ?_,fun h e => ?_⟩
    ·rw [h,ByteArray.toList_eq] at hte
     exact ByteArray.ext (Array.toList_inj.1 (by simpa using hte))
    ·rw [h,e,ByteArray.toList_eq] at hte
     cases hte
   go_upto_if 46 with fail
   clear hte
   go_cut [46,47,48,49,50] (fun _ _ _ _ _ wx => Hid (WrSt w (.slice (some ⟨b,off,none⟩) s.length cap) (addV o (rawN p.2)) wx ∧ Blk wx CB 45 [.string p.2.tag,.slice qi li ci,.slice qk lk ck,.slice qa la ca,.slice qp lp cp] ∧ Below w.heap.size wr wx))
   case first =>
    cases te with
    | true =>
     have ht:=HTE.out.1 rfl
     have FIN:Hid (WrSt w (.slice (some ⟨b,off,none⟩) s.length cap) (addV o (rawN p.2)) A2 ∧ Blk A2 CB 45 [.string p.2.tag,.slice qi li ci,.slice qk lk ck,.slice qa la ca,.slice qp lp cp] ∧ Below w.heap.size wr A2):=by
      refine ⟨?_,HK2.out⟩
      rw [HRN.out.1,if_pos ht]
      exact HS2.out
     clear ht
     go_wp2
     go_meet
     exact FIN
    | false =>
     have ht:=HTE.out.2 rfl
     have FIN:Hid (WrSt w (.slice (some ⟨b,off,none⟩) s.length cap) (addV o (rawN p.2)) (A2.setCell ⟨NB,2,none⟩ (.int .i64 ((o.t:Int) + 1))) ∧ Blk (A2.setCell ⟨NB,2,none⟩ (.int .i64 ((o.t:Int) + 1))) CB 45 [.string p.2.tag,.slice qi li ci,.slice qk lk ck,.slice qa la ca,.slice qp lp cp] ∧ Below w.heap.size wr (A2.setCell ⟨NB,2,none⟩ (.int .i64 ((o.t:Int) + 1)))):=by
      have S3:=HS2.out.setT (o.t + 1) (y:=(o.t:Int) + 1) (by omega)
      rw [hNB] at S3
      refine ⟨?_,blk_other HK2.out.1 _ (Ne.symm hNBC),Dm.below_grown HK2.out.2 (grown_set A2 NB 2 _) (by have:=HK2.out.2.size;have:=HCN.out;omega) (by omega)⟩
      rw [HRN.out.1,if_neg ht]
      exact S3
     clear ht
     go_wp2
     go_meet
     exact FIN
   case rest =>
   clear c0 c1 c2 c3 c4 n2 n5 hw4 HS2 HK2
   go_wp2
   go_loopw [8] (fun x wy => ∃ (m:Nat) (o2:Sm),x = .int .i64 m ∧ m ≤ lp ∧ Hid (WrSt w (.slice (some ⟨b,off,none⟩) s.length cap) o2 wy ∧ Blk wy CB 45 [.string p.2.tag,.slice qi li ci,.slice qk lk ck,.slice qa la ca,.slice qp lp cp] ∧ Below w.heap.size wr wy) ∧ Hid ((p.2.pss.take m).foldl (fun o p => addV o (psV (greatV d) p)) (addV o (rawN p.2)) = o2) ∧ Hid (SmB (k * 1300 + 20 + m * 255) o2)) (fun x _ => lp - (intOf x).toNat)
   case atStart =>
    refine ⟨0,_,rfl,Nat.zero_le _,hcut,rfl,?_⟩
    have h1:=HB.out
    rw [HRN.out.1]
    refine ⟨?_,?_,?_⟩
    ·show o.i + li ≤ _
     have:=h1.1
     omega
    ·show o.c + (lk + la) ≤ _
     have:=h1.2.1
     omega
    ·show o.t + (if p.2.tag = ⟨#[]⟩ then 0 else 1) ≤ _
     have:=h1.2.2
     split <;> omega
   case round =>
    rename World => wy
    obtain ⟨m,o2,rfl,hm,HW,HO2,HB2⟩:=hrel
    obtain ⟨⟨_,_,_,_,c4⟩,_⟩:=blk5 HW.out.2.1
    by_cases hml:m < lp
    ·have hmi:(m:Int) < (lp:Int):=by omega
     obtain ⟨u,hu⟩:∃ u,p.2.pss[m]? = some u:=⟨_,List.getElem?_eq_getElem (by rw [HLP.out];exact hml)⟩
     have HO3:Hid ((p.2.pss.take (m + 1)).foldl (fun o p => addV o (psV (greatV d) p)) (addV o (rawN p.2)) = addV o2 (psV (greatV d) u)):=by
      show _ = _
      rw [takeF _ _ hu,HO2.out]
     obtain ⟨b3,off3,y,hq3,hbn3,he1,he2,hQ,⟨u0,u1,u2,u3⟩⟩:=pss_get (R4.out wy HW.out.2.2) hu
     subst hq3
     unfold maxLen at he2
     rw [HLP.out] at he1
     obtain ⟨qy,my,cy,rfl⟩:=hQ.form
     have HQ:Hid (SelsR d w.heap.size wy (.slice qy my cy) u.list ∧ FewD (d + 2) u.list):=⟨hQ,HFQ.out u (List.mem_of_getElem? hu)⟩
     obtain ⟨E,hE⟩:∃ E,wy.alloc (.cells #[.int .i64 u.kind,.int .i64 u.a,.int .i64 u.b,.slice qy my cy] 40) = E:=⟨_,rfl⟩
     have KE:Hid (Blk E wy.heap.size 40 [.int .i64 u.kind,.int .i64 u.a,.int .i64 u.b,.slice qy my cy] ∧ Below wy.heap.size wy E):=by
      rw [← hE]
      exact ⟨Blk.new wy _ _,(Below.refl _ _).alloc (Nat.le_refl _) _⟩
     have HCP:Hid (CB < wy.heap.size ∧ NB < wy.heap.size):=⟨HW.out.2.1.lt,by rw [← hNB];exact HW.out.1.n.lt⟩
     clear hQ hu
     go_upto_region 14 with fail
     clear hE u0 u1 u2 u3 c4
     obtain ⟨PB,hPB⟩:∃ PB,wy.heap.size = PB:=⟨_,rfl⟩
     rw [hPB] at KE ⊢
     have HWE:Hid (WrSt w (.slice (some ⟨b,off,none⟩) s.length cap) o2 E ∧ Blk E CB 45 [.string p.2.tag,.slice qi li ci,.slice qk lk ck,.slice qa la ca,.slice (some ⟨b3,off3,none⟩) lp cp] ∧ Below w.heap.size wr E ∧ Blk E PB 40 [.int .i64 u.kind,.int .i64 u.a,.int .i64 u.b,.slice qy my cy]):=by
      have hb:=KE.out.2
      rw [← hPB] at hb
      exact ⟨HW.out.1.below hb,HW.out.2.1.next hb,HW.out.2.2.trans (hb.mono HW.out.1.bl.size),KE.out.1⟩
     have HBE:Hid (Below w.heap.size wy E ∧ w.heap.size ≤ E.heap.size):=by
      have hb:=KE.out.2
      rw [← hPB] at hb
      exact ⟨hb.mono HW.out.1.bl.size,Nat.le_trans HW.out.1.bl.size hb.size⟩
     have HPC:Hid (CB < PB ∧ NB < PB):=by rw [← hPB];exact HCP.out
     clear KE
     obtain ⟨⟨g0,g1,g2,g3⟩,_⟩:=Mt.blk4 HWE.out.2.2.2
     obtain ⟨ls,hls⟩:∃ t,decide (¬ (u.kind = 7 ∨ u.kind = 8)) = t:=⟨_,rfl⟩
     have HLS:Hid (decide (¬ (u.kind = 7 ∨ u.kind = 8)) = ls):=hls
     go_cut [70] (fun x wx => x = .bool ls ∧ wx = E)
     case first =>
      clear g1 g2 g3
      by_cases e7:u.kind = 7
      ·have:ls = false:=by rw [← hls];exact decide_eq_false (fun h => h (.inl e7))
       subst this
       clear hls
       go_wp2
       go_meet
       exact ⟨rfl,rfl⟩
      ·by_cases e8:u.kind = 8
       ·have:ls = false:=by rw [← hls];exact decide_eq_false (fun h => h (.inr e8))
        subst this
        clear hls
        go_wp2
        go_meet
        exact ⟨rfl,rfl⟩
       ·have:ls = true:=by rw [← hls];exact decide_eq_true (fun h => h.elim e7 e8)
        subst this
        clear hls
        go_wp2
        go_meet
        exact ⟨by simp [e7,e8],rfl⟩
     case rest =>
     rename World => we
     obtain ⟨rfl,rfl⟩:=hcut
     clear hls
     cases ls with
     | true =>
      obtain ⟨⟨_,n1,_⟩,_,n4,_⟩:=Mt.blk3 (show Blk we NB 136 [.int .i64 (o2.i:Int),.int .i64 (o2.c:Int),.int .i64 (o2.t:Int)] from by rw [← hNB];exact HWE.out.1.n)
      have hw5:IntKind.i64.wrap ((o2.c:Int) + 1) = (o2.c:Int) + 1:=by rw [IntKind.wrap_i64];have:=HB2.out.2.1;omega
      have HPS:Hid (psV (greatV d) u = ⟨0,1,0⟩):=by
       show _ = _
       unfold psV
       exact if_neg (of_decide_eq_true HLS.out)
      have FIN:Hid ((WrSt w (.slice (some ⟨b,off,none⟩) s.length cap) (addV o2 (psV (greatV d) u)) (we.setCell ⟨NB,1,none⟩ (.int .i64 ((o2.c:Int) + 1))) ∧ Blk (we.setCell ⟨NB,1,none⟩ (.int .i64 ((o2.c:Int) + 1))) CB 45 [.string p.2.tag,.slice qi li ci,.slice qk lk ck,.slice qa la ca,.slice (some ⟨b3,off3,none⟩) lp cp] ∧ Below w.heap.size wr (we.setCell ⟨NB,1,none⟩ (.int .i64 ((o2.c:Int) + 1)))) ∧ SmB (k * 1300 + 20 + (m + 1) * 255) (addV o2 (psV (greatV d) u))):=by
       have S3:=HWE.out.1.setC (o2.c + 1) (y:=(o2.c:Int) + 1) (by omega)
       rw [hNB] at S3
       refine ⟨⟨?_,blk_other HWE.out.2.1 _ (Ne.symm hNBC),Dm.below_grown HWE.out.2.2.1 (grown_set we NB 1 _) (by have:=HWE.out.2.2.1.size;have:=HCN.out;omega) (by omega)⟩,?_⟩
       ·rw [HPS.out]
        exact S3
       ·rw [HPS.out]
        have h:=HB2.out
        exact ⟨by show o2.i + 0 ≤ _;have:=h.1;omega,by show o2.c + 1 ≤ _;have:=h.2.1;omega,by show o2.t + 0 ≤ _;have:=h.2.2;omega⟩
      clear g0 g1 g2 g3
      go_wp2
      go_roundw
      case rel => exact ⟨m + 1,_,by go_num,by omega,FIN.out.1,HO3,FIN.out.2⟩
      case measure => simp [intOf];omega
     | false =>
      have HPS:Hid (psV (greatV d) u = greatV d u.list):=by
       show _ = _
       unfold psV
       exact if_pos (Decidable.not_not.1 (of_decide_eq_false HLS.out))
      clear g0 g1 g2 g3
      go_upto_block 4 with fail
      go_cut [10,11,12,75,76,77,78,79,80,81,82,83,84,85,86,87,88,89,90,91,92,93,94,95,96,97] (fun x _ _ _ _ _ _ _ _ _ _ _ _ _ _ _ _ _ _ _ _ _ _ _ _ _ wx => x = .int .i64 (weightV (greatV d u.list):Nat) ∧ Below we.heap.size we wx)
      case first =>
       go_wp2
       go_loopw [10,11] (fun x10 x11 wz => ∃ (bs j:Nat),x10 = .int .i64 bs ∧ x11 = .int .i64 j ∧ Hid (bestV d u.list j = bs) ∧ Below we.heap.size we wz) (fun _ x11 _ => my - (intOf x11).toNat)
       case atStart => exact ⟨0,0,rfl,rfl,best_zero _ _,Below.refl _ _⟩
       case round =>
        rename World => wz
        obtain ⟨bs,j,rfl,rfl,HJ,bz⟩:=hrel
        obtain ⟨⟨_,_,_,g3⟩,_⟩:=Mt.blk4 (HWE.out.2.2.2.next bz)
        by_cases hjl:j < my
        ·have hji:(j:Int) < (my:Int):=by omega
         by_cases hD8:D < 8
         ·obtain ⟨d',hd'⟩:∃ d',d = d' + 1:=⟨d - 1,by have:=HD.out;omega⟩
          have HQZ:SelsR (d' + 1) w.heap.size wz (.slice qy my cy) u.list:=by
           have h:=HQ.out.1.below d (HBE.out.1.trans (bz.mono HBE.out.2))
           rwa [hd'] at h
          obtain ⟨_,_,hmy⟩:=RowT.len HQZ
          simp only [Value.slice.injEq] at hmy
          obtain ⟨x,hx⟩:∃ x,u.list[j]? = some x:=⟨_,List.getElem?_eq_getElem (by omega)⟩
          obtain ⟨b4,off4,xv,e4,hb4,k1,k2,hxp,y0⟩:=SelsR.get HQZ hx
          subst e4
          unfold maxLen at k2
          obtain ⟨xp,xc,rfl⟩:=RowT.len hxp
          have hfx:FewT (d' + 2) x:=by
           have h:=HQ.out.2
           rw [hd'] at h
           have h2:FewD (d' + 2 + 1) u.list:=h
           unfold FewD at h2
           exact h2 x (List.mem_of_getElem? hx)
          have hc:=HI.out d' hd' _ x wz (PartsR.mono hxp (Nat.le_trans HBE.out.2 bz.size)) hfx
          rw [show (8:Int) - (d':Int) = D + 1 by have:=HD.out;omega] at hc
          have hDw:IntKind.i64.wrap (D + 1) = D + 1:=by rw [IntKind.wrap_i64];have:=HD.out;omega
          have HST:Hid (bestV d u.list (j + 1) = if bs < weightV (sumsV (greatV d') x) then weightV (sumsV (greatV d') x) else bs):=by
           show _ = _
           rw [hd',best_step hx,← hd',HJ.out]
          obtain ⟨wt,hwt⟩:∃ wt,weightV (sumsV (greatV d') x) = wt:=⟨_,rfl⟩
          rw [hwt] at hc HST
          clear hwt
          have hj1:(j:Int) + 1 ≤ 9223372036854775807:=by omega
          clear HQZ hmy hxp hx hfx hd'
          go_wp2_with fail
          refine hc.mono ?_
          clear hc y0 g3
          rintro e wq ⟨rfl,bq⟩
          have B2:=below_next bz bq
          clear bz bq
          by_cases hgt:bs < wt
          ·have hgi:(bs:Int) < (wt:Int):=Int.ofNat_lt.2 hgt
           have HST2:Hid (bestV d u.list (j + 1) = wt):=by rw [if_pos hgt] at HST;exact HST
           go_wp2
           go_roundw
           case rel => exact ⟨wt,j + 1,rfl,by go_num,HST2,B2⟩
           case measure => simp [intOf];omega
          ·have hgi:¬ (bs:Int) < (wt:Int):=fun h => hgt (Int.ofNat_lt.1 h)
           have HST2:Hid (bestV d u.list (j + 1) = bs):=by rw [if_neg hgt] at HST;exact HST
           go_wp2
           go_roundw
           case rel => exact ⟨bs,j + 1,rfl,by go_num,HST2,B2⟩
           case measure => simp [intOf];omega
         ·have HBS:Hid (weightV (greatV d u.list) = bs):=by
           show _ = _
           rw [← best_end d u.list j (fun h => hD8 (by have:=HD.out;omega)),HJ.out]
          go_wp2
          go_meet
          exact ⟨by rw [HBS.out],bz⟩
        ·have hji:¬ (j:Int) < (my:Int):=by omega
         have HBS:Hid (weightV (greatV d u.list) = bs):=by
          show _ = _
          rw [← best_end d u.list j (fun h => ?_),HJ.out]
          obtain ⟨d',hd'⟩:∃ d',d = d' + 1:=⟨d - 1,by omega⟩
          have HQZ:SelsR (d' + 1) w.heap.size wy (.slice qy my cy) u.list:=by
           have h:=HQ.out.1
           rwa [hd'] at h
          obtain ⟨_,_,hmy⟩:=RowT.len HQZ
          simp only [Value.slice.injEq] at hmy
          omega
         go_wp2
         go_meet
         exact ⟨by rw [HBS.out],bz⟩
      case rest =>
       rename World => wf
       obtain ⟨rfl,bf⟩:=hcut
       obtain ⟨G,hG⟩:∃ G,weightV (greatV d u.list) = G:=⟨_,rfl⟩
       rw [hG]
       have HGV:Hid (G / 65536 = (greatV d u.list).i ∧ G / 256 % 256 = (greatV d u.list).c ∧ G % 256 = (greatV d u.list).t ∧ G < 16777216):=by
        have h:=greatV_ok d u.list
        rw [← hG]
        exact ⟨weight_i h,weight_c h,weight_t h,weight_lt h⟩
       clear hG
       have hGl:(G:Int) < 16777216:=by have:=HGV.out.2.2.2;omega
       have HF0:Hid (WrSt w (.slice (some ⟨b,off,none⟩) s.length cap) o2 wf ∧ Blk wf CB 45 [.string p.2.tag,.slice qi li ci,.slice qk lk ck,.slice qa la ca,.slice (some ⟨b3,off3,none⟩) lp cp] ∧ Below w.heap.size wr wf):=⟨HWE.out.1.below bf,HWE.out.2.1.next bf,HWE.out.2.2.1.trans (bf.mono HBE.out.2)⟩
       obtain ⟨⟨n0,_,_⟩,n3,_,_⟩:=Mt.blk3 (show Blk wf NB 136 [.int .i64 (o2.i:Int),.int .i64 (o2.c:Int),.int .i64 (o2.t:Int)] from by rw [← hNB];exact HF0.out.1.n)
       obtain ⟨gi,hgi⟩:∃ gi,(greatV d u.list).i = gi:=⟨_,rfl⟩
       obtain ⟨gc,hgc⟩:∃ gc,(greatV d u.list).c = gc:=⟨_,rfl⟩
       obtain ⟨gt,hgt⟩:∃ gt,(greatV d u.list).t = gt:=⟨_,rfl⟩
       have HGG:Hid (greatV d u.list = ⟨gi,gc,gt⟩ ∧ gi ≤ 255 ∧ gc ≤ 255 ∧ gt ≤ 255):=by
        have h:=greatV_ok d u.list
        refine ⟨by rw [← hgi,← hgc,← hgt],by rw [← hgi];exact h.1,by rw [← hgc];exact h.2.1,by rw [← hgt];exact h.2.2⟩
       have h65:(G:Int) / 65536 = (gi:Int):=by rw [← hgi,← HGV.out.1];rfl
       have h25:bits BinOp.and IntKind.i64 ((G:Int) / 256) 255 = (gc:Int):=by rw [and255,← hgc,← HGV.out.2.1];rfl
       have h26:bits BinOp.and IntKind.i64 (G:Int) 255 = (gt:Int):=by rw [and255,← hgt,← HGV.out.2.2.1];rfl
       have hwi:wrap64 ((o2.i:Int) + (gi:Int)) = (o2.i:Int) + (gi:Int):=by have:=HB2.out.1;have:=HGG.out.2.1;unfold wrap64;omega
       have hwc:wrap64 ((o2.c:Int) + (gc:Int)) = (o2.c:Int) + (gc:Int):=by have:=HB2.out.2.1;have:=HGG.out.2.2.1;unfold wrap64;omega
       have hwt:wrap64 ((o2.t:Int) + (gt:Int)) = (o2.t:Int) + (gt:Int):=by have:=HB2.out.2.2;have:=HGG.out.2.2.2;unfold wrap64;omega
       clear hgi hgc hgt
       go_upto_region 24 with fail
       have S3:=HF0.out.1.setI (o2.i + gi) (y:=(o2.i:Int) + (gi:Int)) (by omega)
       rw [hNB] at S3
       have K3:=blk_other HF0.out.2.1 (B:=NB) (k:=0) (.int .i64 ((o2.i:Int) + (gi:Int))) (Ne.symm hNBC)
       have B3:=Dm.below_grown HF0.out.2.2 (grown_set wf NB 0 (.int .i64 ((o2.i:Int) + (gi:Int)))) (by have:=HF0.out.2.2.size;have:=HCN.out;omega) (by omega)
       generalize wf.setCell ⟨NB,0,none⟩ (.int .i64 ((o2.i:Int) + (gi:Int))) = F1 at S3 K3 B3 ⊢
       clear n0 n3 hwi h65
       obtain ⟨⟨_,n1,_⟩,_,n4,_⟩:=Mt.blk3 (show Blk F1 NB 136 [.int .i64 ((o2.i + gi:Nat):Int),.int .i64 (o2.c:Int),.int .i64 (o2.t:Int)] from by rw [← hNB];exact S3.n)
       have HF1:Hid (WrSt w (.slice (some ⟨b,off,none⟩) s.length cap) ⟨o2.i + gi,o2.c,o2.t⟩ F1 ∧ Blk F1 CB 45 [.string p.2.tag,.slice qi li ci,.slice qk lk ck,.slice qa la ca,.slice (some ⟨b3,off3,none⟩) lp cp] ∧ Below w.heap.size wr F1):=⟨S3,K3,B3⟩
       clear S3 K3 B3
       go_upto_region 25 with fail
       have S3:=HF1.out.1.setC (o2.c + gc) (y:=(o2.c:Int) + (gc:Int)) (by omega)
       rw [hNB] at S3
       have K3:=blk_other HF1.out.2.1 (B:=NB) (k:=1) (.int .i64 ((o2.c:Int) + (gc:Int))) (Ne.symm hNBC)
       have B3:=Dm.below_grown HF1.out.2.2 (grown_set F1 NB 1 (.int .i64 ((o2.c:Int) + (gc:Int)))) (by have:=HF1.out.2.2.size;have:=HCN.out;omega) (by omega)
       generalize F1.setCell ⟨NB,1,none⟩ (.int .i64 ((o2.c:Int) + (gc:Int))) = F2 at S3 K3 B3 ⊢
       clear n1 n4 hwc h25
       obtain ⟨⟨_,_,n2⟩,_,_,n5⟩:=Mt.blk3 (show Blk F2 NB 136 [.int .i64 ((o2.i + gi:Nat):Int),.int .i64 ((o2.c + gc:Nat):Int),.int .i64 (o2.t:Int)] from by rw [← hNB];exact S3.n)
       have FIN:Hid ((WrSt w (.slice (some ⟨b,off,none⟩) s.length cap) (addV o2 (psV (greatV d) u)) (F2.setCell ⟨NB,2,none⟩ (.int .i64 ((o2.t:Int) + (gt:Int)))) ∧ Blk (F2.setCell ⟨NB,2,none⟩ (.int .i64 ((o2.t:Int) + (gt:Int)))) CB 45 [.string p.2.tag,.slice qi li ci,.slice qk lk ck,.slice qa la ca,.slice (some ⟨b3,off3,none⟩) lp cp] ∧ Below w.heap.size wr (F2.setCell ⟨NB,2,none⟩ (.int .i64 ((o2.t:Int) + (gt:Int))))) ∧ SmB (k * 1300 + 20 + (m + 1) * 255) (addV o2 (psV (greatV d) u))):=by
        have S4:=S3.setT (o2.t + gt) (y:=(o2.t:Int) + (gt:Int)) (by omega)
        rw [hNB] at S4
        refine ⟨⟨?_,blk_other K3 _ (Ne.symm hNBC),Dm.below_grown B3 (grown_set F2 NB 2 _) (by have:=B3.size;have:=HCN.out;omega) (by omega)⟩,?_⟩
        ·rw [HPS.out,HGG.out.1]
         exact S4
        ·rw [HPS.out,HGG.out.1]
         have h:=HB2.out.add (m:=255) (b:=⟨gi,gc,gt⟩) HGG.out.2
         rwa [show k * 1300 + 20 + m * 255 + 255 = k * 1300 + 20 + (m + 1) * 255 by omega] at h
       clear S3 K3 B3
       go_wp2
       go_roundw
       case rel => exact ⟨m + 1,_,by go_num,by omega,FIN.out.1,HO3,FIN.out.2⟩
       case measure => simp [intOf];omega
    ·have hmi:¬ (m:Int) < (lp:Int):=by omega
     have FIN:Hid (WrSt w (.slice (some ⟨b,off,none⟩) s.length cap) (rawC (greatV d) o p.2) wy ∧ SmB ((k + 1) * 1300) (rawC (greatV d) o p.2)):=by
      have h1:=HO2.out
      rw [List.take_of_length_le (by rw [HLP.out];omega)] at h1
      have h2:rawC (greatV d) o p.2 = o2:=h1
      rw [h2]
      have h3:=HB2.out
      exact ⟨HW.out.1,by have:=h3.1;omega,by have:=h3.2.1;omega,by have:=h3.2.2;omega⟩
     go_wp2
     go_roundw
     case rel => exact ⟨k + 1,_,by go_num,by omega,FIN.out.1,HO1,FIN.out.2⟩
     case measure => simp [intOf];omega
  ·have hki:¬ (k:Int) < (s.length:Int):=by omega
   have HE:Hid (cutV o = sumsV (greatV d) s):=by
    show _ = _
    rw [sums_raw,← HO.out,List.take_of_length_le (by omega)]
    rfl
   have HB3:=HB.out
   have HNC:Hid (∀ X,Below wr.heap.size wr X → X.cell? ⟨NB,0,none⟩ = some (.int .i64 (o.i:Int)) ∧ X.cell? ⟨NB,1,none⟩ = some (.int .i64 (o.c:Int)) ∧ X.cell? ⟨NB,2,none⟩ = some (.int .i64 (o.t:Int))):=fun X hX => by
    rw [← hNB]
    exact (Mt.blk3 (S.out.n.next hX)).1
   go_upto_region 26 with fail
   refine Rg.wpD_begin [0,1,2,3,4,5,6,7,8,9,10,11,12] (fun X => X.cell? ⟨NB,0,none⟩ = some (.int .i64 (o.i:Int)) ∧ X.cell? ⟨NB,1,none⟩ = some (.int .i64 (o.c:Int)) ∧ X.cell? ⟨NB,2,none⟩ = some (.int .i64 (o.t:Int))) (by kernel_rfl) ?_
   have q0:Below wr.heap.size wr wr.drew:=below_drew (Below.refl _ _)
   have HeldS:=HNC.out _ q0
   refine Rg.ld 0 HeldS ?_
   simp only [Act.put,Rg.sA,Rg.sB,Rg.sC]
   refine Rg.ld 1 HeldS ?_
   simp only [Act.put,Rg.sA,Rg.sB,Rg.sC]
   refine Rg.ld 4 HeldS ?_
   simp only [Act.put,Rg.sA,Rg.sB,Rg.sC]
   refine Rg.ld 5 HeldS ?_
   simp only [Act.put,Rg.sA,Rg.sB,Rg.sC]
   refine Rg.ld 9 HeldS ?_
   simp only [Act.put,Rg.sA,Rg.sB,Rg.sC]
   refine Rg.ld 10 HeldS ?_
   simp only [Act.put,Rg.sA,Rg.sB,Rg.sC]
   refine Rg.dd 2 fun K hK => ?_
   go_simp
   go_at_call 79
   refine Calls.mono (cut_any o.i _) ?_
   rintro r Z1 ⟨rfl,rfl⟩
   refine hK _ _ (fun _ => HeldS) ?_
   clear hK K
   refine Rg.ld 3 HeldS ?_
   simp only [Act.put,Rg.sA,Rg.sB,Rg.sC]
   refine Rg.dd 6 fun K hK => ?_
   go_simp
   go_at_call 79
   refine Calls.mono (cut_any o.c _) ?_
   rintro r Z1 ⟨rfl,rfl⟩
   refine hK _ _ (fun _ => HeldS) ?_
   clear hK K
   refine Rg.ld 7 HeldS ?_
   simp only [Act.put,Rg.sA,Rg.sB,Rg.sC]
   refine Rg.ld 8 HeldS ?_
   simp only [Act.put,Rg.sA,Rg.sB,Rg.sC]
   refine Rg.dd 11 fun K hK => ?_
   go_simp
   go_at_call 79
   refine Calls.mono (cut_any o.t _) ?_
   rintro r Z1 ⟨rfl,rfl⟩
   refine hK _ _ (fun _ => HeldS) ?_
   clear hK K
   refine Rg.ld 12 HeldS ?_
   simp only [Act.put,Rg.sA,Rg.sB,Rg.sC]
   refine Rg.pu 13 ?_
   simp only [Act.put,Rg.sA,Rg.sB,Rg.sC]
   refine Rg.wpD_done (by kernel_rfl) ?_
   rw [cut_sum _ _ _ (Nat.min_le_right _ _) (Nat.min_le_right _ _) (Nat.min_le_right _ _),show 65536 * min o.i 255 + 256 * min o.c 255 + min o.t 255 = V from by
    have h:=HV.out
    rw [← HE.out] at h
    exact h]
   have b9:=below_drew S.out.bl
   go_wp2
   go_ret
   exact ⟨rfl,b9⟩
theorem weight_all:∀ d,d ≤ 8 → RwOK d
 | 0,h => weight_of 0 h (fun _ e => by cases e)
 | d + 1,h => weight_of (d + 1) h (fun d' e => by cases e;exact weight_all d (by omega))
set_option maxHeartbeats 1000000 in
theorem refWeight_any (v:Value) (s:Sel) (w:World) (hv:PartsR 8 w.heap.size w v s) (hf:FewT 10 s) :
  Calls Tryz.prog 21 #[.agg #[v]] w fun e w' => e = .returned (.int .i64 (ofV s:Nat)) ∧ Below w.heap.size w w':=by
 obtain ⟨p,c,rfl⟩:=RowT.len hv
 obtain ⟨W,hW⟩:∃ W,w.alloc (.cells #[.slice p s.length c] 36) = W:=⟨_,rfl⟩
 have b1:Below w.heap.size w W:=by rw [← hW];exact (Below.refl _ _).alloc (Nat.le_refl _) _
 have k0:Blk W w.heap.size 36 [.slice p s.length c]:=by rw [← hW];exact Blk.new w _ _
 obtain ⟨y0,_⟩:=blk1 k0
 have h:=weight_all 8 (Nat.le_refl _) (.slice p s.length c) s W (PartsR.next hv b1) hf
 rw [show (8:Int) - ((8:Nat):Int) = 0 from rfl] at h
 have HO:Hid (weightV (sumsV (greatV 8) s) = ofV s):=rfl
 obtain ⟨V,hV⟩:∃ V,weightV (sumsV (greatV 8) s) = V:=⟨_,rfl⟩
 rw [hV] at h HO
 rw [← HO.out]
 clear hv hf hV HO k0
 go_enter Tryz.func21,Tryz.ntmps21
 go_wp2_with fail
 refine h.mono ?_
 clear h
 rintro e W2 ⟨rfl,b2⟩
 have b12:=below_next b1 b2
 go_wp2
 go_ret
 exact ⟨rfl,b12⟩
end Go.Proofs.YtnemagmakgiheaaGreat.Wg
