/- The trees of the laws of chapter 11; the greatest weight of those that match. -/
import Derived.Test.YtnemagmakgiheaaGreatMtSame
import Derived.Test.YtnemagmakgiheaaGreatWrWalk
import Derived.Test.YtnemagmakgiheaaGreatWgA
set_option maxRecDepth 100000
namespace Go.Proofs.YtnemagmakgiheaaGreat.Mt
open Go.Proofs.YtnemagmakgiheaaGreat.Tre
open Go Go.RowKit Dm Go.Proofs.YtnemagmakgiheaaGreat.Wg
set_option maxHeartbeats 4000000 in
theorem trees11_any (v:Value) (l:List Nv) (w:World) (hM:ML w) (hv:NodesAt w.heap.size w v l) (hN:∀ n ∈ l,NdOk n.nd) :
  Calls Tryz.prog 19 #[v] w fun e w' => Trees l e w' ∧ Below w.heap.size w w':=by
 obtain ⟨p,cap,rfl⟩:=hv.row.len
 have h1:=big_small _ l w hv
 have HM:Hid (ML w):=hM
 have HV:Hid (NodesAt w.heap.size w (.slice p l.length cap) l):=hv
 have HN:Hid (∀ n ∈ l,NdOk n.nd):=hN
 clear hv hN hM
 go_enter Tryz.func19,Tryz.ntmps19
 go_wp2_with fail
 refine h1.mono ?_
 clear h1
 rintro e w1 ⟨big,rfl,rfl,hbig⟩
 have h2:=refNew_any _ l w1 HV.out HN.out
 go_wp2_with fail
 refine h2.mono ?_
 clear h2
 rintro e w2 ⟨hm,b2⟩
 have HB:Hid (big = false → (l.length ≤ 40 ∧ ∀ n ∈ l,SmallN n.nd) ∨ 4096 < l.length):=hbig
 clear hbig
 unfold RMade at hm
 rcases hm with ⟨rb,nv,dv,ns,ds,es,hV,rfl,hR,hE⟩ | ⟨x,hV,rfl⟩
 ·cases big with
  | true =>
   clear hV hR hE
   go_wp2
   go_ret3
   exact ⟨.inl rfl,b2⟩
  | false =>
   have h3:=new_any _ l w2 (HV.out.next b2) HN.out
   have HVV:Hid (_ = _):=hV
   have HR:Hid (RTr w1.heap.size w2 rb nv dv ns ds):=hR
   have HE:Hid (Tells es ns ds):=hE
   clear hV hR hE
   go_wp2_with fail
   refine h3.mono ?_
   clear h3
   rintro e w3 ⟨hm,b3⟩
   have b23:=below_next b2 b3
   unfold Made at hm
   rcases hm with ⟨tb,g,cap2,qs,hV2,rfl,hT⟩ | ⟨x,hV2,_⟩
   ·have heq:qs.map Em.e = es:=by have h:=show newV _ = _ from HVV.out;rw [hV2] at h;exact Except.ok.inj h
    obtain ⟨h40,hsm⟩:l.length ≤ 40 ∧ ∀ n ∈ l,SmallN n.nd:=by
     rcases HB.out trivial with h | h
     ·exact h
     ·have:=(newV_ok hV2).2.2
      rw [List.length_map] at this
      omega
    obtain ⟨hG,hle⟩:=good_new hV2 hT HN.out (HM.out.next b23) (fun n hn => short_small (hsm n hn))
    rw [heq] at hG hle
    have FIN:Hid (Good w3 tb es ∧ RTr w1.heap.size w3 rb nv dv ns ds ∧ Tells es ns ds ∧ es.length = l.length ∧ l.length ≤ 40 ∧ newV (l.map Nv.nd) = .ok es ∧ ∀ n ∈ l,SmallN n.nd):=⟨hG,HR.out.next b3,HE.out,hle,h40,HVV.out,hsm⟩
    clear hV2 hT heq hG hle h40 hsm b2 b3
    go_wp2
    go_ret3
    exact ⟨.inr ⟨tb,rb,_,nv,dv,ns,ds,es,rfl,FIN.out⟩,b23⟩
   ·have h:=show newV _ = _ from HVV.out
    rw [hV2] at h
    cases h
 ·have hx0:(x != 0) = true:=by
   rcases newV_err hV with rfl | rfl | rfl <;> rfl
  clear hV
  cases big with
  | true =>
   go_wp2
   go_ret3
   exact ⟨.inl rfl,b2⟩
  | false =>
   go_wp2
   go_ret3
   exact ⟨.inl rfl,b2⟩
/-! ### the greatest weight of those that match -/
def stepW (f:Sel → Bool) (o:Nat × Bool) (s:Sel):Nat × Bool:=if f s then (max o.1 (ofV s),true) else o
def bestW (f:Sel → Bool) (l:List Sel):Nat × Bool:=l.foldl (stepW f) (0,false)
theorem bestW_next {f:Sel → Bool} {l:List Sel} {k:Nat} {s:Sel} (h:l[k]? = some s):bestW f (l.take (k + 1)) = stepW f (bestW f (l.take k)) s:=takeF _ _ h
theorem ofV_lt (s:Sel):ofV s < 16777216:=weight_lt (sumsV_ok _ s)
theorem bestW_ok (f:Sel → Bool):∀ (l:List Sel) (o:Nat × Bool),(o.1 < 16777216 ∧ (o.2 = false → o.1 = 0)) → (l.foldl (stepW f) o).1 < 16777216 ∧ ((l.foldl (stepW f) o).2 = false → (l.foldl (stepW f) o).1 = 0)
 | [],_,h => h
 | s :: l,o,h => bestW_ok f l _ (by
  unfold stepW
  split
  ·have:=ofV_lt s
   exact ⟨Nat.max_lt.2 ⟨h.1,this⟩,fun e => by cases e⟩
  ·exact h)
theorem bestW_okk (f:Sel → Bool) (l:List Sel):(bestW f l).1 < 16777216 ∧ ((bestW f l).2 = false → (bestW f l).1 = 0):=bestW_ok f l _ ⟨by decide,fun _ => rfl⟩
def AskOK (fid:Nat) (tp:Value) (f:Int → Sel → Bool) (w:World) (q:Option Addr) (c:Nat) (l:List Sel):Prop:=
 ∀ (k:Nat) (x:Sel),l[k]? = some x → ∃ (bk off:Nat) (xp:Option Addr) (xc:Nat),q = some ⟨bk,off,none⟩ ∧ l.length ≤ c ∧ c ≤ 9223372036854775807 ∧ (∀ X,Below w.heap.size w X → X.cell? ⟨bk,off + k,none⟩ = some (.slice xp x.length xc)) ∧
  (∀ X,Below w.heap.size w X → PartsR 8 X.heap.size X (.slice xp x.length xc) (cutS 8 x)) ∧ FewT 10 x ∧
  ∀ (e:Int) X,Below w.heap.size w X → Calls Tryz.prog fid #[tp,.int .i64 e,.agg #[.slice xp x.length xc]] X fun r w' => r = .returned (.bool (f e x)) ∧ Below X.heap.size X w'
theorem fewD_cut:∀ (d n:Nat) (l:List Sel),FewD (n + 1 + d) l → FewD (n + 1 + d) (cutL d l)
 | 0,n,l,_ => by
  show FewD (n + 1) []
  unfold FewD
  intro s hs
  cases hs
 | d + 1,n,l,h => by
  have h':FewD (n + 1 + d + 1) l:=h
  show FewD (n + 1 + d + 1) (l.map (cutS d))
  unfold FewD at h' ⊢
  intro s hs
  obtain ⟨x,hx,rfl⟩:=List.mem_map.1 hs
  obtain ⟨h1,h2⟩:=h' x hx
  refine ⟨by unfold cutS;rw [List.length_map];exact h1,fun p hp => ?_⟩
  obtain ⟨y,hy,rfl⟩:=List.mem_map.1 hp
  obtain ⟨h3,h4⟩:=h2 y hy
  refine ⟨⟨h3.1,h3.2.1,h3.2.2.1,by show (y.2.pss.map (cutP d)).length ≤ 5;rw [List.length_map];exact h3.2.2.2⟩,fun u hu => ?_⟩
  obtain ⟨z,hz,rfl⟩:=List.mem_map.1 (show u ∈ y.2.pss.map (cutP d) from hu)
  exact fewD_cut d n z.list (h4 z hz)
theorem few_cut {x:Sel} (h:FewT 10 x):FewT 10 (cutS 8 x):=by
 refine ⟨by unfold cutS;rw [List.length_map];exact h.1,fun p hp => ?_⟩
 obtain ⟨y,hy,rfl⟩:=List.mem_map.1 hp
 obtain ⟨h3,h4⟩:=h.2 y hy
 refine ⟨⟨h3.1,h3.2.1,h3.2.2.1,by show (y.2.pss.map (cutP 8)).length ≤ 5;rw [List.length_map];exact h3.2.2.2⟩,fun u hu => ?_⟩
 obtain ⟨z,hz,rfl⟩:=List.mem_map.1 (show u ∈ y.2.pss.map (cutP 8) from hu)
 exact fewD_cut 8 1 z.list (h4 z hz)
theorem ofV_cut (x:Sel):ofV (cutS 8 x) = ofV x:=by
 unfold ofV
 rw [sums8_cut]
set_option maxHeartbeats 4000000 in
theorem best_any (tp:Value) (f:Int → Sel → Bool) (w:World) (q:Option Addr) (c:Nat) (l:List Sel) (e:Int) (_hl:l.length ≤ 9223372036854775807) (h:AskOK 14 tp f w q c l) :
  Calls Tryz.prog 22 #[tp,.int .i64 e,.slice q l.length c] w fun r w' => r = .returned (.tuple #[.int .i64 ((bestW (f e) l).1:Nat),.bool (bestW (f e) l).2]) ∧ Below w.heap.size w w':=by
 have HA:Hid (AskOK 14 tp f w q c l):=h
 clear h
 go_enter Tryz.func22,Tryz.ntmps22
 go_wp2
 go_loopw [8,9,14] (fun x y z wr => ∃ (b:Nat) (t:Bool) (k:Nat),x = .int .i64 b ∧ y = .bool t ∧ z = .int .i64 k ∧ k ≤ l.length ∧ Hid (bestW (f e) (l.take k) = (b,t)) ∧ Below w.heap.size w wr) (fun _ _ z _ => l.length - (intOf z).toNat)
 case atStart => exact ⟨0,false,0,rfl,rfl,rfl,Nat.zero_le _,rfl,Below.refl _ _⟩
 case round =>
  obtain ⟨b,t,k,rfl,rfl,rfl,hk,HB,bw⟩:=hrel
  by_cases hlt:k < l.length
  ·have hki:(k:Int) < (l.length:Int):=by omega
   obtain ⟨x,hx⟩:∃ x,l[k]? = some x:=⟨_,List.getElem?_eq_getElem hlt⟩
   obtain ⟨bk,off,xp,xc,rfl,g1,g2,hc,hp,hf,hs⟩:=HA.out k x hx
   have HN:Hid (bestW (f e) (l.take (k + 1)) = stepW (f e) (b,t) x):=by
    show _ = _
    rw [bestW_next hx,HB.out]
   have y0:=hc wr bw
   obtain ⟨W1,hW1⟩:∃ W1,wr.alloc (.cells #[.slice xp x.length xc] 36) = W1:=⟨_,rfl⟩
   have b1:Below wr.heap.size wr W1:=by rw [← hW1];exact (Below.refl _ _).alloc (Nat.le_refl _) _
   have k1:Blk W1 wr.heap.size 36 [.slice xp x.length xc]:=by rw [← hW1];exact Blk.new wr _ _
   have h1:=hs e W1 (below_next bw b1)
   have K1:Hid (Blk W1 wr.heap.size 36 [.slice xp x.length xc] ∧ Below w.heap.size w W1):=⟨k1,below_next bw b1⟩
   have HP:Hid (∀ X,Below w.heap.size w X → PartsR 8 X.heap.size X (.slice xp x.length xc) (cutS 8 x)):=hp
   obtain ⟨F,hF⟩:∃ F,f e x = F:=⟨_,rfl⟩
   rw [hF] at h1
   have HF:Hid (f e x = F):=hF
   obtain ⟨y1,_⟩:=blk1 k1
   clear hc hp hs hf hx b1 k1 bw hF
   go_wp2_with fail
   refine h1.mono ?_
   clear h1 hW1 y0 y1
   rintro r w2 ⟨rfl,b2⟩
   have B2:=below_next K1.out.2 b2
   cases F with
   | false =>
    have HS:Hid (stepW (f e) (b,t) x = (b,t)):=by
     show _ = _
     unfold stepW
     rw [HF.out]
     rfl
    go_wp2
    go_roundw
    case rel => exact ⟨b,t,k + 1,rfl,rfl,by go_num,by omega,by rw [← HS.out];exact HN,B2⟩
    case measure => simp [intOf];omega
   | true =>
    have HS:Hid (stepW (f e) (b,t) x = (max b (ofV x),true)):=by
     show _ = _
     unfold stepW
     rw [HF.out]
     rfl
    obtain ⟨y2,_⟩:=blk1 (K1.out.1.next b2)
    have h3:=of_any (.slice xp x.length xc) (cutS 8 x) w2 (HP.out w2 B2)
    rw [ofV_cut] at h3
    obtain ⟨V,hV⟩:∃ V,ofV x = V:=⟨_,rfl⟩
    rw [hV] at h3 HS
    clear b2 hV
    go_wp2_with fail
    refine h3.mono ?_
    clear h3 y2
    rintro r w3 ⟨rfl,b3⟩
    have B3:=below_next B2 b3
    have HNX:Hid (bestW (f e) (l.take (k + 1)) = (max b V,true)):=by
     rw [← HS.out]
     exact HN
    go_wp2
    exact ⟨⟨max b V,true,k + 1,by rw [show ((max b V:Nat):Int) = max (b:Int) (V:Int) by omega],rfl,by go_num,by omega,HNX,B3⟩,by simp [intOf];omega⟩
  ·have hki:¬ (k:Int) < (l.length:Int):=by omega
   have HE:Hid (bestW (f e) l = (b,t)):=by
    have h:=HB.out
    rwa [List.take_of_length_le (by omega)] at h
   go_wp2
   go_ret2
   exact ⟨by rw [HE.out];rfl,bw⟩
set_option maxHeartbeats 4000000 in
theorem refBest_any (tp:Value) (f:Int → Sel → Bool) (w:World) (q:Option Addr) (c:Nat) (l:List Sel) (e:Int) (_hl:l.length ≤ 9223372036854775807) (h:AskOK 15 tp f w q c l) :
  Calls Tryz.prog 23 #[tp,.int .i64 e,.slice q l.length c] w fun r w' => r = .returned (.tuple #[.int .i64 ((bestW (f e) l).1:Nat),.bool (bestW (f e) l).2]) ∧ Below w.heap.size w w':=by
 have HA:Hid (AskOK 15 tp f w q c l):=h
 clear h
 go_enter Tryz.func23,Tryz.ntmps23
 go_wp2
 go_loopw [8,9,10] (fun x y z wr => ∃ (b:Nat) (t:Bool) (k:Nat),x = .int .i64 b ∧ y = .bool t ∧ z = .int .i64 k ∧ k ≤ l.length ∧ Hid (bestW (f e) (l.take k) = (b,t)) ∧ Below w.heap.size w wr) (fun _ _ z _ => l.length - (intOf z).toNat)
 case atStart => exact ⟨0,false,0,rfl,rfl,rfl,Nat.zero_le _,rfl,Below.refl _ _⟩
 case round =>
  obtain ⟨b,t,k,rfl,rfl,rfl,hk,HB,bw⟩:=hrel
  by_cases hlt:k < l.length
  ·have hki:(k:Int) < (l.length:Int):=by omega
   obtain ⟨x,hx⟩:∃ x,l[k]? = some x:=⟨_,List.getElem?_eq_getElem hlt⟩
   obtain ⟨bk,off,xp,xc,rfl,g1,g2,hc,hp,hf,hs⟩:=HA.out k x hx
   have HN:Hid (bestW (f e) (l.take (k + 1)) = stepW (f e) (b,t) x):=by
    show _ = _
    rw [bestW_next hx,HB.out]
   have y0:=hc wr bw
   have h1:=hs e wr bw
   have HP:Hid (∀ X,Below w.heap.size w X → PartsR 8 X.heap.size X (.slice xp x.length xc) (cutS 8 x) ∧ X.cell? ⟨bk,off + k,none⟩ = some (.slice xp x.length xc)):=fun X hX => ⟨hp X hX,hc X hX⟩
   have HFT:Hid (FewT 10 (cutS 8 x)):=few_cut hf
   obtain ⟨F,hF⟩:∃ F,f e x = F:=⟨_,rfl⟩
   rw [hF] at h1
   have HF:Hid (f e x = F):=hF
   have HZ:Hid (t = false → b = 0):=by
    have h:=(bestW_okk (f e) (l.take k)).2
    rw [HB.out] at h
    exact h
   clear hc hp hs hf hx hF
   go_wp2_with fail
   refine h1.mono ?_
   clear h1 y0
   rintro r w2 ⟨rfl,b2⟩
   have B2:=below_next bw b2
   cases F with
   | false =>
    have HS:Hid (stepW (f e) (b,t) x = (b,t)):=by
     show _ = _
     unfold stepW
     rw [HF.out]
     rfl
    go_wp2
    go_roundw
    case rel => exact ⟨b,t,k + 1,rfl,rfl,by go_num,by omega,by rw [← HS.out];exact HN,B2⟩
    case measure => simp [intOf];omega
   | true =>
    have HS:Hid (stepW (f e) (b,t) x = (max b (ofV x),true)):=by
     show _ = _
     unfold stepW
     rw [HF.out]
     rfl
    have y2:=(HP.out w2 B2).2
    have h3:=refWeight_any (.slice xp x.length xc) (cutS 8 x) w2 (HP.out w2 B2).1 HFT.out
    rw [ofV_cut] at h3
    obtain ⟨V,hV⟩:∃ V,ofV x = V:=⟨_,rfl⟩
    rw [hV] at h3 HS
    clear b2 hV
    go_wp2_with fail
    refine h3.mono ?_
    clear h3 y2
    rintro r w3 ⟨rfl,b3⟩
    have B3:=below_next B2 b3
    have HNX:Hid (bestW (f e) (l.take (k + 1)) = (max b V,true)):=by
     rw [← HS.out]
     exact HN
    cases t with
    | false =>
     obtain rfl:b = 0:=HZ.out rfl
     have HNY:Hid (bestW (f e) (l.take (k + 1)) = (V,true)):=by
      have h:=HNX.out
      rwa [show max 0 V = V by omega] at h
     go_wp2
     go_roundw
     case rel => exact ⟨V,true,k + 1,rfl,rfl,by go_num,by omega,HNY,B3⟩
     case measure => simp [intOf];omega
    | true =>
     by_cases hgt:b < V
     ·have hgi:(b:Int) < (V:Int):=Int.ofNat_lt.2 hgt
      have HNY:Hid (bestW (f e) (l.take (k + 1)) = (V,true)):=by
       have h:=HNX.out
       rwa [show max b V = V by omega] at h
      go_wp2
      go_roundw
      case rel => exact ⟨V,true,k + 1,rfl,rfl,by go_num,by omega,HNY,B3⟩
      case measure => simp [intOf];omega
     ·have hgi:¬ (b:Int) < (V:Int):=fun h => hgt (Int.ofNat_lt.1 h)
      have HNY:Hid (bestW (f e) (l.take (k + 1)) = (b,true)):=by
       have h:=HNX.out
       rwa [show max b V = b by omega] at h
      go_wp2
      go_roundw
      case rel => exact ⟨b,true,k + 1,rfl,rfl,by go_num,by omega,HNY,B3⟩
      case measure => simp [intOf];omega
  ·have hki:¬ (k:Int) < (l.length:Int):=by omega
   have HE:Hid (bestW (f e) l = (b,t)):=by
    have h:=HB.out
    rwa [List.take_of_length_le (by omega)] at h
   go_wp2
   go_ret2
   exact ⟨by rw [HE.out];rfl,bw⟩
end Go.Proofs.YtnemagmakgiheaaGreat.Mt
