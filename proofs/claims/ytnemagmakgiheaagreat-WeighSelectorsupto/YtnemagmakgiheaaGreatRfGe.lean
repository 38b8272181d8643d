/- The document's own matching (tapestrierref9): selectors and lists of them, at every tree and element. -/
import Derived.Test.YtnemagmakgiheaaGreatRfGd
import Derived.Test.YtnemagmakgiheaaGreatDmGd
import Derived.Test.YtnemagmakgiheaaGreatWgG
import Derived.Laws.MakeOwn
set_option maxRecDepth 100000
namespace Go.Proofs.YtnemagmakgiheaaGreat.Rf
open Go Go.RowKit Go.Shelf Sl Wg Bk Go.Proofs.YtnemagmakgiheaaGreat.Tre
open Dm (El parentV placeV childrenV nodeV beforeV TreeOk)
/-! ### numbers that are made -/
def zeros (n:Nat):List Value:=(List.replicate n (0:Int)).map (Value.int .i64)
theorem made_zeros (n:Nat):madeCells #[.int .i64 0] n = (zeros n).toArray:=by
 apply Array.ext
 ·simp [madeCells,zeros]
 ·intro i h1 h2
  simp [madeCells,Nat.mod_one,zeros]
theorem infoInt:(Tryz.prog.info? 3).map (fun i => (i.zero,i.size,i.bytes)) = some (some (.int .i64 0),1,8):=by kernel_rfl
theorem make_zeros (n:Nat) (hn:n ≤ 1000000) (w:World) :
  (Instr.makeSlice 82 (.int .i64 n) (.int .i64 n)).run Tryz.prog w = .ok (.slice (some ⟨w.heap.size,0,none⟩) n n) (w.alloc (.cells (zeros n).toArray 3)):=by
 obtain ⟨i0,hi,hz0,hz1,hz2⟩:=info_of infoInt
 have:=run_make w 82 3 i0 (.int .i64 0) Tryz.underlying82 hi hz0 .i64 .i64 (n:Int) (n:Int) (by omega) (Int.le_refl _) (by rw [hz2,Int.mul_comm];omega) (by omega)
 rw [this,Int.toNat_natCast,hz1,Nat.mul_one,show (Value.int .i64 0).cells = #[.int .i64 0] from rfl,made_zeros]
theorem Kn.new (X:World) (m N:Nat) (f:Nat → Nat → Bool):Kn (X.alloc (.cells (zeros (N * m)).toArray 3)) X.heap.size m N f:=by
 refine ⟨List.replicate (N * m) 0,Blk.new X _ _,List.length_replicate ..,fun k e hk he => .inl ?_⟩
 rw [List.getElem?_replicate,if_pos (at_lt hk he)]
/-! ### selector, any -/
def SelOK (d:Nat):Prop:=∀ (T:TE) (s:Sel) (p:Option Addr) (cap:Nat) (e:Int) (w:World),T.At w → PartsR d w.heap.size w (.slice p s.length cap) s → deepS d s = false → okS d s →
 Calls Tryz.prog 46 #[T.p,.int .i64 e,.agg #[.slice p s.length cap],.int .i64 (8 - (d:Int))] w fun r w' => r = .returned (.bool (decide (0 ≤ e ∧ e < (T.es.length:Int)) && Mt.selV (Mt.anyV T.es d) T.es s e.toNat)) ∧ Below w.heap.size w w'
set_option maxHeartbeats 4000000 in
theorem sel_of (d:Nat) (HF:∀ k,FrontOK d k):SelOK d:=by
 intro T s p cap e w hT hv hdp hok
 obtain ⟨hs50,_⟩:=few_parts hdp
 have hlen:=hT.len
 obtain ⟨V,hV⟩:∃ V,(decide (0 ≤ e ∧ e < (T.es.length:Int)) && Mt.selV (Mt.anyV T.es d) T.es s e.toNat) = V:=⟨_,rfl⟩
 rw [hV]
 obtain ⟨w1,hw1⟩:∃ w1,w.alloc (.cells #[.slice p s.length cap] 36) = w1:=⟨_,rfl⟩
 have b1:Below w.heap.size w w1:=by rw [← hw1];exact (Below.refl _ w).alloc (Nat.le_refl _) _
 have k1:Blk w1 w.heap.size 36 [.slice p s.length cap]:=by rw [← hw1];exact Blk.new w _ _
 have c0:=(blk1 k1).1
 have his:=is_any T e w1 (hT.next b1)
 by_cases hin:0 ≤ e ∧ e < (T.es.length:Int)
 ·rw [decide_eq_true hin] at his
  rw [decide_eq_true hin,Bool.true_and] at hV
  obtain ⟨k,rfl⟩:∃ k:Nat,e = (k:Int):=⟨e.toNat,by omega⟩
  have hk:k < T.es.length:=by omega
  rw [Int.toNat_natCast] at hV
  by_cases h0:s.length = 0
  ·obtain rfl:V = false:=by
    rw [← hV];unfold Mt.selV
    rw [h0];rfl
   have h0b:((s.length:Int) == 0) = true:=by rw [h0];rfl
   clear hT hv hdp hok hV h0 hin k1 hlen hs50
   go_enter Tryz.func46,Tryz.ntmps46
   go_wp2_with fail
   go_at_call 74
   refine Calls.mono his ?_
   clear his
   rintro x wx ⟨rfl,hww⟩
   obtain rfl:=hww.symm
   clear hww hw1
   go_wp2
   go_ret
   exact ⟨rfl,b1⟩
  ·have h0b:((s.length:Int) == 0) = false:=by rw [beq_eq_false_iff_ne];omega
   obtain ⟨j,hj⟩:∃ j,s.length = j + 1:=⟨s.length - 1,by omega⟩
   have hV2:upV d T s j k = V:=by
    rw [← hV];unfold Mt.selV
    rw [decide_eq_true (by omega),Bool.true_and,hj];rfl
   have HE:Hid (PtEnv d T s p cap w):=⟨hT,hv,hdp,hok⟩
   have hKt:T.tb < w1.heap.size:=(hT.next b1).tr.blk.lt
   have c1:=(Dm.blk2 (hT.next b1).tr.blk).1.1
   obtain ⟨⟨pn,cn,hnv⟩,_⟩:=hT.tr.form
   rw [hnv,hT.tells.len.1] at c1
   have hml:T.es.length * s.length ≤ 204800:=Nat.mul_le_mul hlen hs50
   have HFC:Hid (∀ K X,w.heap.size ≤ K → Below w.heap.size w X → Kn X K s.length T.es.length (upV d T s) → Calls Tryz.prog 75 #[T.p,.int .i64 k,.agg #[.slice p s.length cap],.int .i64 (s.length:Int),.int .i64 (8 - (d:Int)),.slice (some ⟨K,0,none⟩) (T.es.length * s.length) (T.es.length * s.length)] X fun r X' => r = .returned (.bool V) ∧ But K X X'):=fun K X h1 h2 h3 => by
    have h:=HF j T s p cap k K w X HE.out hk (by omega) h1 h2 h3
    rw [show (j:Int) + 1 = (s.length:Int) by omega,hV2] at h
    exact Calls.mono h (fun r X' ⟨a,b,_⟩ => ⟨a,b⟩)
   have HKN:Hid (∀ X:World,Kn (X.alloc (.cells (zeros (T.es.length * s.length)).toArray 3)) X.heap.size s.length T.es.length (upV d T s)):=fun X => Kn.new X _ _ _
   have HSt:Hid (∀ X,Below w1.heap.size w1 X → X.cell? ⟨T.tb,0,none⟩ = some (.slice pn T.es.length cn) ∧ X.cell? ⟨w.heap.size,0,none⟩ = some (.slice p s.length cap)):=fun X hX => ⟨(hX.cell (p:=⟨T.tb,0,none⟩) hKt).trans c1,(blk1 (k1.below hX k1.lt)).1⟩
   obtain ⟨L,hL⟩:∃ L,T.es.length * s.length = L:=⟨_,rfl⟩
   have hmul:IntKind.i64.wrap ((T.es.length:Int) * (s.length:Int)) = (L:Int):=by
    rw [← Int.natCast_mul,hL,IntKind.wrap_i64];omega
   obtain ⟨D,hD⟩:∃ D:Int,8 - (d:Int) = D:=⟨_,rfl⟩
   rw [hL,hD] at HFC
   rw [hL] at HKN hml
   rw [hD]
   have s1:w.heap.size < w1.heap.size:=k1.lt
   clear hT hv hdp hok hV h0 hin k1 hlen hs50 hj hV2 hL hD c1 hnv HF hKt
   go_enter Tryz.func46,Tryz.ntmps46
   go_wp2_with fail
   go_at_call 74
   refine Calls.mono his ?_
   clear his
   rintro x wx ⟨rfl,hww⟩
   obtain rfl:=hww.symm
   clear hww hw1
   go_upto_region 3 with fail
   refine Rg.wpD_begin [0,1,2,3,4,5,6,7,8] (fun X => X.cell? ⟨T.tb,0,none⟩ = some (.slice pn T.es.length cn) ∧ X.cell? ⟨w.heap.size,0,none⟩ = some (.slice p s.length cap)) (by kernel_rfl) ?_
   have q0:Below w1.heap.size w1 w1.drew:=below_drew (Below.refl _ _)
   have HeldS:=HSt.out _ q0
   refine Rg.ld 0 HeldS ?_
   simp only [Act.put,Rg.sA,Rg.sB,Rg.sC]
   refine Rg.ld 1 HeldS ?_
   simp only [Act.put,Rg.sA,Rg.sB,Rg.sC]
   refine Rg.ld 2 HeldS ?_
   simp only [Act.put,Rg.sA,Rg.sB,Rg.sC]
   refine Rg.ld 3 HeldS ?_
   simp only [Act.put,Rg.sA,Rg.sB,Rg.sC]
   refine Rg.ld 4 HeldS ?_
   simp only [Act.put,Rg.sA,Rg.sB,Rg.sC]
   refine Rg.ld 5 HeldS ?_
   simp only [Act.put,Rg.sA,Rg.sB,Rg.sC]
   refine Rg.ld 6 HeldS ?_
   simp only [Act.put,Rg.sA,Rg.sB,Rg.sC]
   refine Rg.ld 7 HeldS ?_
   simp only [Act.put,Rg.sA,Rg.sB,Rg.sC]
   refine Rg.ld 8 HeldS ?_
   simp only [Act.put,Rg.sA,Rg.sB,Rg.sC]
   have hmk:=make_zeros L (by omega) w1.drew
   refine Rg.dd 9 fun K hK => ?_
   go_simp
   refine hK _ _ (fun h => absurd h (by decide)) ?_
   clear hK K HeldS hmk
   refine Rg.pu 10 ?_
   simp only [Act.put,Rg.sA,Rg.sB,Rg.sC]
   refine Rg.wpD_done (by kernel_rfl) ?_
   have hKn:Kn (w1.alloc (.cells (zeros L).toArray 3)).drew w1.heap.size s.length T.es.length (upV d T s):=(HKN.out w1).kept rfl
   have q2:Below w1.heap.size w1 (w1.alloc (.cells (zeros L).toArray 3)).drew:=below_drew ((Below.refl _ w1).alloc (Nat.le_refl _) _)
   generalize (w1.alloc (.cells (zeros L).toArray 3)).drew = w2 at *
   have hcall:=HFC.out w1.heap.size w2 (Nat.le_of_lt s1) (below_next b1 q2) hKn
   obtain ⟨c1,c0⟩:=HSt.out _ q2
   have HB2:Hid (Below w.heap.size w w2):=below_next b1 q2
   clear hKn q2 q0 HKN HSt
   go_wp2_with fail
   go_at_call 75
   refine Calls.mono hcall ?_
   clear hcall c1 c0
   rintro r w3 ⟨rfl,b3⟩
   have B3:Below w.heap.size w w3:=HB2.out.trans (b3.below (Nat.le_of_lt s1) HB2.out.size)
   go_wp2
   go_ret
   exact ⟨rfl,B3⟩
 ·rw [decide_eq_false hin] at his
  rw [decide_eq_false hin,Bool.false_and] at hV
  subst hV
  clear hT hv hdp hok hin k1 hlen hs50
  go_enter Tryz.func46,Tryz.ntmps46
  go_wp2_with fail
  go_at_call 74
  refine Calls.mono his ?_
  clear his
  rintro x wx ⟨rfl,hww⟩
  obtain rfl:=hww.symm
  clear hww hw1
  go_wp2
  go_ret
  exact ⟨rfl,b1⟩
set_option maxHeartbeats 1000000 in
theorem any_of (d:Nat) (HS:SelOK d):AnyOK d:=by
 intro T l v k w hT hk hv hdp hok
 obtain ⟨p,cap,rfl⟩:=RowT.len hv
 obtain ⟨V,hV⟩:∃ V,Mt.anyV T.es (d + 1) l k = V:=⟨_,rfl⟩
 rw [hV]
 have HV:Hid (l.any (fun s => Mt.selV (Mt.anyV T.es d) T.es s k) = V):=hV
 have HVV:Hid (SelsR (d + 1) w.heap.size w (.slice p l.length cap) l):=hv
 have HT:Hid (T.At w):=hT
 have HO:Hid ((∀ s ∈ l,deepS d s = false) ∧ ∀ s ∈ l,okS d s):=⟨hdp,hok⟩
 have HSS:Hid (SelOK d):=HS
 obtain ⟨D,hD⟩:∃ D:Int,8 - (d:Int) = D:=⟨_,rfl⟩
 have HD:Hid (8 - (d:Int) = D):=hD
 rw [hD]
 clear hV hv hT hdp hok HS hD
 go_enter Tryz.func157,Tryz.ntmps157
 go_wp2
 go_loopw [9] (fun x wr => ∃ i:Nat,x = .int .i64 i ∧ i ≤ l.length ∧ Hid ((l.take i).any (fun s => Mt.selV (Mt.anyV T.es d) T.es s k) = false) ∧ Below w.heap.size w wr) (fun x _ => l.length - (intOf x).toNat)
 case atStart => exact ⟨0,rfl,Nat.zero_le _,rfl,Below.refl _ _⟩
 case round =>
  obtain ⟨i,rfl,hi,HA,hb⟩:=hrel
  by_cases hlt:i < l.length
  ·have hii:(i:Int) < (l.length:Int):=by omega
   obtain ⟨s,hs⟩:∃ s,l[i]? = some s:=⟨_,List.getElem?_eq_getElem hlt⟩
   obtain ⟨b,off,x,hq,hbn,hc1,hc2,hx,y0⟩:=SelsR.get HVV.out hs
   subst hq
   unfold maxLen at hc2
   obtain ⟨q,c,rfl⟩:=RowT.len hx
   have y1:=(hb.cell (p:=⟨b,off + i,none⟩) hbn).trans y0
   have hsm:=List.mem_of_getElem? hs
   have hcall:=HSS.out T s q c (k:Int) wr (HT.out.next hb) ((PartsR.below hx hb).mono hb.size) (HO.out.1 s hsm) (HO.out.2 s hsm)
   rw [HD.out,decide_eq_true ⟨by omega,by omega⟩,Bool.true_and,Int.toNat_natCast] at hcall
   generalize hSV:Mt.selV (Mt.anyV T.es d) T.es s k = SV at hcall
   have HSV:Hid (Mt.selV (Mt.anyV T.es d) T.es s k = SV):=hSV
   have HS1:Hid (l[i]? = some s):=hs
   have hi1:(i:Int) + 1 ≤ 9223372036854775807:=by omega
   have HB:Hid (i + 1 ≤ l.length):=hlt
   clear hs hsm hx y0 hSV hc1
   go_wp2_with fail
   go_at_call 46
   refine Calls.mono hcall ?_
   clear hcall y1
   rintro r w2 ⟨rfl,b2⟩
   have B2:=below_next hb b2
   cases SV with
   | true =>
    obtain rfl:V = true:=by
     rw [← HV.out,List.any_eq_true]
     exact ⟨s,List.mem_of_getElem? HS1.out,HSV.out⟩
    clear HA HSV HS1 HV
    go_wp2
    go_ret
    exact ⟨rfl,B2⟩
   | false =>
    have HA1:Hid ((l.take (i + 1)).any (fun s => Mt.selV (Mt.anyV T.es d) T.es s k) = false):=by
     show _ = _
     rw [any_snoc _ HS1.out,HA.out,HSV.out];rfl
    clear HA HSV HS1
    go_wp2
    go_roundw
    case rel => exact ⟨i + 1,by go_num,HB.out,HA1,B2⟩
    case measure => have:=HB.out;simp [intOf];omega
  ·have hii:¬ (i:Int) < (l.length:Int):=by omega
   obtain rfl:V = false:=by
    have h:=HA.out
    rw [List.take_of_length_le (by omega)] at h
    rw [← HV.out,h]
   go_wp2
   go_ret
   exact ⟨rfl,hb⟩
theorem front_all (d:Nat) (HC:CompOK d):∀ k,FrontOK d k
 | 0 => front_of d 0 HC (fun k' h => by omega)
 | k + 1 => front_of d (k + 1) HC (fun k' h => by obtain rfl:k' = k:=(by omega);exact hangs_of d k' (front_all d HC k'))
theorem comp_all:∀ d,d ≤ 8 → CompOK d
 | 0,h => comp_of 0 h (fun d' e => by omega)
 | d + 1,h => comp_of (d + 1) h (fun d' e => by obtain rfl:d' = d:=(by omega);exact any_of d' (sel_of d' (front_all d' (comp_all d' (by omega)))))
theorem sel_all (d:Nat) (h:d ≤ 8):SelOK d:=sel_of d (front_all d (comp_all d h))
def selectorV (es:List El) (e:Int) (s:Sel):Bool:=decide (0 ≤ e ∧ e < (es.length:Int)) && (!deepS 8 s && Mt.selV (Mt.anyV es 8) es s e.toNat)
set_option maxHeartbeats 1000000 in
theorem selector_any (T:TE) (s:Sel) (v:Value) (e:Int) (w:World) (hT:T.At w) (hv:PartsR 8 w.heap.size w v s) (hok:okS 8 s) :
  Calls Tryz.prog 15 #[T.p,.int .i64 e,.agg #[v]] w fun r w' => r = .returned (.bool (selectorV T.es e s)) ∧ Below w.heap.size w w':=by
 obtain ⟨p,cap,rfl⟩:=RowT.len hv
 obtain ⟨V,hV⟩:∃ V,selectorV T.es e s = V:=⟨_,rfl⟩
 rw [hV]
 unfold selectorV at hV
 obtain ⟨w1,hw1⟩:∃ w1,w.alloc (.cells #[.slice p s.length cap] 36) = w1:=⟨_,rfl⟩
 have b1:Below w.heap.size w w1:=by rw [← hw1];exact (Below.refl _ w).alloc (Nat.le_refl _) _
 have k1:Blk w1 w.heap.size 36 [.slice p s.length cap]:=by rw [← hw1];exact Blk.new w _ _
 have c0:=(blk1 k1).1
 have hdp:=deepSel_any 8 (Nat.le_refl _) (.slice p s.length cap) s w1 ((PartsR.below hv b1).mono b1.size)
 rw [show (8:Int) - ((8:Nat):Int) = 0 from rfl] at hdp
 have HSL:Hid (deepS 8 s = false → ∀ X,Below w1.heap.size w1 X → Calls Tryz.prog 46 #[T.p,.int .i64 e,.agg #[.slice p s.length cap],.int .i64 0] X fun r w' => r = .returned (.bool (decide (0 ≤ e ∧ e < (T.es.length:Int)) && Mt.selV (Mt.anyV T.es 8) T.es s e.toNat)) ∧ Below X.heap.size X w'):=fun hd X hX => by
  have h2:=below_next b1 hX
  exact sel_all 8 (Nat.le_refl _) T s p cap e X (hT.next h2) ((PartsR.below hv h2).mono h2.size) hd hok
 have K1:Hid (Blk w1 w.heap.size 36 [.slice p s.length cap]):=k1
 clear hT hv hok k1
 cases hd:deepS 8 s with
 | true =>
  rw [hd] at hdp hV
  obtain rfl:V = false:=by rw [← hV];simp
  clear hV HSL hd
  go_enter Tryz.func15,Tryz.ntmps15
  go_wp2_with fail
  go_at_call 16
  refine Calls.mono hdp ?_
  clear hdp hw1 c0
  rintro r w2 ⟨rfl,b2⟩
  have B2:=below_next b1 b2
  go_wp2
  go_ret
  exact ⟨rfl,B2⟩
 | false =>
  rw [hd] at hdp hV
  have hV2:(decide (0 ≤ e ∧ e < (T.es.length:Int)) && Mt.selV (Mt.anyV T.es 8) T.es s e.toNat) = V:=by rw [← hV];simp
  have HS2:=HSL.out hd
  rw [hV2] at HS2
  have HS3:Hid (∀ X,Below w1.heap.size w1 X → Calls Tryz.prog 46 #[T.p,.int .i64 e,.agg #[.slice p s.length cap],.int .i64 0] X fun r w' => r = .returned (.bool V) ∧ Below X.heap.size X w'):=HS2
  clear hV HSL hd HS2 hV2
  go_enter Tryz.func15,Tryz.ntmps15
  go_wp2_with fail
  go_at_call 16
  refine Calls.mono hdp ?_
  clear hdp hw1 c0
  rintro r w2 ⟨rfl,b2⟩
  have c0:=(blk1 (K1.out.below b2 K1.out.lt)).1
  have hcall:=HS3.out w2 b2
  have B2:=below_next b1 b2
  clear b2 HS3
  go_wp2_with fail
  go_at_call 46
  refine Calls.mono hcall ?_
  clear hcall c0
  rintro r w3 ⟨rfl,b3⟩
  have B3:=below_next B2 b3
  go_wp2
  go_ret
  exact ⟨rfl,B3⟩
end Go.Proofs.YtnemagmakgiheaaGreat.Rf
/- The document's New, and what its tree is to matching. -/
namespace Go.Proofs.YtnemagmakgiheaaGreat.Rf
open Go Go.RowKit Sl Wg Go.Proofs.YtnemagmakgiheaaGreat.Tre
open Dm (El Nd Nv lowN SmallN newV newF addV growV zeroEl RTr Tells)
theorem grow_nds {es:List El} {p c:Nat} {q:El} (hq:es[p]? = some q) {x:El} (hx:x ∈ growV es p q c):∃ y ∈ es,x.nd = y.nd:=by
 unfold growV at hx
 rcases List.mem_or_eq_of_mem_set hx with h | rfl
 ·exact ⟨x,h,rfl⟩
 ·exact ⟨q,List.mem_of_getElem? hq,rfl⟩
theorem add_nds {es es':List El} {n:Nd} (h:addV es n = .ok es') {x:El} (hx:x ∈ es'):(∃ y ∈ es,x.nd = y.nd) ∨ x.nd = lowN n:=by
 unfold addV at h
 split at h
 ·split at h
  ·cases h
   rw [List.mem_singleton] at hx
   subst hx
   exact .inr rfl
  ·cases h
 ·split at h
  ·rename_i hp
   split at h
   ·cases h
   ·cases h
    rcases List.mem_append.1 hx with hx | hx
    ·obtain ⟨q,hq⟩:∃ q,es[n.parent.toNat]? = some q:=⟨_,List.getElem?_eq_getElem (by omega)⟩
     have hg:es.getD n.parent.toNat zeroEl = q:=by simp [List.getD,hq]
     rw [hg] at hx
     exact .inl (grow_nds hq hx)
    ·rw [List.mem_singleton] at hx
     subst hx
     exact .inr rfl
  ·cases h
theorem newF_nds:∀ (l:List Nd) (es es':List El),newF es l = .ok es' → ∀ x ∈ es',(∃ y ∈ es,x.nd = y.nd) ∨ ∃ n ∈ l,x.nd = lowN n
 | [],es,es',h,x,hx => by cases h;exact .inl ⟨x,hx,rfl⟩
 | n :: l,es,es',h,x,hx => by
  unfold newF at h
  cases ha:addV es n with
  | error e => rw [ha] at h;cases h
  | ok e2 =>
   rw [ha] at h
   rcases newF_nds l e2 es' h x hx with ⟨y,hy,e⟩ | ⟨m,hm,e⟩
   ·rcases add_nds ha hy with ⟨z,hz,e'⟩ | e'
    ·exact .inl ⟨z,hz,e.trans e'⟩
    ·exact .inr ⟨n,List.mem_cons_self ..,e.trans e'⟩
   ·exact .inr ⟨m,List.mem_cons_of_mem _ hm,e⟩
theorem newV_nds {l:List Nd} {es:List El} (h:newV l = .ok es):∀ x ∈ es,∃ n ∈ l,x.nd = lowN n:=fun x hx => by
 unfold newV at h
 split at h
 ·cases h
 ·rcases newF_nds l [] es h x hx with ⟨y,hy,_⟩ | h
  ·cases hy
  ·exact h
theorem small_low {n:Nd} (h:SmallN n):SmallN (lowN n):=by
 obtain ⟨h1,h2,h3,h4,h5,h6⟩:=h
 refine ⟨h1,by show (n.ats.map Dm.lowA).length ≤ 8;rw [List.length_map];exact h2,by show (Dm.lowS n.tag).size ≤ 60;rw [Dm.lowS_size];exact h3,h4,h5,fun a ha => ?_⟩
 obtain ⟨b,hb,rfl⟩:=List.mem_map.1 ha
 exact ⟨by show (Dm.lowS b.1).size ≤ 60;rw [Dm.lowS_size];exact (h6 b hb).1,(h6 b hb).2⟩
theorem TE.of_new {b tb:Nat} {nv dv:Value} {ns:List Nv} {ds:List Int} {es:List El} {w:World} {l:List Nv} (hR:RTr b w tb nv dv ns ds) (hE:Tells es ns ds) (hv:newV (l.map Nv.nd) = .ok es) (hs:∀ n ∈ l,SmallN n.nd) :
  (TE.mk b tb nv dv ns ds es).At w ∧ (∀ q ∈ es,SmallN q.nd) ∧ es.length = l.length:=by
 obtain ⟨h1,h2,h3⟩:=Dm.newV_ok hv
 rw [List.length_map] at h2 h3
 have hq:∀ q ∈ es,SmallN q.nd:=fun q hq => by
  obtain ⟨n,hn,e⟩:=newV_nds hv q hq
  obtain ⟨m,hm,rfl⟩:=List.mem_map.1 hn
  rw [e]
  exact small_low (hs m hm)
 refine ⟨⟨hR,hE,h1,by show es.length ≤ 4096;omega,fun n hn p hp => ?_⟩,hq,h2⟩
 have h4:n.nd ∈ es.map El.nd:=by rw [← hE.nds];exact List.mem_map_of_mem hn
 obtain ⟨q,hqm,e⟩:=List.mem_map.1 h4
 have h5:=(hq q hqm).2.2.2.2.2 p (by rw [e];exact hp)
 omega
theorem okA_of {c:Cp} (h:CpR 1048576 c):okA c:=by
 obtain ⟨_,_,_,h4,h5⟩:=h
 refine ⟨fun a ha => by have:=(h4 a ha).2.1;omega,fun q hq => ?_⟩
 obtain ⟨g1,g2⟩:=h5 q hq
 simp [Lit.wf] at g1 g2
 have hm:IntKind.i64.min = -9223372036854775808:=rfl
 unfold i64
 constructor <;> constructor <;> omega
theorem okS_of:∀ (d:Nat) {s:Sel},OkD 1048576 d s → okS d s
 | 0,_,h => fun p hp => okA_of (h p hp)
 | d + 1,_,h => fun p hp => ⟨okA_of (h p hp).1,fun q hq s' hs' => okS_of d ((h p hp).2 q hq s' hs')⟩
end Go.Proofs.YtnemagmakgiheaaGreat.Rf
/- The document's own Compound (tapestrierref9). -/
namespace Go.Proofs.YtnemagmakgiheaaGreat.Rf
open Go Go.RowKit Go.Shelf Sl Wg Bk Go.Proofs.YtnemagmakgiheaaGreat.Tre
open Dm (El parentV placeV childrenV nodeV beforeV TreeOk)
def compoundV (es:List El) (k:Nat) (c:Cp):Bool:=!deepC 8 c && Mt.compV (Mt.anyV es 8) es c k
end Go.Proofs.YtnemagmakgiheaaGreat.Rf
