/- package match: places of elements. -/
import Derived.Test.YtcmmdojlhfmddaaGreatMtIsB
import Derived.Test.YtcmmdojlhfmddaaGreatMtFit
import Derived.Test.YtcmmdojlhfmddaaGreatMtAttr
import Derived.Test.YtcmmdojlhfmddaaGreatDmTell
import Derived.Test.YtcmmdojlhfmddaaGreatDmBig
import Derived.Test.YtcmmdojlhfmddaaGreatMtText
set_option maxRecDepth 100000
namespace Go.Proofs.YtcmmdojlhfmddaaGreat.Mt
open Go.Proofs.YtcmmdojlhfmddaaGreat.Tre
open Go Go.RowKit Dm
theorem wrapU (x:Int):IntKind.u64.wrap x = x % 18446744073709551616:=by simp [IntKind.wrap,IntKind.bits,IntKind.signed]
theorem wrapU_sub {p b:Int} (hp:i64 p) (hb:i64 b) (h:b ≤ p):IntKind.u64.wrap (IntKind.u64.wrap p - IntKind.u64.wrap b) = p - b:=by
 unfold i64 at hp hb
 rw [wrapU,wrapU,wrapU]
 omega
theorem wrapU_neg {a:Int} (ha:i64 a) (h:a < 0):IntKind.u64.wrap (-IntKind.u64.wrap a) = -a:=by
 unfold i64 at ha
 rw [wrapU,wrapU]
 omega
set_option maxHeartbeats 2000000 in
theorem isInRow_any (p a b:Int) (hp:i64 p) (ha:i64 a) (hb:i64 b) (w:World) :
  Calls Tryz.prog 148 #[.int .i64 p,.int .i64 a,.int .i64 b] w fun e w' => e = .returned (.bool (inRowV p a b)) ∧ w' = w:=by
 have hs1:=fun h => wrapU_sub (p:=p) (b:=b) hp hb h
 have hs2:=fun h => wrapU_sub (p:=b) (b:=p) hb hp h
 have hn:=fun h => wrapU_neg (a:=a) ha h
 unfold i64 at hp ha hb
 unfold inRowV
 by_cases h0:0 < a
 ·rw [if_pos h0]
  by_cases h1:b ≤ p
  ·have hs:=hs1 h1
   have hV:decide (b ≤ p ∧ (p - b) % a = 0) = ((p - b) % a == 0):=by
    rw [Bool.eq_iff_iff]
    simp [h1]
   rw [hV]
   clear hs1 hs2 hn hV
   go_enter Tryz.func148,Tryz.ntmps148
   go_wp2
   go_ret
   exact ⟨rfl,rfl⟩
  ·have hb2:p < b:=by omega
   clear hs1 hs2 hn
   rw [decide_eq_false (fun h => h1 h.1)]
   go_enter Tryz.func148,Tryz.ntmps148
   go_wp2
   go_ret
   exact ⟨rfl,rfl⟩
 ·rw [if_neg h0]
  by_cases h2:a < 0
  ·rw [if_pos h2]
   by_cases h1:p ≤ b
   ·have hs:=hs2 h1
    have hm:=hn h2
    have hm0:¬ (-a = 0):=by omega
    have hm1:¬ (a = 0):=by omega
    obtain ⟨m,hm2⟩:∃ m,-a = m:=⟨_,rfl⟩
    rw [hm2] at hm hm0
    have hV:decide (p ≤ b ∧ (b - p) % -a = 0) = ((b - p) % m == 0):=by
     rw [hm2,Bool.eq_iff_iff]
     simp [h1]
    rw [hV]
    clear hs1 hs2 hn hV hm2
    go_enter Tryz.func148,Tryz.ntmps148
    go_wp2
    go_ret
    exact ⟨rfl,rfl⟩
   ·have hb2:b < p:=by omega
    clear hs1 hs2 hn
    rw [decide_eq_false (fun h => h1 h.1)]
    go_enter Tryz.func148,Tryz.ntmps148
    go_wp2
    go_ret
    exact ⟨rfl,rfl⟩
  ·rw [if_neg h2]
   clear hs1 hs2 hn
   go_enter Tryz.func148,Tryz.ntmps148
   go_wp2
   go_ret
   exact ⟨rfl,rfl⟩
section
variable (E:Env) (hE:EnvOk E) (w:World) (hT:Tr E.b w E.tb E.g E.cap E.qs)
include hT
theorem isFirst_any (e:Int):Calls Tryz.prog 145 #[.pointer (some ⟨E.tb,0,none⟩),.int .i64 e] w fun x w' => x = .returned (.bool (firstV E.es e)) ∧ w' = w:=by
 have hp:=place_any E.b E.tb E.g E.cap E.qs e w hT
 unfold firstV Env.es
 clear hT
 go_enter Tryz.func145,Tryz.ntmps145
 go_wp2_with fail
 refine hp.mono ?_
 clear hp
 rintro x w' ⟨rfl,rfl⟩
 go_wp2
 go_ret
 exact ⟨rfl,rfl⟩
include hE
set_option maxHeartbeats 1000000 in
theorem isLast_any (e:Int):Calls Tryz.prog 146 #[.pointer (some ⟨E.tb,0,none⟩),.int .i64 e] w fun x w' => x = .returned (.bool (lastV E.es e)) ∧ Below w.heap.size w w':=by
 have hp:=place_any E.b E.tb E.g E.cap E.qs e w hT
 have hq:=parent_any E.b E.tb E.g E.cap E.qs e w hT
 have hc:=children_any E.b E.tb E.g E.cap E.qs (parentV E.es e) w hT hE.ok hE.few
 unfold lastV
 unfold Env.es at *
 generalize parentV (E.qs.map Em.e) e = P at *
 generalize placeV (E.qs.map Em.e) e = L at *
 generalize childrenV (E.qs.map Em.e) P = C at *
 clear hT hE
 by_cases h:P = -1
 ·subst h
  rw [decide_eq_true rfl,Bool.true_or]
  clear hp hc
  go_enter Tryz.func146,Tryz.ntmps146
  go_wp2_with fail
  refine hq.mono ?_
  clear hq
  rintro x w' ⟨rfl,rfl⟩
  go_wp2
  go_ret
  exact ⟨rfl,Below.refl _ _⟩
 ·rw [decide_eq_false h,Bool.false_or]
  have hne:(P == -1) = false:=by simpa using h
  go_enter Tryz.func146,Tryz.ntmps146
  go_wp2_with fail
  refine hq.mono ?_
  clear hq
  rintro x w' ⟨rfl,rfl⟩
  go_wp2_with fail
  refine hp.mono ?_
  clear hp
  rintro x w2 ⟨rfl,rfl⟩
  go_wp2_with fail
  refine hc.mono ?_
  clear hc
  rintro x w3 ⟨v',rfl,hv,b3⟩
  unfold IntRow at hv
  rw [chI_len] at hv
  obtain ⟨pv,cv,rfl⟩:=owns_form hv
  clear hv
  go_wp2
  go_ret
  exact ⟨rfl,b3⟩
set_option maxHeartbeats 4000000 in
theorem isPlaced_any (e:Int) (p:Ps) (pl:Option Addr) (m c:Nat) (hp:i64 p.a ∧ i64 p.b):Calls Tryz.prog 134 #[.pointer (some ⟨E.tb,0,none⟩),.int .i64 e,.agg #[.int .i64 p.kind,.int .i64 p.a,.int .i64 p.b,.slice pl m c]] w fun x w' => x = .returned (.bool (placedV E.es e p)) ∧ Below w.heap.size w w':=by
 obtain ⟨w1,hw1⟩:∃ w1,w.alloc (.cells #[.int .i64 p.kind,.int .i64 p.a,.int .i64 p.b,.slice pl m c] 160) = w1:=⟨_,rfl⟩
 have k1:Blk w1 w.heap.size 160 [.int .i64 p.kind,.int .i64 p.a,.int .i64 p.b,.slice pl m c]:=by rw [← hw1];exact Blk.new w 160 _
 have b1:Below w.heap.size w w1:=by rw [← hw1];exact (Below.refl _ _).alloc (Nat.le_refl _) _
 have hT1:=hT.next b1
 have hpl:=fun n => place_any E.b E.tb E.g E.cap E.qs e (w1.drewN n) (hT1.drewN n)
 have hpa:=parent_any E.b E.tb E.g E.cap E.qs e w1 hT1
 have hch:=children_any E.b E.tb E.g E.cap E.qs e w1 hT1 hE.ok hE.few
 have hfi:=isFirst_any E w1 hT1 e
 have hla:=isLast_any E hE w1 hT1 e
 obtain ⟨⟨c0,c1,c2,c3⟩,_⟩:=blk4 k1
 have hPl:i64 (placeV E.es e):=by
  unfold placeV i64
  cases h:elAt E.es e with
  | none => simp
  | some q =>
   have hq:q ∈ E.es:=by
    unfold elAt at h
    split at h
    ·exact List.mem_of_getElem? h
    ·cases h
   obtain ⟨j,hj⟩:=List.getElem?_of_mem hq
   have hlen:=hE.few
   have hel:E.es.length = E.qs.length:=List.length_map ..
   simp only [Option.map_some,Option.getD_some]
   rcases Nat.eq_zero_or_pos j with rfl | hj0
   ·have:=(hE.ok.root q hj).2.2
    omega
   ·obtain ⟨p',q',_,_,hq',_,h1,h2⟩:=hE.ok.par j q hj hj0
    have h3:=hE.ok.few p' q' hq'
    have h4:=(List.getElem?_eq_some_iff.1 h2).1
    omega
 have hro:=fun W => isInRow_any (placeV E.es e) p.a p.b hPl hp.1 hp.2 W
 unfold placedV
 unfold Env.es at *
 generalize inRowV (placeV (E.qs.map Em.e) e) p.a p.b = R at *
 generalize parentV (E.qs.map Em.e) e = P at *
 generalize placeV (E.qs.map Em.e) e = L at *
 generalize firstV (E.qs.map Em.e) e = F at *
 generalize lastV (E.qs.map Em.e) e = T at *
 generalize childrenV (E.qs.map Em.e) e = C at *
 generalize p.kind = k at *
 clear hT hE hT1 hPl hp k1
 by_cases h1:k = 1
 ·subst h1
  rw [if_pos rfl]
  clear hpl hch hfi hla hro
  go_enter Tryz.func134,Tryz.ntmps134
  go_wp2_with fail
  refine hpa.mono ?_
  clear hpa
  rintro x w' ⟨rfl,rfl⟩
  go_wp2
  go_ret
  exact ⟨rfl,b1⟩
 rw [if_neg h1]
 have e1:(k == 1) = false:=by simpa using h1
 clear hpa h1
 by_cases h1:k = 2
 ·subst h1
  rw [if_pos rfl]
  clear hpl hch hla hro
  go_enter Tryz.func134,Tryz.ntmps134
  go_wp2_with fail
  refine hfi.mono ?_
  clear hfi
  rintro x w' ⟨rfl,rfl⟩
  go_wp2
  go_ret
  exact ⟨rfl,b1⟩
 rw [if_neg h1]
 have e2:(k == 2) = false:=by simpa using h1
 clear h1
 by_cases h1:k = 3
 ·subst h1
  rw [if_pos rfl]
  clear hpl hch hfi hro
  go_enter Tryz.func134,Tryz.ntmps134
  go_wp2_with fail
  refine hla.mono ?_
  clear hla
  rintro x w' ⟨rfl,b2⟩
  have b3:=below_next b1 b2
  go_wp2
  go_ret
  exact ⟨rfl,b3⟩
 rw [if_neg h1]
 have e3:(k == 3) = false:=by simpa using h1
 clear h1
 by_cases h1:k = 4
 ·subst h1
  rw [if_pos rfl]
  clear hpl hch hro
  go_enter Tryz.func134,Tryz.ntmps134
  go_wp2_with fail
  refine hfi.mono ?_
  clear hfi
  rintro x w' ⟨rfl,rfl⟩
  cases F with
  | true =>
   go_wp2_with fail
   refine hla.mono ?_
   clear hla
   rintro x w' ⟨rfl,b2⟩
   have b3:=below_next b1 b2
   go_wp2
   go_ret
   exact ⟨rfl,b3⟩
  | false =>
   clear hla
   go_wp2
   go_ret
   exact ⟨rfl,b1⟩
 rw [if_neg h1]
 have e4:(k == 4) = false:=by simpa using h1
 clear h1 hla hfi
 by_cases h1:k = 5
 ·subst h1
  rw [if_pos rfl]
  clear hpl hro
  go_enter Tryz.func134,Tryz.ntmps134
  go_wp2_with fail
  refine hch.mono ?_
  clear hch
  rintro x w' ⟨v',rfl,hv,b2⟩
  have b3:=below_next b1 b2
  unfold IntRow at hv
  rw [chI_len] at hv
  obtain ⟨pv,cv,rfl⟩:=owns_form hv
  have hz:((C.length:Int) == 0) = decide (C.length = 0):=by rw [Bool.eq_iff_iff];simp
  clear hv
  go_wp2
  go_ret
  exact ⟨by simp,b3⟩
 rw [if_neg h1]
 have e5:(k == 5) = false:=by simpa using h1
 clear h1 hch
 by_cases h1:k = 6
 ·subst h1
  rw [if_pos rfl]
  go_enter Tryz.func134,Tryz.ntmps134
  go_wp2
  go_quiet (first | (go_at_call 149;exact Calls.quiet_of_same (hpl _)) | (go_at_call 148;exact Calls.quiet_of_same (hro _)))
  go_wp2
  go_ret
  exact ⟨rfl,below_drewN' b1 _⟩
 rw [if_neg h1]
 have e6:(k == 6) = false:=by simpa using h1
 clear hpl hro
 go_enter Tryz.func134,Tryz.ntmps134
 go_wp2
 go_ret
 exact ⟨rfl,b1⟩
end
end Go.Proofs.YtcmmdojlhfmddaaGreat.Mt

/- package match: fits at every selector. -/
set_option maxRecDepth 100000
namespace Go.Proofs.YtcmmdojlhfmddaaGreat.Mt
open Go.Proofs.YtcmmdojlhfmddaaGreat.Tre
open Go Go.RowKit Go.Shelf Dm
attribute [local go_sem] Oper.semAt_some
def goodL:Nat → List Sel → Bool
 | 0,_ => false
 | d + 1,l => l.all (fitsV d)
theorem fitsV_eq (d:Nat) (s:Sel):fitsV d s = (decide (s.length ≤ 50) && (listsV s).all (goodL d)):=by cases d <;> rfl
theorem results_bool {fn:Func} {p:Tmp} (h:fn.results = #[.cell p 4]) (tmps:Array Value) (W:World) (g:Nat) (v:Value) (hp:tmps.getD p undef = .pointer (some ⟨g,0,none⟩)) (hc:W.cell? ⟨g,0,none⟩ = some v):(results fn tmps).run Tryz.prog W = .ok v W:=by
 have hp':tmps[p]?.getD undef = .pointer (some ⟨g,0,none⟩):=by simpa using hp
 have hl:(loadVar 4 ⟨g,0,none⟩).run Tryz.prog W = .ok v W:=by
  simp [loadVar,isAgg,Sem.run_bind,Result.andThen,load,hc,Sem.run]
 simp [results,h,hp',asAddr,hl]
theorem all_no {α:Type} {f:α → Bool} {a b l:List α} {x:α} (h:a ++ x :: b = l) (hx:f x = false):l.all f = false:=by
 subst h
 simp [hx]
def FitsIn (d:Nat):Prop:=∀ (n dd:Nat) (_:1 ≤ n) (s:Sel) (v:Value) (w:World),PartsAt dd w.heap.size w v s →
  CallsIn Fence.wide n Tryz.prog 82 #[.agg #[v],.int .i64 ((8 - d:Nat):Int)] w fun e w' => e = .returned (.bool (fitsV d s)) ∧ Below w.heap.size w w'
set_option maxHeartbeats 8000000 in
theorem fits_step (d:Nat) (hd:d ≤ 8) (IH:∀ d',d = d' + 1 → FitsIn d'):FitsIn d:=by
 intro n dd hn s v w hP
 have HI:Hid (∀ d',d = d' + 1 → FitsIn d'):=IH
 clear IH
 obtain ⟨D,hD⟩:∃ D:Int,D = ((8 - d:Nat):Int):=⟨_,rfl⟩
 have hD8:(d = 0 → D = 8) ∧ (0 < d → D ≠ 8) ∧ 0 ≤ D ∧ D ≤ 8:=by omega
 have HD:Hid (D = ((8 - d:Nat):Int)):=hD
 rw [← hD]
 clear hD
 obtain ⟨w3,hw3⟩:∃ w3,((w.alloc (.cells #[v] 117)).alloc (.cells #[.int .i64 D] 3)).alloc (.cells #[.bool false] 4) = w3:=⟨_,rfl⟩
 have hs3:w3.heap.size = w.heap.size + 3:=by rw [← hw3];simp
 have hB3:Below w.heap.size w w3:=by rw [← hw3];exact (((Below.refl _ w).alloc (Nat.le_refl _) _).alloc (by simp) _).alloc (by simp;omega) _
 have bS3:Boxed w3 w.heap.size 117 v:=by rw [← hw3];exact ((Boxed.new _ _ _).alloc _).alloc _
 have bD3:Boxed w3 (w.heap.size + 1) 3 (.int .i64 D):=by
  rw [← hw3]
  have:=(Boxed.new (w.alloc (.cells #[v] 117)) 3 (.int .i64 D)).alloc (.cells #[.bool false] 4)
  rwa [World.size_alloc] at this
 have bR3:Boxed w3 (w.heap.size + 2) 4 (.bool false):=by
  rw [← hw3]
  have:=Boxed.new ((w.alloc (.cells #[v] 117)).alloc (.cells #[.int .i64 D] 3)) 4 (.bool false)
  rwa [World.size_alloc,World.size_alloc] at this
 have HP:Hid (PartsAt dd w.heap.size w v s):=hP
 obtain ⟨pv,cv,rfl⟩:=RowT.len hP
 have cS3:=bS3.cell
 have cD3:=bD3.cell
 have cR3:=bR3.cell
 have fR3:=bR3.frozen
 clear hP
 refine callsIn_of_wp_marks Tryz.func82 rfl trivial ?_ rfl
 simp only [Tryz.ntmps82,List.size_toArray,List.length_cons,List.length_nil,Nat.reduceAdd,Nat.reduceSub,Array.replicate_succ,Array.replicate_zero,List.push_toArray,List.append_toArray,List.nil_append,List.cons_append]
 by_cases hlen:s.length ≤ 50
 ·have hgt:¬ ((50:Int) < (s.length:Int)):=by omega
  obtain ⟨w4,hw4⟩:∃ w4,w3.alloc (.cells #[.slice pv s.length cv] 117) = w4:=⟨_,rfl⟩
  have hs4:w4.heap.size = w.heap.size + 4:=by rw [← hw4];simp [hs3]
  have bS4:Boxed w4 (w.heap.size + 3) 117 (.slice pv s.length cv):=by
   rw [← hw4]
   have:=Boxed.new w3 117 (.slice pv s.length cv)
   rwa [hs3] at this
  have bD4:Boxed w4 (w.heap.size + 1) 3 (.int .i64 D):=by rw [← hw4];exact bD3.alloc _
  have bR4:Boxed w4 (w.heap.size + 2) 4 (.bool false):=by rw [← hw4];exact bR3.alloc _
  have hB4:Below w.heap.size w w4:=by rw [← hw4];exact hB3.alloc (by omega) _
  have hseq:=listsOf_seq (n - 1) (w.heap.size + 3) w4.heap.size dd w.heap.size s _ w HP.out w4 (by omega) (by omega) (Nat.le_refl _) hB4 bS4.cell
  have hlo:=listsOf_in (n - 1) (.slice pv s.length cv) ⟨_,_,_,rfl⟩ w3
  rw [hw4,hs3] at hlo
  obtain ⟨res,hres⟩:∃ r,r = fitsV d s:=⟨_,rfl⟩
  have HR:Hid (res = (listsV s).all (goodL d)):=by
   show _ = _
   rw [hres,fitsV_eq,decide_eq_true hlen,Bool.true_and]
  rw [← hres]
  clear hres hw4
  gi_wp2_with fail
  refine ⟨trivial,?_⟩
  refine hlo.mono ?_
  clear hlo
  rintro e W' ⟨rfl,rfl⟩
  clear cS3 cD3 cR3 fR3 bS3 bD3 bR3 hw3
  gi_wp2
  refine wpIn_rangeFunc_Z rfl hn (gf:=110) (lb:=#[.pointer (some ⟨w.heap.size + 3,0,none⟩)]) rfl trivial egLists hseq (Nat.le_refl _) (Below.refl _ _) (fun _ => rfl)
   (fun pre X => (pre.map Prod.snd).all (goodL d) = true ∧ Boxed X (w.heap.size + 1) 3 (.int .i64 D) ∧ Boxed X (w.heap.size + 2) 4 (.bool false) ∧ Below w.heap.size w X)
   (fun _ X => res = false ∧ Boxed X (w.heap.size + 2) 4 (.bool false) ∧ Below w.heap.size w X)
   ?hI ?hIx ⟨rfl,bD4,bR4,hB4⟩
   (fun x => { tmps:=#[.agg #[.slice pv s.length cv],.int .i64 D,.pointer (some ⟨w.heap.size,0,none⟩),.pointer (some ⟨w.heap.size + 1,0,none⟩),.pointer (some ⟨w.heap.size + 2,0,none⟩),x.1,undef,undef,.pointer (some ⟨w.heap.size,0,none⟩),.slice pv s.length cv,.int .i64 s.length,.bool false,.agg #[.slice pv s.length cv],.func (.func 110) #[] #[.pointer (some ⟨w.heap.size + 3,0,none⟩)],x.1,undef,undef,undef,undef,undef,undef,undef,undef,undef,undef,undef,undef,undef,undef],defers:=[] }) ?assign ?body ?done ?stop
  case hI =>
   rintro p X Y row ⟨h1,h2,h3,h5⟩ hg hr
   have far:∀ b,b < w.heap.size + 4 → some b ≠ row:=fun b hb e => by have:=hr b e.symm;omega
   exact ⟨h1,h2.kept hg (far _ (by omega)),h3.kept hg (far _ (by omega)),h5.grown hg h5.size (fun r e => by have:=hr r e;omega)⟩
  case hIx =>
   rintro p X Y row ⟨h1,h3,h5⟩ hg hr
   have far:∀ b,b < w.heap.size + 4 → some b ≠ row:=fun b hb e => by have:=hr b e.symm;omega
   exact ⟨h1,h3.kept hg (far _ (by omega)),h5.grown hg h5.size (fun r e => by have:=hr r e;omega)⟩
  case assign =>
   intro l x X K hK
   gi_wp2
   exact hK
  case body =>
   rintro l' pre x X ⟨h1,h2,h4,h5⟩ ⟨hsel,rest,hok⟩ hsz
   have c2:=h2.cell
   have c4:=h4.cell
   have f4:=h4.frozen
   have keepN:∀ Y,Below X.heap.size X Y → KeepsIn W'.heap.size W'.heap.size (W'.heap.size + 2 + 0) X Y:=fun Y hY => ⟨hY.mono (by omega),fun r r1 r2 => hY.block r (by omega)⟩
   have KN:Hid (∀ Y,Below X.heap.size X Y → KeepsIn W'.heap.size W'.heap.size (W'.heap.size + 2 + 0) X Y):=keepN
   have STOP:Hid (∀ Y,Below X.heap.size X Y → goodL d x.2 = false → KeepsIn 0 W'.heap.size (W'.heap.size + 2 + 0) X (Y.setCell ⟨w.heap.size + 2,0,none⟩ (.bool false)) ∧ res = false ∧ Boxed (Y.setCell ⟨w.heap.size + 2,0,none⟩ (.bool false)) (w.heap.size + 2) 4 (.bool false) ∧ Below w.heap.size w (Y.setCell ⟨w.heap.size + 2,0,none⟩ (.bool false))):=by
    intro Y hY hg
    have g2:=grownBy_setCell' Y (w.heap.size + 2) (.bool false)
    have hs1:=hY.size
    have h5s:=h5.size
    have b4:Boxed Y (w.heap.size + 2) 4 (.bool false):=h4.kept (grown_of_below hY none) (by simp)
    have hBY:Below w.heap.size w Y:=below_next h5 hY
    refine ⟨⟨((hY.mono (Nat.zero_le _)).trans ((Below.refl 0 Y).grown g2 (Nat.zero_le _) (fun r e => Nat.zero_le _))),fun r r1 r2 => ?_⟩,?_,b4.set _,hBY.grown g2 hBY.size (fun r e => by cases e;omega)⟩
    ·exact (g2.block r (by omega) (by simp;omega)).trans (hY.block r (by omega))
    ·rw [show res = _ from HR.out]
     exact all_no hok hg
   have NEXT:Hid (∀ Y,Below X.heap.size X Y → goodL d x.2 = true → KeepsIn W'.heap.size W'.heap.size (W'.heap.size + 2 + 0) X Y ∧ ((pre ++ [x]).map Prod.snd).all (goodL d) = true ∧ Boxed Y (w.heap.size + 1) 3 (.int .i64 D) ∧ Boxed Y (w.heap.size + 2) 4 (.bool false) ∧ Below w.heap.size w Y):=by
    intro Y hY hg
    refine ⟨keepN Y hY,?_,h2.kept (grown_of_below hY none) (by simp),h4.kept (grown_of_below hY none) (by simp),below_next h5 hY⟩
    rw [List.map_append,List.all_append,h1]
    simp [hg]
   have HS:Hid (SelsAt dd w.heap.size X x.1 x.2):=SelsAt.below dd hsel h5
   obtain ⟨px,cx,hxv⟩:=SelsAt.len hsel
   have hxs:=SelsAt.short hsel
   unfold maxLen at hxs
   rw [hxv]
   clear hseq hok hsel keepN h1
   cases d with
   | zero =>
    have hD0:=hD8.1 rfl
    have FIN:=STOP.out X (Below.refl _ _) rfl
    have HF:Hid _:=FIN
    rw [hD0] at c2
    clear FIN hD8 STOP NEXT
    gi_wp2
    exact HF.out
   | succ d =>
    have hne:(D == 8) = false:=by have:=hD8.2.1 (by omega);simpa using this
    have hw1:IntKind.i64.wrap (D + 1) = D + 1:=by rw [IntKind.wrap_i64];omega
    have HD1:Hid (D + 1 = ((8 - d:Nat):Int)):=by have:=HD.out;show _ = _;omega
    gi_wp2
    gi_loopw [19] (fun y wr => ∃ i:Nat,y = .int .i64 i ∧ i ≤ x.2.length ∧ (x.2.take i).all (fitsV d) = true ∧ Below X.heap.size X wr) (fun y _ => x.2.length - (intOf y).toNat)
    case atStart => exact ⟨0,rfl,Nat.zero_le _,rfl,Below.refl _ _⟩
    case round =>
     clear c2 c4 f4
     obtain ⟨i,rfl,hi,hall,hb⟩:=hrel
     by_cases hlt:i < x.2.length
     ·obtain ⟨y,hy⟩:∃ y,x.2[i]? = some y:=⟨_,List.getElem?_eq_getElem hlt⟩
      obtain ⟨px',rfl⟩:∃ p',p' = px:=⟨_,rfl⟩
      have hS2:=HS.out
      rw [hxv] at hS2
      obtain ⟨d',_,bk,off,xv,rfl,hbk,hcap,hmx,hPy,y0⟩:=SelsAt.get hS2 hy
      unfold maxLen at hmx
      have h5s:=h5.size
      have hbs:=hb.size
      have y1:=(hb.cell (p:=⟨bk,off + i,none⟩) (by simp;omega)).trans y0
      have c2:=(h2.kept (grown_of_below hb none) (by simp)).cell
      have c4:=(h4.kept (grown_of_below hb none) (by simp)).cell
      have f4:=(h4.kept (grown_of_below hb none) (by simp)).frozen
      obtain ⟨pq,cq,rfl⟩:=RowT.len hPy
      have hii:(i:Int) < (x.2.length:Int):=by omega
      obtain ⟨Y,hY⟩:∃ Y,wr.alloc (.cells #[.slice pq y.length cq] 117) = Y:=⟨_,rfl⟩
      have kY:Boxed Y wr.heap.size 117 (.slice pq y.length cq):=by rw [← hY];exact Boxed.new _ _ _
      have bY:Below X.heap.size X Y:=by rw [← hY];exact hb.alloc (by omega) _
      have cY:=kY.cell
      have c2Y:Y.cell? ⟨w.heap.size + 1,0,none⟩ = some (.int .i64 D):=(h2.kept (grown_of_below bY none) (by simp)).cell
      have hf:=HI.out d rfl 1 d' (Nat.le_refl _) y _ Y ((hPy.below (bY.mono h5s)).mono (Nat.le_trans h5s bY.size))
      have hDD:=HD1.out
      rw [← show D + 1 = _ from hDD] at hf
      have HALL:Hid ((x.2.take i).all (fitsV d) = true):=hall
      have HYY:Hid (x.2[i]? = some y):=hy
      clear hS2 hPy y0 hDD hall hy hb
      gi_wp2_with fail
      refine ⟨trivial,fun h => (by cases h),?_⟩
      refine (CallsIn.inRound l' (callsIn_wide.2 (callsIn_wide.1 hf))).mono ?_
      clear hf
      rintro e Z ⟨rfl,bz⟩
      have bZ:Below X.heap.size X Z:=below_next bY bz
      have f4Z:=(h4.kept (grown_of_below bZ none) (by simp)).frozen
      have c4Z:=(h4.kept (grown_of_below bZ none) (by simp)).cell
      clear c2 c4 f4 y1 cY c2Y kY hY bY bz
      cases hv:fitsV d y with
      | true =>
       have HE:Hid ((x.2.take (i + 1)).all (fitsV d) = true):=by
        show _ = _
        rw [List.take_add_one,show x.2[i]? = some y from HYY.out,List.all_append,show (x.2.take i).all (fitsV d) = true from HALL.out]
        simp [hv]
       clear hv HALL HYY
       gi_wp2
       go_roundw
       case rel => exact ⟨i + 1,rfl,by omega,HE.out,bZ⟩
       case measure => simp [intOf];omega
      | false =>
       have HF:Hid _:=STOP.out Z bZ (by
        show x.2.all (fitsV d) = false
        rw [List.all_eq_false]
        exact ⟨y,List.mem_of_getElem? HYY.out,by simp [hv]⟩)
       clear hv HALL HYY STOP NEXT
       gi_wp2
       exact HF.out
     ·obtain rfl:i = x.2.length:=by omega
      rw [List.take_length] at hall
      have HF:Hid _:=NEXT.out wr hb hall
      clear hall STOP NEXT
      gi_wp2
      exact HF.out
  case done =>
   rintro ys X hys ⟨h1,h2,h4,h5⟩ hK
   have hTl:res = true:=by rw [show res = _ from HR.out,← hys];exact h1
   have c4:=h4.cell
   have f4:=h4.frozen
   have g2:=grownBy_setCell' X (w.heap.size + 2) (.bool true)
   have hK2:=(g2.block W'.heap.size (Array.getElem?_eq_some_iff.1 hK).1 (by simp;omega)).trans hK
   have b4:=h4.set (.bool true)
   have hb4:=h5.grown g2 h5.size (fun r e => by cases e;omega)
   clear hseq
   gi_wp2
   refine ⟨by simp,.inl ⟨_,_,rfl,run_takeDeferred hK2,?_⟩⟩
   have g3:=grownBy_putObj' (X.setCell ⟨w.heap.size + 2,0,none⟩ (.bool true)) W'.heap.size (.deferred none)
   have b5:=b4.kept g3 (by simp;omega)
   refine ⟨_,results_bool rfl _ _ (w.heap.size + 2) _ rfl b5.cell,by rw [hTl],hb4.grown g3 (by have:=hb4.size;omega) (fun r e => by cases e;omega)⟩
  case stop =>
   rintro pre X _ ⟨hTl,h4,h5⟩ hK
   clear hseq
   gi_wp2
   refine ⟨by simp,.inl ⟨_,_,rfl,run_takeDeferred hK,?_⟩⟩
   have g3:=grownBy_putObj' X W'.heap.size (.deferred none)
   have b5:=h4.kept g3 (by simp;omega)
   exact ⟨_,results_bool rfl _ _ (w.heap.size + 2) _ rfl b5.cell,by rw [hTl],h5.grown g3 h5.size (fun r e => by cases e;omega)⟩
 ·have hgt:((50:Int) < (s.length:Int)):=by omega
  rw [fitsV_eq,decide_eq_false hlen,Bool.false_and]
  have hb4:=hB3.grown (grownBy_setCell' w3 (w.heap.size + 2) (.bool false)) hB3.size (fun r e => by cases e;omega)
  have b4:=bR3.set (.bool false)
  gi_wp2
  exact ⟨_,results_bool rfl _ _ (w.heap.size + 2) _ rfl b4.cell,rfl,hb4⟩
theorem fits_all:∀ d,d ≤ 8 → FitsIn d
 | 0,h => fits_step 0 h (fun _ e => by cases e)
 | d + 1,h => fits_step (d + 1) h (fun d' e => by cases e;exact fits_all d (by omega))
theorem fits_any (d:Nat) (s:Sel) (v:Value) (w:World) (hP:PartsAt d w.heap.size w v s) :
  Calls Tryz.prog 82 #[.agg #[v],.int .i64 0] w fun e w' => e = .returned (.bool (fitsV 8 s)) ∧ Below w.heap.size w w':=
 callsIn_wide.1 (fits_all 8 (Nat.le_refl _) 1 d (Nat.le_refl _) s v w hP)
end Go.Proofs.YtcmmdojlhfmddaaGreat.Mt

/- package match: maps from spots to what is asked there. -/
namespace Go.Proofs.YtcmmdojlhfmddaaGreat.Mt
open Go.Proofs.YtcmmdojlhfmddaaGreat.Tre
open Go Go.RowKit Dm
theorem mapLaid:laidOutB Tryz.prog = true:=by kernel_rfl
theorem keyT:Tryz.prog.keyType 198 = true:=by kernel_rfl
theorem typesFew:decide (Tryz.prog.types.size + 2 ≤ 10000) = true:=by kernel_rfl
theorem spotLt:decide (198 < Tryz.prog.types.size) = true:=by kernel_rfl
theorem spotKeyed:Maps.Keyed Tryz.prog 198:=Maps.Keyed.of_law (deep_law_gate mapLaid (of_decide_eq_true typesFew) (of_decide_eq_true spotLt) keyT (by rw [Tryz.underlying198]))
theorem zeroPs (w:World):(zeroValue 218).run Tryz.prog w = .ok (.slice none 0 0) w:=by kernel_rfl
theorem wf64 {k:Nat} (h:k < 1099511627776):(Lit.int .i64 (k:Int)).wf = true:=WalkArith.wf_i64 (by omega)
theorem cellsSpot:Tryz.prog.cellsOf 198 = 2:=by kernel_rfl
theorem cellsI:Tryz.prog.cellsOf 3 = 1:=by kernel_rfl
theorem keyL_of {k j:Nat} (hk:k < 1099511627776) (hj:j < 1099511627776):keyOf Tryz.prog 198 (.agg #[.int .i64 k,.int .i64 j]) = some (keyL k j):=by
 have hsz:∃ m,Tryz.prog.types.size = m + 1:=⟨_,rfl⟩
 obtain ⟨m,hm⟩:=hsz
 unfold keyOf
 simp only [Tryz.underlying198]
 rw [if_pos (by simp [keyT,Value.formed,Tryz.underlying198,cellsSpot]),hm]
 unfold Program.keyLits
 simp only [Tryz.underlying198,Value.cells]
 rw [if_pos (by rw [cellsSpot];exact ⟨rfl,by decide +kernel⟩)]
 simp [List.mapM_cons,cellsI,Program.keyLits,Tryz.underlying3,wf64 hk,wf64 hj,keyL]
theorem keyL_inj {k j k' j':Nat} (hk:k < 1099511627776) (hj:j < 1099511627776) (hk':k' < 1099511627776) (hj':j' < 1099511627776) (h:keyL k j = keyL k' j'):k = k' ∧ j = j':=by
 have e:=spotKeyed.inj (keyL_of hk hj) (by rw [keyL_of hk' hj',h])
 simp at e
 omega
theorem keyL_lit {k j:Nat} (hk:k < 1099511627776) (hj:j < 1099511627776):WideAt.IsKeyLit (keyL k j):=spotKeyed.key (keyL_of hk hj)
theorem MapObj.owns {W:World} {M n:Nat} {D:DataW Value} {o:Obj} (h:MapObj o n D) (ho:W.heap[M]? = some o):W.ownsMap Tryz.prog 198 held M n D:=by
 obtain ⟨es,clock,rfl,h1,h2,h3⟩:=h
 exact ⟨es,clock,ho,h1,h2,h3⟩
theorem owns_obj {W:World} {M n:Nat} {D:DataW Value} (h:W.ownsMap Tryz.prog 198 held M n D):∃ o,W.heap[M]? = some o ∧ MapObj o n D:=by
 obtain ⟨es,clock,h0,h1,h2,h3⟩:=h
 exact ⟨_,h0,es,clock,rfl,h1,h2,h3⟩
theorem Step.assign {E:Env} {γ γ':Ghost} {W X:World} (h:Step E γ W γ' X) {B:Nat} {r:Role} {o:Obj} (hB:W.heap.size ≤ B) (hn:γ' B = .none) (hn0:E.n₀ ≤ W.heap.size) (ho:X.heap[B]? = some o) (hr:RoleOk E (addG γ' B r) B o r):Step E γ W (addG γ' B r) X:=by
 have mono:∀ k x,γ' k = some x → addG γ' B r k = some x:=fun k x hk => by
  rw [addG_other r (fun e => by rw [e,hn] at hk;cases hk)]
  exact hk
 refine ⟨⟨h.inv.low,fun A r' hA => ?_⟩,h.size,fun k hk => (addG_other r (by omega)).trans (h.role k hk),h.block⟩
 by_cases e:A = B
 ·subst e
  rw [addG_same] at hA
  cases hA
  exact ⟨by omega,o,ho,hr⟩
 ·rw [addG_other r e] at hA
  obtain ⟨h1,o',ho',hr'⟩:=h.inv.each A r' hA
  exact ⟨h1,o',ho',hr'.mono mono⟩
def allSpots:List (Nat × Nat):=(List.range 50).flatMap (fun k => (List.range 1099511627776).map (fun j => (k,j)))
theorem allSpots_len:allSpots.length = 50 * 1099511627776:=by
 unfold allSpots
 rw [List.length_flatMap]
 simp only [List.length_map,List.length_range]
 rfl
theorem spots_few {ks:List (Nat × Nat)} (hn:ks.Nodup) (h:∀ k j,(k,j) ∈ ks → k < 50 ∧ j < 1099511627776):ks.length ≤ 50 * 1099511627776:=by
 rw [← allSpots_len]
 refine hn.length_le_of_subset (fun x hx => ?_)
 obtain ⟨k,j⟩:=x
 obtain ⟨h1,h2⟩:=h k j hx
 exact List.mem_flatMap.2 ⟨k,List.mem_range.2 h1,List.mem_map.2 ⟨j,List.mem_range.2 h2,rfl⟩⟩
end Go.Proofs.YtcmmdojlhfmddaaGreat.Mt

/- package match: list: what is asked at a spot, found again or made anew. -/
set_option maxRecDepth 100000
namespace Go.Proofs.YtcmmdojlhfmddaaGreat.Mt
open Go.Proofs.YtcmmdojlhfmddaaGreat.Tre
open Go Go.RowKit Dm
theorem map_look {E:Env} {γ:Ghost} {W:World} (hI:Inv E γ W) {A M:Nat} {s:Sel} {pv:Value} {f:Nat} (hA:γ A = some (.asked s pv f)) (hM:γ M = some (.mapr A)) {k j:Nat} {p:Pt} {q:Ps} (hp:s[k]? = some p) (hq:p.2.pss[j]? = some q) (hk:k < 50) (hj:j < 1099511627776) :
  (∀ n,(Instr.lookup 148 (.map (some M)) (.agg #[.int .i64 k,.int .i64 j]) true).run Tryz.prog (W.drewN n) = .ok (.tuple #[.slice none 0 0,.bool false]) (W.drewN n)) ∨
  (∃ B,γ B = some (.ptrs A k j) ∧ ∀ n,(Instr.lookup 148 (.map (some M)) (.agg #[.int .i64 k,.int .i64 j]) true).run Tryz.prog (W.drewN n) = .ok (.tuple #[wide B q.list.length,.bool true]) (W.drewN n)):=by
 obtain ⟨_,o,ho,s',pv',f',hA',ks,D,hO,hnd,h1,h2⟩:=hI.each M _ hM
 rw [hA] at hA'
 cases hA'
 have run:∀ n,∃ v ps,(Instr.lookup 148 (.map (some M)) (.agg #[.int .i64 k,.int .i64 j]) true).run Tryz.prog (W.drewN n) = .ok (.tuple #[v,.bool (Maps.has D (keyL k j))]) (W.drewN n) ∧ held v = some (D.atKey (keyL k j) (.held (.slice none 0 0)),ps):=fun n =>
  World.ownsMap.look_ok (MapObj.owns hO (W:=W.drewN n) ho) spotKeyed Tryz.underlying148 (zeroPs _) (zd:=.held (.slice none 0 0)) (zp:=[]) rfl (keyL_of (by omega) hj)
 have hk2:∀ {v ps d},held v = some (d,ps) → d = .held v:=fun h => by
  unfold held at h
  simp at h
  exact h.1.symm
 cases hh:Maps.has D (keyL k j) with
 | false =>
  left
  intro n
  obtain ⟨v,ps,hr,hv⟩:=run n
  rw [hh] at hr
  have e:=hk2 hv
  rw [Maps.atKey_of_not_has hh] at e
  injection e with e
  rw [← e] at hr
  exact hr
 | true =>
  right
  obtain ⟨_,_,p',q',hp',hq',B,hB,hγ⟩:=h2 k j (h1 k j (by omega) hj hh)
  rw [hp] at hp'
  cases hp'
  rw [hq] at hq'
  cases hq'
  refine ⟨B,hγ,fun n => ?_⟩
  obtain ⟨v,ps,hr,hv⟩:=run n
  rw [hh] at hr
  have e:=hk2 hv
  rw [hB] at e
  injection e with e
  rw [← e] at hr
  exact hr
theorem map_put {E:Env} {γ:Ghost} {W:World} (hI:Inv E γ W) {A M B:Nat} {s:Sel} {pv:Value} {f:Nat} (hA:γ A = some (.asked s pv f)) (hM:γ M = some (.mapr A)) {k j:Nat} {p:Pt} {q:Ps} (hp:s[k]? = some p) (hq:p.2.pss[j]? = some q) (hk:k < 50) (hj:j < 1099511627776)
  (hB:γ B = some (.ptrs A k j)) {W0:World} (hsame:W.heap[M]? = W0.heap[M]?) (hno:(Instr.lookup 148 (.map (some M)) (.agg #[.int .i64 k,.int .i64 j]) true).run Tryz.prog W0 = .ok (.tuple #[.slice none 0 0,.bool false]) W0) :
  ∃ W',(Instr.mapUpdate 148 (.map (some M)) (.agg #[.int .i64 k,.int .i64 j]) (wide B q.list.length)).run Tryz.prog W = .ok () W' ∧ Step E γ W γ W':=by
 obtain ⟨_,o,ho,s',pv',f',hA',ks,D,hO,hnd,h1,h2⟩:=hI.each M _ hM
 rw [hA] at hA'
 cases hA'
 have own:=MapObj.owns hO (W:=W) ho
 have hfew:=spots_few hnd (fun k j h => ⟨(h2 k j h).1,(h2 k j h).2.1⟩)
 have kk:=keyL_of (k:=k) (j:=j) (by omega) hj
 have hh:Maps.has D (keyL k j) = false:=by
  obtain ⟨v,ps,hr,_⟩:=World.ownsMap.look_ok (MapObj.owns hO (W:=W0) (hsame.symm.trans ho)) spotKeyed Tryz.underlying148 (zeroPs _) (zd:=.held (.slice none 0 0)) (zp:=[]) rfl kk
  rw [hno] at hr
  injection hr with hr
  simp at hr
  exact hr.2
 obtain ⟨W',hrun,hown,hg⟩:=own.update spotKeyed Tryz.underlying148 (by unfold maxLen;omega) kk (d:=.held (wide B q.list.length)) (ps:=[]) rfl
 obtain ⟨o',ho',hO'⟩:=owns_obj hown
 have lit:=keyL_lit (k:=k) (j:=j) (by omega) hj
 refine ⟨W',hrun,hI.put hM hg ho' ⟨s,pv,f,hA,(k,j) :: ks,_,hO',?_,fun k' j' hk' hj' h => ?_,fun k' j' h => ?_⟩⟩
 ·rw [List.nodup_cons]
  refine ⟨fun hm => ?_,hnd⟩
  obtain ⟨_,_,_,_,_,_,B',hB',_⟩:=h2 k j hm
  rw [Maps.atKey_of_not_has hh] at hB'
  injection hB' with e
  simp [wide] at e
 ·by_cases e:keyL k' j' = keyL k j
  ·obtain ⟨rfl,rfl⟩:=keyL_inj hk' hj' (by omega) hj e
   exact List.mem_cons_self ..
  ·rw [Maps.has_put_other e] at h
   exact List.mem_cons_of_mem _ (h1 k' j' hk' hj' h)
 ·rcases List.mem_cons.1 h with e | h
  ·cases e
   exact ⟨hk,hj,p,q,hp,hq,B,Maps.atKey_put_same own.isMap lit _ _,hB⟩
  ·obtain ⟨a1,a2,p',q',b1,b2,B',b3,b4⟩:=h2 k' j' h
   refine ⟨a1,a2,p',q',b1,b2,B',?_,b4⟩
   rw [Maps.atKey_put_other (fun e => ?_)]
   ·exact b3
   ·obtain ⟨rfl,rfl⟩:=keyL_inj (by omega) a2 (by omega) hj e
    rw [Maps.atKey_of_not_has hh] at b3
    injection b3 with e
    simp [wide] at e
theorem eqlNilMap (w:World) (r:Option Nat):(binOp .eql 148 (.map r) (.map none)).run Tryz.prog w = .ok (.bool r.isNone) w:=by
 simp only [binOp]
 have h:∀ d,(Op.equalIn (d + 1) 148 (.map r) (.map none)).run Tryz.prog w = .ok r.isNone w:=fun d => by
  cases r <;> simp [Op.equalIn,run_underlying Tryz.underlying148]
 simp [show Op.equal 148 (.map r) (.map none) = Op.equalIn (9999 + 1) 148 (.map r) (.map none) from rfl,h 9999]
theorem step_map {E:Env} {γ:Ghost} {W:World} (hI:Inv E γ W) {A:Nat} {s:Sel} {pv fv:Value} {f:Nat} (hA:γ A = some (.asked s pv f)) (kA:Blk W A 150 [ptrV E.tb,pv,fv,.map none]) :
  Step E γ W (addG γ W.heap.size (.mapr A)) ((W.alloc (.map #[] 0)).setCell ⟨A,3,none⟩ (.map (some W.heap.size))) ∧
   Blk ((W.alloc (.map #[] 0)).setCell ⟨A,3,none⟩ (.map (some W.heap.size))) A 150 [ptrV E.tb,pv,fv,.map (some W.heap.size)]:=by
 obtain ⟨hP,hf,fv',lv',hcs,hfv,_⟩:=(hI.each A _ hA).2.choose_spec.2
 have ho:=(hI.each A _ hA).2.choose_spec.1
 rw [hcs,show W.heap[A]? = _ from kA] at ho
 simp at ho
 obtain ⟨rfl,_⟩:=ho
 have h1:Step E γ W (addG γ W.heap.size (.mapr A)) (W.alloc (.map #[] 0)):=by
  obtain ⟨o,ho,hO⟩:=owns_obj (World.ownsMap_made W Tryz.prog 198 held)
  refine hI.add (Nat.le_refl _) ((Below.refl _ W).alloc (Nat.le_refl _) _) ho ⟨s,pv,f,addG_mono hI (Nat.le_refl _) _ _ _ hA,[],_,hO,List.nodup_nil,fun k j _ _ h => ?_,fun k j h => by cases h⟩
  simp [Maps.has] at h
 have hA1:addG γ W.heap.size (.mapr A) A = some (.asked s pv f):=addG_mono hI (Nat.le_refl _) _ _ _ hA
 have k1:=blk_put (blk_alloc kA (.map #[] 0)) 3 (.map (some W.heap.size))
 refine ⟨h1.trans (h1.inv.put hA1 (grown_set _ _ _ _) k1 ⟨hP,hf,_,_,rfl,?_,.inr ⟨_,rfl,addG_same _ _ _⟩⟩),k1⟩
 rcases hfv with h | ⟨F,h,hF⟩
 ·exact .inl h
 ·exact .inr ⟨F,h,addG_mono hI (Nat.le_refl _) _ _ _ hF⟩
end Go.Proofs.YtcmmdojlhfmddaaGreat.Mt

/- package match: list at every spot. -/
namespace Go.Proofs.YtcmmdojlhfmddaaGreat.Mt
open Go.Proofs.YtcmmdojlhfmddaaGreat.Tre
open Go Go.RowKit Dm
structure Lst (E:Env) (A k j f' Bp Bs:Nat) (q:Ps) (pv fv lv:Value) (γ:Ghost) (W:World) (i:Nat) (bs:List Nat) (γi:Ghost) (X:World):Prop where
 len:bs.length = i
 st:Step E γ W γi X
 row:Blk X Bp 168 (bs.map ptrV ++ reps (q.list.length - i) (.pointer .none))
 rowN:γi Bp = .none
 spN:γi Bs = .none
 sp:Blk X Bs 198 [.int .i64 k,.int .i64 j]
 ask:Blk X A 150 [ptrV E.tb,pv,fv,lv]
 each:∀ (i' b:Nat) (x:Sel),bs[i']? = some b → q.list[i']? = some x → ∃ pv',γi b = some (.asked x pv' f')
 mp:∀ M,lv = .map (some M) → X.heap[M]? = W.heap[M]?
theorem reps_succ {α:Type} (n:Nat) (z:α):reps (n + 1) z = z :: reps n z:=rfl
theorem reps_set {α:Type} (l:List α) (m:Nat) (z u:α):(l ++ reps (m + 1) z).set l.length u = (l ++ [u]) ++ reps m z:=by
 rw [reps_succ,List.set_append_right _ _ (Nat.le_refl _),Nat.sub_self,List.set_cons_zero]
 simp
theorem Lst.push {E:Env} {A k j f' Bp Bs:Nat} {q:Ps} {pv fv lv:Value} {γ:Ghost} {W:World} {i:Nat} {bs:List Nat} {γi:Ghost} {X Y:World} (h:Lst E A k j f' Bp Bs q pv fv lv γ W i bs γi X) (hlt:i < q.list.length)
  (hb:Below X.heap.size X Y) {x:Sel} (hx:q.list[i]? = some x) {xv:Value} (hP:∃ d,PartsAt d E.n₀ E.w₀ xv x) (hfit:fitsV f' x = true) (hBp:W.heap.size ≤ Bp) (hBs:Bs ≠ Bp) (hA:A ≠ Bp) (hM:∀ M,lv = .map (some M) → M < W.heap.size) (hn:E.n₀ ≤ W.heap.size) :
  Lst E A k j f' Bp Bs q pv fv lv γ W (i + 1) (bs ++ [Y.heap.size]) (addG γi Y.heap.size (.asked x xv f')) ((Y.alloc (.cells #[ptrV E.tb,xv,.slice .none 0 0,.map .none] 150)).setCell ⟨Bp,i,.none⟩ (ptrV Y.heap.size)):=by
 have hY:=h.st.inv.step hb
 have hN:γi Y.heap.size = .none:=hY.inv.new (Nat.le_refl _)
 have mono:=addG_mono hY.inv (Nat.le_refl Y.heap.size) (.asked x xv f')
 have h1:Step E γi Y (addG γi Y.heap.size (.asked x xv f')) (Y.alloc (.cells #[ptrV E.tb,xv,.slice .none 0 0,.map .none] 150)):=
  hY.inv.add (Nat.le_refl _) ((Below.refl _ Y).alloc (Nat.le_refl _) _) (heap_alloc_new Y _) ⟨hP,hfit,_,_,rfl,.inl rfl,.inl rfl⟩
 have hBpY:Bp < Y.heap.size:=Nat.lt_of_lt_of_le h.row.lt hb.size
 have rN:addG γi Y.heap.size (.asked x xv f') Bp = .none:=(addG_other _ (by omega)).trans h.rowN
 have g:=grown_set (Y.alloc (.cells #[ptrV E.tb,xv,.slice .none 0 0,.map .none] 150)) Bp i (ptrV Y.heap.size)
 have up:∀ {B:Nat} {t:TypeId} {cs:List Value},Blk X B t cs → Blk (Y.alloc (.cells #[ptrV E.tb,xv,.slice .none 0 0,.map .none] 150)) B t cs:=fun hk => blk_alloc (hk.next hb) _
 have rw1:=blk_put (up h.row) i (ptrV Y.heap.size)
 have e1:(bs.map ptrV ++ reps (q.list.length - i) (Value.pointer .none)).set i (ptrV Y.heap.size) = (bs ++ [Y.heap.size]).map ptrV ++ reps (q.list.length - (i + 1)) (.pointer .none):=by
  have h2:q.list.length - i = (q.list.length - (i + 1)) + 1:=by omega
  have h3:(bs.map ptrV).length = i:=by rw [List.length_map,h.len]
  rw [h2,← h3,reps_set,h3,List.map_append]
  rfl
 rw [e1] at rw1
 have hXW:=h.st.size
 refine ⟨by simp [h.len],((h.st.trans hY).trans h1).aside g (fun b e => by cases e;exact ⟨hBp,rN⟩) hn,rw1,rN,(addG_other _ (by have:=h.sp.lt;have:=hb.size;omega)).trans h.spN,(up h.sp).kept g (fun e => hBs (by cases e;rfl)),(up h.ask).kept g (fun e => hA (by cases e;rfl)),fun i' b y hb' hy => ?_,fun M hm => ?_⟩
 ·by_cases hi:i' < bs.length
  ·rw [List.getElem?_append_left hi] at hb'
   obtain ⟨pv',e⟩:=h.each i' b y hb' hy
   exact ⟨pv',mono _ _ e⟩
  ·have hi':i' = bs.length:=by
    have:=(List.getElem?_eq_some_iff.1 hb').1
    simp at this
    omega
   subst hi'
   rw [List.getElem?_append_right (Nat.le_refl _),Nat.sub_self] at hb'
   simp at hb'
   subst hb'
   rw [h.len,hx] at hy
   cases hy
   exact ⟨xv,addG_same _ _ _⟩
 ·have hlt:=hM M hm
  rw [← h.mp M hm]
  refine (g.block M (by have:=hb.size;simp;omega) (fun e => by cases e;omega)).trans ((Below.heap_alloc _ _ _ (by have:=hb.size;omega)).trans (hb.block M (by omega)))
theorem Lst.done {E:Env} {A k j f' Bp Bs f:Nat} {s:Sel} {p:Pt} {q:Ps} {pv fv lv:Value} {γ:Ghost} {W:World} {bs:List Nat} {γi:Ghost} {X:World} (h:Lst E A k j f' Bp Bs q pv fv lv γ W q.list.length bs γi X) (hI:Inv E γ W) (hA:γ A = some (.asked s pv f)) (hf:f = f' + 1) (hp:s[k]? = some p) (hq:p.2.pss[j]? = some q) (hBp:W.heap.size ≤ Bp) (hn:E.n₀ ≤ W.heap.size) :
  Step E γ W (addG γi Bp (.ptrs A k j)) X ∧ addG γi Bp (.ptrs A k j) A = some (.asked s pv f):=by
 have hAi:=h.st.mono hI _ _ hA
 have mono:∀ k' x,γi k' = some x → addG γi Bp (.ptrs A k j) k' = some x:=fun k' x hk => by
  rw [addG_other _ (fun e => by rw [e,h.rowN] at hk;cases hk)]
  exact hk
 refine ⟨h.st.assign hBp h.rowN hn h.row ⟨s,pv,f,mono _ _ hAi,p,q,f',hp,hq,hf,bs,?_,h.len,fun i' b x hb hx => let ⟨pv',e⟩:=h.each i' b x hb hx;⟨pv',mono _ _ e⟩⟩,mono _ _ hAi⟩
 rw [Nat.sub_self]
 simp [reps]
end Go.Proofs.YtcmmdojlhfmddaaGreat.Mt

/- package match: list at every spot. -/
set_option maxRecDepth 100000
namespace Go.Proofs.YtcmmdojlhfmddaaGreat.Mt
open Go.Proofs.YtcmmdojlhfmddaaGreat.Tre
open Go Go.RowKit Dm
set_option maxHeartbeats 8000000 in
theorem list_any (E:Env) (hE:EnvOk E) (γ:Ghost) (W:World) (hI:Inv E γ W) (A:Nat) (s:Sel) (pv:Value) (f:Nat) (hA:γ A = some (.asked s pv f)) (k j:Nat) (p:Pt) (q:Ps) (hp:s[k]? = some p) (hq:p.2.pss[j]? = some q) (hls:listed q = true)
  (hj:j < 1099511627776) (hql:q.list.length ≤ 8796093022208) (d:Nat) (xl:Value) (hS:SelsAt d E.n₀ E.w₀ xl q.list) :
  Calls Tryz.prog 142 #[.pointer (some ⟨A,0,none⟩),.agg #[.int .i64 k,.int .i64 j],xl] W fun r W' => ∃ B γ',r = .returned (wide B q.list.length) ∧ γ' B = some (.ptrs A k j) ∧ Step E γ W γ' W':=by
 obtain ⟨_,hfit,fv,lv,kA,hfv,hlv⟩:=hI.asked hA
 have hs50:=fits_len hfit
 have hk:k < 50:=by have:=(List.getElem?_eq_some_iff.1 hp).1;omega
 obtain ⟨f',hf,hfits⟩:=fits_list hfit hp hq hls
 obtain ⟨pl,cl,rfl⟩:=SelsAt.len hS
 obtain ⟨w1,hw1⟩:∃ w1,W.alloc (.cells #[.int .i64 k,.int .i64 j] 198) = w1:=⟨_,rfl⟩
 have b1:Below W.heap.size W w1:=by rw [← hw1];exact (Below.refl _ _).alloc (Nat.le_refl _) _
 have sp1:Blk w1 W.heap.size 198 [.int .i64 k,.int .i64 j]:=by rw [← hw1];exact Blk.new W 198 _
 have s1:w1.heap.size = W.heap.size + 1:=by rw [← hw1];simp
 have st1:=hI.step b1
 have kA1:=kA.next b1
 have lowW:E.n₀ ≤ W.heap.size:=hI.low.size
 have ltA:=hI.lt hA
 have look:(∀ n,(Instr.lookup 148 lv (.agg #[.int .i64 k,.int .i64 j]) true).run Tryz.prog (w1.drewN n) = .ok (.tuple #[.slice none 0 0,.bool false]) (w1.drewN n)) ∨
   (∃ B,γ B = some (.ptrs A k j) ∧ ∀ n,(Instr.lookup 148 lv (.agg #[.int .i64 k,.int .i64 j]) true).run Tryz.prog (w1.drewN n) = .ok (.tuple #[wide B q.list.length,.bool true]) (w1.drewN n)):=by
  rcases hlv with rfl | ⟨M,rfl,hM⟩
  ·left
   intro n
   exact Maps.look_nil true spotKeyed Tryz.underlying148 (zeroPs _) (keyL_of (by omega) hj)
  ·exact map_look st1.inv hA hM hp hq hk hj
 obtain ⟨⟨c0,c1,c2,c3⟩,_⟩:=blk4 kA1
 obtain ⟨⟨d0,d1⟩,_⟩:=blk2 sp1
 unfold ptrV at c0
 have HW:Hid (Inv E γ W):=hI
 have HE:Hid (EnvOk E):=hE
 have HA:Hid (γ A = some (.asked s pv f)):=hA
 have KA1:Hid (Blk w1 A 150 [ptrV E.tb,pv,fv,lv]):=kA1
 have SP1:Hid (Blk w1 W.heap.size 198 [.int .i64 k,.int .i64 j]):=sp1
 have ST1:Hid (Step E γ W γ w1):=st1
 rcases look with hno | ⟨B,hB,hyes⟩
 ·have HNO:Hid (∀ n,(Instr.lookup 148 lv (.agg #[.int .i64 k,.int .i64 j]) true).run Tryz.prog (w1.drewN n) = .ok (.tuple #[.slice none 0 0,.bool false]) (w1.drewN n)):=hno
  clear hI hE hA kA kA1 sp1 st1 hfit
  have hlv1:∃ r,lv = .map r:=by
   rcases hlv with h | ⟨M,h,_⟩
   ·exact ⟨_,h⟩
   ·exact ⟨_,h⟩
  obtain ⟨mr,rfl⟩:=hlv1
  go_enter Tryz.func142,Tryz.ntmps142
  go_wp2
  go_quiet (fail)
  obtain ⟨X0,hX0⟩:∃ X0,w1.drewN nq = X0:=⟨_,rfl⟩
  have bX0:Below w1.heap.size w1 X0:=by rw [← hX0];exact below_drewN w1 nq
  have sX0:X0.heap.size = W.heap.size + 1:=by rw [← hX0];exact s1
  have hno0:=HNO.out nq
  rw [hX0] at hno0 ⊢
  have HN0:Hid (_ = _):=hno0
  have mk:=make_of Tryz.underlying218 infoPtr rfl q.list.length (by omega) (by omega) X0
  unfold wide at mk
  obtain ⟨X2,hX2⟩:∃ X2,X0.alloc (.cells (reps q.list.length (.pointer none)).toArray 168) = X2:=⟨_,rfl⟩
  have bX2:Below w1.heap.size w1 X2:=by rw [← hX2];exact bX0.alloc bX0.size _
  have L0:Lst E A k j f' X0.heap.size W.heap.size q pv fv (.map mr) γ W 0 [] γ X2:=by
   refine ⟨rfl,ST1.out.trans (ST1.out.inv.step bX2),?_,HW.out.new (by omega),HW.out.new (Nat.le_refl _),SP1.out.next bX2,KA1.out.next bX2,fun i' b x h => by simp at h,fun M hM => ?_⟩
   ·rw [← hX2]
    exact Blk.new X0 168 _
   ·cases hM
    have hMlt:M < W.heap.size:=by
     rcases hlv with h | ⟨M',h,hM'⟩
     ·cases h
     ·cases h;exact HW.out.lt hM'
    exact (bX2.block M (by omega)).trans (b1.block M hMlt)
  have hMlt:∀ M,Value.map mr = .map (some M) → M < W.heap.size:=fun M h => by
   rcases hlv with h' | ⟨M',h',hM'⟩
   ·rw [h'] at h;cases h
   ·rw [h'] at h;cases h;exact HW.out.lt hM'
  have HL0:Hid _:=L0
  have hBp:W.heap.size ≤ X0.heap.size:=by omega
  have hneS:W.heap.size ≠ X0.heap.size:=by omega
  have hneA:A ≠ X0.heap.size:=by omega
  have HS:Hid (SelsAt d E.n₀ E.w₀ (.slice pl q.list.length cl) q.list):=hS
  have HFT:Hid (∀ x ∈ q.list,fitsV f' x = true):=hfits
  have HML:Hid (∀ M,Value.map mr = .map (some M) → M < W.heap.size):=hMlt
  generalize hBB:X0.heap.size = Bp at *
  clear hno0 hno c0 c1 c2 c3 d0 d1 bX2 L0 hS hfits hMlt HNO hX0 sX0
  go_wp2
  go_loopw [28] (fun x wr => ∃ (i:Nat) (bs:List Nat) (γi:Ghost),x = .int .i64 i ∧ i ≤ q.list.length ∧ Lst E A k j f' Bp W.heap.size q pv fv (.map mr) γ W i bs γi wr) (fun x _ => q.list.length - (intOf x).toNat)
  case atStart => exact ⟨0,[],γ,rfl,Nat.zero_le _,HL0.out⟩
  case round =>
   obtain ⟨i,bs,γi,rfl,hi,hL⟩:=hrel
   have HL:Hid _:=hL
   by_cases hlt:i < q.list.length
   ·obtain ⟨x,hx⟩:∃ x,q.list[i]? = some x:=⟨_,List.getElem?_eq_getElem hlt⟩
    obtain ⟨d',_,bk,off,xv,rfl,hbk,hcap,hmx,hPx,y0⟩:=SelsAt.get HS.out hx
    unfold maxLen at hmx
    have y1:=(hL.st.inv.low.cell (p:=⟨bk,off + i,none⟩) hbk).trans y0
    obtain ⟨px,cx,rfl⟩:=RowT.len hPx
    have hii:(i:Int) < (q.list.length:Int):=by omega
    obtain ⟨X1,hX1⟩:∃ X1,wr.alloc (.cells #[.slice px x.length cx] 117) = X1:=⟨_,rfl⟩
    have bX1:Below wr.heap.size wr X1:=by rw [← hX1];exact (Below.refl _ _).alloc (Nat.le_refl _) _
    have kX1:Blk X1 wr.heap.size 117 [.slice px x.length cx]:=by rw [← hX1];exact Blk.new wr 117 _
    have hr0:(bs.map ptrV ++ reps (q.list.length - i) (Value.pointer none))[i]? = some (.pointer none):=by
     have h2:q.list.length - i = (q.list.length - (i + 1)) + 1:=by omega
     rw [List.getElem?_append_right (by rw [List.length_map,hL.len];exact Nat.le_refl _),List.length_map,hL.len,Nat.sub_self,h2,reps_succ]
     rfl
    have q0:Below X1.heap.size X1 X1.drew:=below_drew (Below.refl _ _)
    have PU:=hL.push hlt (below_next bX1 q0) hx ⟨d',hPx⟩ (HFT.out x (List.mem_of_getElem? hx)) hBp hneS hneA HML.out lowW
    have HPU:Hid _:=PU
    have HCS:Hid (∀ Y,Below X1.heap.size X1 Y → Y.cell? ⟨A,0,none⟩ = some (.pointer (some ⟨E.tb,0,none⟩)) ∧ Y.cell? ⟨wr.heap.size,0,none⟩ = some (.slice px x.length cx)):=fun Y hY => ⟨(blk4 ((hL.ask.next bX1).next hY)).1.1,(blk1 (kX1.next hY)).1⟩
    have q1:Below X1.heap.size X1 (X1.drew.alloc (.cells #[.pointer (some ⟨E.tb,0,none⟩),.slice px x.length cx,.slice none 0 0,.map none] 150)):=q0.alloc (Nat.le_refl _) _
    obtain ⟨u0,u1⟩:=cell_row (blk_alloc (hL.row.next bX1) (.cells #[.pointer (some ⟨E.tb,0,none⟩),.slice px x.length cx,.slice none 0 0,.map none] 150)) hr0
    have hqi:q.list.length ≤ 8796093022208:=hql
    clear hL PU hPx y0 kX1 hr0 hx
    go_upto_region 8 with fail
    clear y1 hX1 bX1
    refine Rg.wpD_begin [0,1,2,3,4,5,6,7,8,9] (fun Y => Y.cell? ⟨A,0,none⟩ = some (.pointer (some ⟨E.tb,0,none⟩)) ∧ Y.cell? ⟨wr.heap.size,0,none⟩ = some (.slice px x.length cx)) (by kernel_rfl) ?_
    have HeldS:=HCS.out _ q0
    refine Rg.ld 0 HeldS ?_
    simp only [Act.put,Rg.sA,Rg.sB,Rg.sC]
    refine Rg.ld 1 HeldS ?_
    simp only [Act.put,Rg.sA,Rg.sB,Rg.sC]
    refine Rg.ld 2 HeldS ?_
    simp only [Act.put,Rg.sA,Rg.sB,Rg.sC]
    refine Rg.ld 3 HeldS ?_
    simp only [Act.put,Rg.sA,Rg.sB,Rg.sC]
    refine Rg.ld 4 HeldS ?_
    simp only [Act.put,Rg.sA,Rg.sB,Rg.sC]
    refine Rg.ld 5 HeldS ?_
    simp only [Act.put,Rg.sA,Rg.sB,Rg.sC]
    refine Rg.ld 6 HeldS ?_
    simp only [Act.put,Rg.sA,Rg.sB,Rg.sC]
    refine Rg.ld 7 HeldS ?_
    simp only [Act.put,Rg.sA,Rg.sB,Rg.sC]
    refine Rg.ld 8 HeldS ?_
    simp only [Act.put,Rg.sA,Rg.sB,Rg.sC]
    refine Rg.dd 9 fun K hK => ?_
    go_simp
    refine hK _ _ (fun _ => HCS.out _ q1) ?_
    clear hK K
    refine Rg.pu 10 ?_
    simp only [Act.put,Rg.sA,Rg.sB,Rg.sC]
    refine Rg.dd 11 fun K hK => ?_
    go_simp
    refine hK _ _ (fun h => absurd h (by decide)) ?_
    clear hK K
    refine Rg.wpD_done (by kernel_rfl) ?_
    go_wp2
    go_roundw
    case rel => exact ⟨i + 1,_,_,rfl,by omega,HPU.out⟩
    case measure => simp [intOf];omega
   ·obtain rfl:i = q.list.length:=by omega
    obtain ⟨st9,hA9⟩:=hL.done HW.out HA.out hf hp hq hBp lowW
    have hge:¬ ((q.list.length:Int) < (q.list.length:Int)):=by omega
    have hB9:addG γi Bp (.ptrs A k j) Bp = some (.ptrs A k j):=addG_same _ _ _
    obtain ⟨⟨c0,c1,c2,c3⟩,f0,f1,f2,f3⟩:=blk4 hL.ask
    obtain ⟨⟨d0,d1⟩,_⟩:=blk2 hL.sp
    unfold ptrV at c0
    generalize addG γi Bp (.ptrs A k j) = γ9 at *
    have ST9:Hid (Step E γ W γ9 wr):=st9
    have HA9:Hid (γ9 A = some (.asked s pv f)):=hA9
    have HB9:Hid (γ9 Bp = some (.ptrs A k j)):=hB9
    have ASK:Hid (Blk wr A 150 [ptrV E.tb,pv,fv,.map mr]):=hL.ask
    have SPB:Hid (Blk wr W.heap.size 198 [.int .i64 k,.int .i64 j]):=hL.sp
    have spN:γ9 W.heap.size = none:=by
     have h9:=ST9.out.inv
     cases e:γ9 W.heap.size with
     | none => rfl
     | some r =>
      obtain ⟨_,o,ho,hr⟩:=h9.each _ _ e
      rw [show wr.heap[W.heap.size]? = _ from hL.sp] at ho
      cases ho
      cases r with
      | asked s' pv' f'' => obtain ⟨_,_,_,_,h,_⟩:=hr;cases h
      | outer A' => obtain ⟨_,_,_,_,_,h,_⟩:=hr;simp at h
      | verd A' k' => obtain ⟨_,_,_,_,_,h,_⟩:=hr;simp at h
      | mapr A' => obtain ⟨_,_,_,_,_,_,⟨_,_,h,_⟩,_⟩:=hr;cases h
      | ptrs A' k' j' => obtain ⟨_,_,_,_,_,_,_,_,_,_,_,h,_⟩:=hr;simp at h
    have HMP:Hid (∀ M,Value.map mr = .map (some M) → wr.heap[M]? = W.heap[M]?):=hL.mp
    have heq:=eqlNilMap wr mr
    clear hL hB9 hA9 st9
    go_upto_if 49 with fail
    clear heq
    go_cut [] (fun wx => ∃ γx M,Step E γ W γx wx ∧ γx A = some (.asked s pv f) ∧ γx Bp = some (.ptrs A k j) ∧ γx M = some (.mapr A) ∧ Blk wx A 150 [ptrV E.tb,pv,fv,.map (some M)] ∧ Blk wx W.heap.size 198 [.int .i64 k,.int .i64 j] ∧ ∀ n,∃ w',(Instr.mapUpdate 148 (.map (some M)) (.agg #[.int .i64 k,.int .i64 j]) (wide Bp q.list.length)).run Tryz.prog (wx.drewN n) = .ok () w' ∧ Step E γx (wx.drewN n) γx w')
    case first =>
     have st9:=ST9.out
     have sz9:=st9.size
     cases mr with
     | none =>
      obtain ⟨st10,k10⟩:=step_map st9.inv HA9.out ASK.out
      have hM10:addG γ9 wr.heap.size (.mapr A) wr.heap.size = some (.mapr A):=addG_same _ _ _
      have mono:=addG_mono st9.inv (Nat.le_refl wr.heap.size) (.mapr A)
      have hne:W.heap.size ≠ A:=by omega
      have sp10:=(blk_alloc SPB.out (.map #[] 0)).kept (grown_set (wr.alloc (.map #[] 0)) A 3 (.map (some wr.heap.size))) (fun e => hne (by cases e;rfl))
      have hupd:∀ n,∃ w',(Instr.mapUpdate 148 (.map (some wr.heap.size)) (.agg #[.int .i64 k,.int .i64 j]) (wide Bp q.list.length)).run Tryz.prog (((wr.alloc (.map #[] 0)).setCell ⟨A,3,none⟩ (.map (some wr.heap.size))).drewN n) = .ok () w' ∧ Step E (addG γ9 wr.heap.size (.mapr A)) (((wr.alloc (.map #[] 0)).setCell ⟨A,3,none⟩ (.map (some wr.heap.size))).drewN n) (addG γ9 wr.heap.size (.mapr A)) w':=fun n => by
       have hW0:(Instr.lookup 148 (.map (some wr.heap.size)) (.agg #[.int .i64 k,.int .i64 j]) true).run Tryz.prog (wr.alloc (.map #[] 0)) = .ok (.tuple #[.slice none 0 0,.bool false]) (wr.alloc (.map #[] 0)):=by
        obtain ⟨v,ps,hr,hv⟩:=World.ownsMap.look_ok (World.ownsMap_made wr Tryz.prog 198 held) spotKeyed Tryz.underlying148 (zeroPs _) (zd:=.held (.slice none 0 0)) (zp:=[]) rfl (keyL_of (k:=k) (j:=j) (by omega) hj)
        have hh:Maps.has (DataW.map []:DataW Value) (keyL k j) = false:=rfl
        rw [hh] at hr
        rw [Maps.atKey_of_not_has hh] at hv
        unfold held at hv
        simp at hv
        rw [hv.1] at hr
        exact hr
       have inv10:=(st10.inv.step (below_drewN _ n)).inv
       exact map_put inv10 (mono _ _ HA9.out) hM10 hp hq hk hj (mono _ _ HB9.out) (W0:=wr.alloc (.map #[] 0)) (Below.heap_setCell _ _ _ _ (by simp;omega)) hW0
      have FIN:Hid _:=(⟨_,_,st9.trans st10,mono _ _ HA9.out,mono _ _ HB9.out,hM10,k10,sp10,hupd⟩:∃ γx M,Step E γ W γx _ ∧ γx A = some (.asked s pv f) ∧ γx Bp = some (.ptrs A k j) ∧ γx M = some (.mapr A) ∧ Blk _ A 150 [ptrV E.tb,pv,fv,.map (some M)] ∧ Blk _ W.heap.size 198 [.int .i64 k,.int .i64 j] ∧ ∀ n,∃ w',(Instr.mapUpdate 148 (.map (some M)) (.agg #[.int .i64 k,.int .i64 j]) (wide Bp q.list.length)).run Tryz.prog (((wr.alloc (.map #[] 0)).setCell ⟨A,3,none⟩ (.map (some wr.heap.size))).drewN n) = .ok () w' ∧ Step E γx (((wr.alloc (.map #[] 0)).setCell ⟨A,3,none⟩ (.map (some wr.heap.size))).drewN n) γx w')
      have e0:=(blk4 (blk_alloc ASK.out (.map #[] 0))).1.2.2.2
      have e1:=(blk4 (blk_alloc ASK.out (.map #[] 0))).2.2.2.2
      have hmm:=@run_makeMap Tryz.prog
      clear st9 st10 k10 sp10 hupd hM10 mono
      go_wp2
      go_meet
      exact FIN.out
     | some M =>
      have hM9:γ9 M = some (.mapr A):=by
       rcases hlv with h | ⟨M',h,hM'⟩
       ·cases h
       ·cases h
        exact st9.mono HW.out _ _ hM'
      have FIN:Hid _:=(⟨γ9,M,st9,HA9.out,HB9.out,hM9,ASK.out,SPB.out,fun n => map_put (st9.inv.step (below_drewN _ n)).inv HA9.out hM9 hp hq hk hj HB9.out (W0:=X0) ((HMP.out M rfl).trans (((bX0.block M (by have:=HML.out M rfl;omega)).trans (b1.block M (HML.out M rfl))).symm)) HN0.out⟩:∃ γx M,Step E γ W γx wr ∧ γx A = some (.asked s pv f) ∧ γx Bp = some (.ptrs A k j) ∧ γx M = some (.mapr A) ∧ Blk wr A 150 [ptrV E.tb,pv,fv,.map (some M)] ∧ Blk wr W.heap.size 198 [.int .i64 k,.int .i64 j] ∧ ∀ n,∃ w',(Instr.mapUpdate 148 (.map (some M)) (.agg #[.int .i64 k,.int .i64 j]) (wide Bp q.list.length)).run Tryz.prog (wr.drewN n) = .ok () w' ∧ Step E γx (wr.drewN n) γx w')
      clear st9 hM9
      go_wp2
      go_meet
      exact FIN.out
    case rest =>
     clear c0 c1 c2 c3 f0 f1 f2 f3 d0 d1 ASK SPB HMP
     obtain ⟨γx,M,stx,hAx,hBx,hMx,kAx,spx,hupd⟩:=hcut
     obtain ⟨w9,hrun,st9⟩:=hupd 1
     have HST:Hid (Step E γ W γx w9):=(stx.trans (stx.inv.step (below_drewN wc 1))).trans st9
     have HBX:Hid (_ = _):=hBx
     have HeldS0:Hid (∀ Y,Below wc.heap.size wc Y → Y.cell? ⟨A,3,none⟩ = some (.map (some M)) ∧ Y.cell? ⟨W.heap.size,0,none⟩ = some (.int .i64 k) ∧ Y.cell? ⟨W.heap.size,1,none⟩ = some (.int .i64 j)):=fun Y hY => ⟨(blk4 (kAx.next hY)).1.2.2.2,(blk2 (spx.next hY)).1.1,(blk2 (spx.next hY)).1.2⟩
     have q0:Below wc.heap.size wc wc.drew:=below_drew (Below.refl _ _)
     unfold wide at hrun
     rw [show wc.drewN 1 = wc.drew from rfl] at hrun
     clear hupd stx st9 kAx spx hBx
     go_upto_region 12 with fail
     refine Rg.wpD_begin [0,1,2,3,4,5] (fun Y => Y.cell? ⟨A,3,none⟩ = some (.map (some M)) ∧ Y.cell? ⟨W.heap.size,0,none⟩ = some (.int .i64 k) ∧ Y.cell? ⟨W.heap.size,1,none⟩ = some (.int .i64 j)) (by kernel_rfl) ?_
     have HeldS:=HeldS0.out _ q0
     refine Rg.ld 0 HeldS ?_
     simp only [Act.put,Rg.sA,Rg.sB,Rg.sC]
     refine Rg.ld 1 HeldS ?_
     simp only [Act.put,Rg.sA,Rg.sB,Rg.sC]
     refine Rg.ld 2 HeldS ?_
     simp only [Act.put,Rg.sA,Rg.sB,Rg.sC]
     refine Rg.ld 3 HeldS ?_
     simp only [Act.put,Rg.sA,Rg.sB,Rg.sC]
     refine Rg.ld 4 HeldS ?_
     simp only [Act.put,Rg.sA,Rg.sB,Rg.sC]
     refine Rg.ld 5 HeldS ?_
     simp only [Act.put,Rg.sA,Rg.sB,Rg.sC]
     refine Rg.dd 6 fun K hK => ?_
     go_simp
     refine hK _ _ (fun h => absurd h (by decide)) ?_
     clear hK K
     refine Rg.wpD_done (by kernel_rfl) ?_
     go_wp2
     go_ret
     exact ⟨Bp,rfl,γx,HBX.out,HST.out⟩
 ·unfold wide at hyes
  have hfin:∀ n,Step E γ W γ (w1.drewN n):=fun n => st1.trans (st1.inv.step (below_drewN w1 n))
  have HF:Hid (∀ n,Step E γ W γ (w1.drewN n)):=hfin
  have HB:Hid (γ B = some (.ptrs A k j)):=hB
  have hlv1:∃ r,lv = .map r:=by
   rcases hlv with h | ⟨M,h,_⟩
   ·exact ⟨_,h⟩
   ·exact ⟨_,h⟩
  obtain ⟨mr,rfl⟩:=hlv1
  clear hI hE hA kA kA1 sp1 st1 hfit hB hfin
  go_enter Tryz.func142,Tryz.ntmps142
  go_wp2
  go_quiet (fail)
  go_wp2
  go_ret
  exact ⟨B,γ,rfl,HB.out,HF.out _⟩
end Go.Proofs.YtcmmdojlhfmddaaGreat.Mt

/- package match: isAny, where 'is' is known of what stands one list deeper. -/
set_option maxRecDepth 100000
namespace Go.Proofs.YtcmmdojlhfmddaaGreat.Mt
open Go.Proofs.YtcmmdojlhfmddaaGreat.Tre
open Go Go.RowKit Dm
def IsK (E:Env) (f:Nat):Prop:=∀ (γ:Ghost) (W:World) (A:Nat) (s:Sel) (pv:Value),Inv E γ W → γ A = some (.asked s pv f) → ∀ e:Nat,e < E.qs.length →
 Calls Tryz.prog 83 #[.pointer (some ⟨A,0,none⟩),.int .i64 e] W fun r W' => r = .returned (.bool (selV (anyV E.es f) E.es s e)) ∧ ∃ γ',Step E γ W γ' W'
theorem ptrs_get {E:Env} {γ:Ghost} {W:World} (hI:Inv E γ W) {A B k j:Nat} {s:Sel} {pv:Value} {f':Nat} {p:Pt} {q:Ps} (hA:γ A = some (.asked s pv (f' + 1))) (hB:γ B = some (.ptrs A k j)) (hp:s[k]? = some p) (hq:p.2.pss[j]? = some q) {i:Nat} {x:Sel} (hx:q.list[i]? = some x) :
  ∃ b pv',W.cell? ⟨B,i,none⟩ = some (.pointer (some ⟨b,0,none⟩)) ∧ γ b = some (.asked x pv' f'):=by
 obtain ⟨_,o,ho,s',pv',f1,hA',p',q',f2,hp',hq',hf,bs,rfl,hl,he⟩:=hI.each B _ hB
 rw [hA] at hA'
 cases hA'
 rw [hp] at hp'
 cases hp'
 rw [hq] at hq'
 cases hq'
 obtain rfl:f2 = f':=by omega
 have hi:i < bs.length:=by rw [hl];exact (List.getElem?_eq_some_iff.1 hx).1
 obtain ⟨pv2,hγ⟩:=he i _ x (List.getElem?_eq_getElem hi) hx
 have kB:Blk W B 168 (bs.map ptrV):=ho
 exact ⟨bs[i],pv2,(cell_row kB (by rw [List.getElem?_map,List.getElem?_eq_getElem hi];rfl)).1,hγ⟩
theorem isAny1_any (E:Env) (f:Nat) (HI:IsK E f) (γ:Ghost) (W:World) (A:Nat) (s:Sel) (pv:Value) (hI:Inv E γ W) (hA:γ A = some (.asked s pv f)) (e:Nat) (he:e < E.qs.length) (Bx:Nat) (hc:W.cell? ⟨Bx,0,none⟩ = some (.int .i64 e)) :
  Calls Tryz.prog 143 #[.pointer (some ⟨A,0,none⟩),.pointer (some ⟨Bx,0,none⟩)] W fun r W' => r = .returned (.bool (selV (anyV E.es f) E.es s e)) ∧ ∃ γ',Step E γ W γ' W':=by
 have h:=HI γ W A s pv hI hA e he
 clear HI hI hA
 go_enter Tryz.func143,Tryz.ntmps143
 go_wp2_with fail
 refine h.mono ?_
 clear h
 rintro r W' ⟨rfl,hst⟩
 have HS:Hid _:=hst
 clear hst
 go_wp2
 go_ret
 exact ⟨rfl,HS.out⟩
set_option maxHeartbeats 4000000 in
theorem indexAsk_any (E:Env) (f':Nat) (HI:IsK E f') (γ:Ghost) (W:World) (hI:Inv E γ W) (A B k j:Nat) (s:Sel) (pv:Value) (p:Pt) (q:Ps) (hA:γ A = some (.asked s pv (f' + 1))) (hB:γ B = some (.ptrs A k j)) (hp:s[k]? = some p) (hq:p.2.pss[j]? = some q) (hql:q.list.length ≤ 8796093022208)
  (e:Nat) (he:e < E.qs.length) (Bx:Nat) (hx:Boxed W Bx 3 (.int .i64 e)) (hxn:γ Bx = none) :
  Calls Tryz.prog 158 #[.slice (some ⟨B,0,none⟩) q.list.length q.list.length,.func (.func 143) #[] #[.pointer (some ⟨Bx,0,none⟩)]] W fun r W' => (∃ i:Int,r = .returned (.int .i64 i) ∧ decide (0 ≤ i) = anyV E.es (f' + 1) q.list e) ∧ ∃ γ',Step E γ W γ' W':=by
 have H0:Hid (Step E γ W γ W):=Step.refl hI
 have HII:Hid (IsK E f'):=HI
 have HIV:Hid (Inv E γ W):=hI
 have HA:Hid (_ = _):=hA
 have HB:Hid (_ = _):=hB
 have HX:Hid (Boxed W Bx 3 (.int .i64 e)):=hx
 have HXN:Hid (_ = _):=hxn
 clear HI hI hA hB hx hxn
 go_enter Tryz.func158,Tryz.ntmps158
 go_wp2
 go_loopw [8] (fun y wr => ∃ (i:Nat) (γi:Ghost),y = .int .i64 i ∧ i ≤ q.list.length ∧ (q.list.take i).any (fun s => selV (anyV E.es f') E.es s e) = false ∧ Step E γ W γi wr) (fun y _ => q.list.length - (intOf y).toNat)
 case atStart => exact ⟨0,γ,rfl,Nat.zero_le _,rfl,H0.out⟩
 case round =>
  obtain ⟨i,γi,rfl,hi,hno,hst⟩:=hrel
  have HST:Hid _:=hst
  have HNO:Hid (_ = _):=hno
  clear hno
  by_cases hlt:i < q.list.length
  ·obtain ⟨x,hx⟩:∃ x,q.list[i]? = some x:=⟨_,List.getElem?_eq_getElem hlt⟩
   obtain ⟨b,pv',c0,hb⟩:=ptrs_get hst.inv (hst.mono HIV.out _ _ HA.out) (hst.mono HIV.out _ _ HB.out) hp hq hx
   have cx:=Boxed.cell (show Boxed wr Bx 3 _ from (hst.block _ HX.out.lt HXN.out).trans HX.out)
   have h:=isAny1_any E f' HII.out γi wr b x pv' hst.inv hb e he Bx cx
   have hii:(i:Int) < (q.list.length:Int):=by omega
   have HXX:Hid (_ = _):=hx
   clear hst hb cx hx
   go_wp2_with fail
   refine h.mono ?_
   clear h c0
   rintro r W' ⟨rfl,γ',hst'⟩
   have HS2:Hid (Step E γ W γ' W'):=HST.out.trans hst'
   clear hst'
   cases hv:selV (anyV E.es f') E.es x e with
   | true =>
    have FIN:Hid (decide ((0:Int) ≤ (i:Int)) = anyV E.es (f' + 1) q.list e):=by
     show _ = _
     rw [decide_eq_true (by omega)]
     symm
     show q.list.any _ = true
     rw [List.any_eq_true]
     exact ⟨x,List.mem_of_getElem? HXX.out,hv⟩
    clear hv
    go_wp2
    go_ret
    exact ⟨⟨i,rfl,FIN.out⟩,γ',HS2.out⟩
   | false =>
    have FIN:Hid ((q.list.take (i + 1)).any (fun s => selV (anyV E.es f') E.es s e) = false):=by
     show _ = _
     rw [List.take_add_one,show q.list[i]? = some x from HXX.out,List.any_append,show (q.list.take i).any _ = false from HNO.out]
     simp [hv]
    clear hv
    go_wp2
    go_roundw
    case rel => exact ⟨i + 1,γ',rfl,by omega,FIN.out,HS2.out⟩
    case measure => simp [intOf];omega
  ·have hii:¬ ((i:Int) < (q.list.length:Int)):=by omega
   obtain rfl:i = q.list.length:=by omega
   have FIN:Hid (decide ((0:Int) ≤ (-1:Int)) = anyV E.es (f' + 1) q.list e):=by
    have h:=HNO.out
    rw [List.take_length] at h
    show _ = q.list.any _
    rw [show q.list.any _ = false from h]
    rfl
   clear hst
   go_wp2
   go_ret
   exact ⟨⟨-1,rfl,FIN.out⟩,γi,HST.out⟩
set_option maxHeartbeats 4000000 in
theorem isAny_any (E:Env) (hE:EnvOk E) (f':Nat) (HI:IsK E f') (γ:Ghost) (W:World) (hI:Inv E γ W) (A k j:Nat) (s:Sel) (pv:Value) (p:Pt) (q:Ps) (hA:γ A = some (.asked s pv (f' + 1))) (hp:s[k]? = some p) (hq:p.2.pss[j]? = some q) (hls:listed q = true) (hj:j < 1099511627776) (hql:q.list.length ≤ 8796093022208)
  (d:Nat) (pl:Option Addr) (cl:Nat) (hS:SelsAt d E.n₀ E.w₀ (.slice pl q.list.length cl) q.list) (e:Nat) (he:e < E.qs.length) :
  Calls Tryz.prog 133 #[.pointer (some ⟨A,0,none⟩),.agg #[.int .i64 k,.int .i64 j],.slice pl q.list.length cl,.int .i64 e] W fun r W' => r = .returned (.bool (anyV E.es (f' + 1) q.list e)) ∧ ∃ γ',Step E γ W γ' W':=by
 obtain ⟨w2,hw2⟩:∃ w2,(W.alloc (.cells #[.int .i64 k,.int .i64 j] 198)).alloc (.cells #[.int .i64 e] 3) = w2:=⟨_,rfl⟩
 have b2:Below W.heap.size W w2:=by rw [← hw2];exact ((Below.refl _ W).alloc (Nat.le_refl _) _).alloc (by simp) _
 have st2:=hI.step b2
 have sp2:Blk w2 W.heap.size 198 [.int .i64 k,.int .i64 j]:=by rw [← hw2];exact blk_alloc (Blk.new W 198 _) _
 have ex2:Boxed w2 (W.heap.size + 1) 3 (.int .i64 e):=by
  rw [← hw2]
  have:=Boxed.new (W.alloc (.cells #[.int .i64 k,.int .i64 j] 198)) 3 (.int .i64 e)
  rwa [World.size_alloc] at this
 have hl:=list_any E hE γ w2 st2.inv A s pv (f' + 1) hA k j p q hp hq hls hj hql d _ hS
 obtain ⟨⟨d0,d1⟩,_⟩:=blk2 sp2
 have ST2:Hid _:=st2
 have EX2:Hid (Boxed w2 (W.heap.size + 1) 3 (.int .i64 e)):=ex2
 have HA:Hid (_ = _):=hA
 have HIV:Hid (Inv E γ W):=hI
 have HII:Hid (IsK E f'):=HI
 have hxn:Hid (γ (W.heap.size + 1) = none):=hI.new (by omega)
 unfold wide at hl
 clear st2 ex2 hA hI HI hE hS sp2
 go_enter Tryz.func133,Tryz.ntmps133
 go_wp2_with fail
 refine hl.mono ?_
 clear hl
 rintro r X ⟨B,γ1,rfl,hB,st⟩
 have hx1:Boxed X (W.heap.size + 1) 3 (.int .i64 e):=(st.block _ EX2.out.lt hxn.out).trans EX2.out
 have hi:=indexAsk_any E f' HII.out γ1 X st.inv A B k j s pv p q (st.mono ST2.out.inv _ _ HA.out) hB hp hq hql e he (W.heap.size + 1) hx1 (st.none EX2.out.lt hxn.out)
 have HS1:Hid (Step E γ W γ1 X):=ST2.out.trans st
 have hcf:Calls Tryz.prog 141 #[.slice (some ⟨B,0,none⟩) q.list.length q.list.length,.func (.func 143) #[] #[.pointer (some ⟨W.heap.size + 1,0,none⟩)]] X fun r W' => r = .returned (.bool (anyV E.es (f' + 1) q.list e)) ∧ ∃ γ',Step E γ1 X γ' W':=by
  clear hw2 d0 d1 hB st hx1 HS1 ST2 EX2 hxn
  go_enter Tryz.func141,Tryz.ntmps141
  go_wp2_with fail
  refine hi.mono ?_
  clear hi
  rintro r W' ⟨⟨i,rfl,hi⟩,hst⟩
  have HS:Hid _:=hst
  have HH:Hid (_ = _):=hi
  clear hst hi
  go_wp2
  go_ret
  exact ⟨by rw [← show decide (0 ≤ i) = _ from HH.out];rfl,HS.out⟩
 clear hi hB st hx1 d0 d1
 go_wp2_with fail
 refine hcf.mono ?_
 clear hcf
 rintro r W' ⟨rfl,γ2,st2⟩
 have HS2:Hid (Step E γ W γ2 W'):=HS1.out.trans st2
 clear st2
 go_wp2
 go_ret
 exact ⟨rfl,γ2,HS2.out⟩
end Go.Proofs.YtcmmdojlhfmddaaGreat.Mt

/- package match: isPseudo, isCompound. -/
set_option maxRecDepth 100000
namespace Go.Proofs.YtcmmdojlhfmddaaGreat.Mt
open Go.Proofs.YtcmmdojlhfmddaaGreat.Tre
open Go Go.RowKit Dm
def Deeper (E:Env) (f:Nat):Prop:=∀ f',f = f' + 1 → IsK E f'
set_option maxHeartbeats 4000000 in
theorem isPseudo_any (E:Env) (hE:EnvOk E) (f:Nat) (HI:Deeper E f) (γ:Ghost) (W:World) (hI:Inv E γ W) (A k j:Nat) (s:Sel) (pv:Value) (p:Pt) (q:Ps) (hA:γ A = some (.asked s pv f)) (hp:s[k]? = some p) (hq:p.2.pss[j]? = some q) (hj:j < 1099511627776) (hql:q.list.length ≤ 8796093022208) (hqa:i64 q.a ∧ i64 q.b)
  (d:Nat) (pl:Option Addr) (cl:Nat) (hS:SelsAt d E.n₀ E.w₀ (.slice pl q.list.length cl) q.list) (e:Nat) (he:e < E.qs.length) :
  Calls Tryz.prog 125 #[.pointer (some ⟨A,0,none⟩),.agg #[.int .i64 k,.int .i64 j],.agg #[.int .i64 q.kind,.int .i64 q.a,.int .i64 q.b,.slice pl q.list.length cl],.int .i64 e] W fun r W' => r = .returned (.bool (pseudoV (anyV E.es f) E.es q e)) ∧ ∃ γ',Step E γ W γ' W':=by
 obtain ⟨w2,hw2⟩:∃ w2,(W.alloc (.cells #[.int .i64 k,.int .i64 j] 198)).alloc (.cells #[.int .i64 q.kind,.int .i64 q.a,.int .i64 q.b,.slice pl q.list.length cl] 160) = w2:=⟨_,rfl⟩
 have b2:Below W.heap.size W w2:=by rw [← hw2];exact ((Below.refl _ W).alloc (Nat.le_refl _) _).alloc (by simp) _
 have st2:=hI.step b2
 have sp2:Blk w2 W.heap.size 198 [.int .i64 k,.int .i64 j]:=by rw [← hw2];exact blk_alloc (Blk.new W 198 _) _
 have kp2:Blk w2 (W.heap.size + 1) 160 [.int .i64 q.kind,.int .i64 q.a,.int .i64 q.b,.slice pl q.list.length cl]:=by
  rw [← hw2]
  have:=Blk.new (W.alloc (.cells #[.int .i64 k,.int .i64 j] 198)) 160 [.int .i64 q.kind,.int .i64 q.a,.int .i64 q.b,.slice pl q.list.length cl]
  rwa [World.size_alloc] at this
 obtain ⟨⟨d0,d1⟩,_⟩:=blk2 sp2
 obtain ⟨⟨x0,x1,x2,x3⟩,_⟩:=blk4 kp2
 obtain ⟨_,hfit,fv,lv,kA,_,_⟩:=st2.inv.asked hA
 have ST2:Hid (Step E γ W γ w2):=st2
 obtain ⟨R,hR⟩:∃ R,R = pseudoV (anyV E.es f) E.es q e:=⟨_,rfl⟩
 rw [← hR]
 unfold pseudoV at hR
 by_cases h7:q.kind = 7
 ·rw [if_pos h7] at hR
  have hls:listed q = true:=by unfold listed;rw [decide_eq_true h7];rfl
  obtain ⟨f',rfl,_⟩:=fits_list hfit hp hq hls
  have hi:=isAny_any E hE f' (HI f' rfl) γ w2 st2.inv A k j s pv p q hA hp hq hls hj hql d pl cl hS e he
  rw [h7] at x0 hw2
  have HR:Hid (_ = _):=hR
  clear hR hI hE HI hA hS st2 sp2 kp2 kA hls hfit
  rw [h7]
  clear h7
  go_enter Tryz.func125,Tryz.ntmps125
  go_wp2_with fail
  refine hi.mono ?_
  clear hi
  rintro r W' ⟨rfl,γ',st⟩
  have HS2:Hid (Step E γ W γ' W'):=ST2.out.trans st
  clear st
  go_wp2
  go_ret
  exact ⟨by rw [show R = _ from HR.out];rfl,γ',HS2.out⟩
 ·rw [if_neg h7] at hR
  have e7:(q.kind == 7) = false:=by simpa using h7
  by_cases h8:q.kind = 8
  ·rw [if_pos h8] at hR
   have hls:listed q = true:=by unfold listed;rw [decide_eq_true h8];simp
   obtain ⟨f',rfl,_⟩:=fits_list hfit hp hq hls
   have hi:=isAny_any E hE f' (HI f' rfl) γ w2 st2.inv A k j s pv p q hA hp hq hls hj hql d pl cl hS e he
   rw [h8] at x0 hw2
   have HR:Hid (_ = _):=hR
   clear hR hI hE HI hA hS st2 sp2 kp2 kA hls hfit h7 e7
   rw [h8]
   clear h8
   go_enter Tryz.func125,Tryz.ntmps125
   go_wp2_with fail
   refine hi.mono ?_
   clear hi
   rintro r W' ⟨rfl,γ',st⟩
   have HS2:Hid (Step E γ W γ' W'):=ST2.out.trans st
   clear st
   go_wp2
   go_ret
   exact ⟨by rw [show R = _ from HR.out];rfl,γ',HS2.out⟩
  ·rw [if_neg h8] at hR
   have e8:(q.kind == 8) = false:=by simpa using h8
   have q0:Below w2.heap.size w2 w2.drew:=below_drew (Below.refl _ _)
   have st3:=st2.trans (st2.inv.step q0)
   have hi:=isPlaced_any E hE w2.drew (st3.inv.tree hE) e q pl q.list.length cl hqa
   rw [← hR] at hi
   have HS:Hid (∀ X:World,Below w2.heap.size w2 X → X.cell? ⟨A,0,none⟩ = some (.pointer (some ⟨E.tb,0,none⟩)) ∧ X.cell? ⟨W.heap.size + 1,0,none⟩ = some (.int .i64 q.kind) ∧ X.cell? ⟨W.heap.size + 1,1,none⟩ = some (.int .i64 q.a) ∧ X.cell? ⟨W.heap.size + 1,2,none⟩ = some (.int .i64 q.b) ∧ X.cell? ⟨W.heap.size + 1,3,none⟩ = some (.slice pl q.list.length cl)):=fun X hX => by
    obtain ⟨⟨y0,y1,y2,y3⟩,_⟩:=blk4 (kp2.next hX)
    exact ⟨(blk4 (kA.next hX)).1.1,y0,y1,y2,y3⟩
   have HST:Hid (Step E γ W γ w2.drew):=st3
   clear hR hI hE HI hA hS st2 sp2 kp2 kA hfit h7 h8 st3 ST2
   go_enter Tryz.func125,Tryz.ntmps125
   go_upto_region 6 with fail
   clear x0 x1 x2 x3 d0 d1 hw2
   refine Rg.wpD_begin [0,1,2,3,4,5] (fun X => X.cell? ⟨A,0,none⟩ = some (.pointer (some ⟨E.tb,0,none⟩)) ∧ X.cell? ⟨W.heap.size + 1,0,none⟩ = some (.int .i64 q.kind) ∧ X.cell? ⟨W.heap.size + 1,1,none⟩ = some (.int .i64 q.a) ∧ X.cell? ⟨W.heap.size + 1,2,none⟩ = some (.int .i64 q.b) ∧ X.cell? ⟨W.heap.size + 1,3,none⟩ = some (.slice pl q.list.length cl)) (by kernel_rfl) ?_
   have HeldS:=HS.out _ q0
   refine Rg.ld 0 HeldS ?_
   simp only [Act.put,Rg.sA,Rg.sB,Rg.sC]
   refine Rg.ld 1 HeldS ?_
   simp only [Act.put,Rg.sA,Rg.sB,Rg.sC]
   refine Rg.ld 2 HeldS ?_
   simp only [Act.put,Rg.sA,Rg.sB,Rg.sC]
   refine Rg.ld 3 HeldS ?_
   simp only [Act.put,Rg.sA,Rg.sB,Rg.sC]
   refine Rg.ld 4 HeldS ?_
   simp only [Act.put,Rg.sA,Rg.sB,Rg.sC]
   refine Rg.ld 5 HeldS ?_
   simp only [Act.put,Rg.sA,Rg.sB,Rg.sC]
   refine Rg.dd 6 fun K hK => ?_
   go_simp
   go_at_call 134
   refine Calls.mono hi ?_
   clear hi
   rintro r X ⟨rfl,bX⟩
   have HSX:Hid (Step E γ W γ X):=HST.out.trans (HST.out.inv.step bX)
   refine hK _ _ (fun h => absurd h (by decide)) ?_
   clear hK K HeldS
   refine Rg.pu 7 ?_
   simp only [Act.put,Rg.sA,Rg.sB,Rg.sC]
   refine Rg.wpD_done (by kernel_rfl) ?_
   go_wp2
   go_ret
   exact ⟨rfl,γ,HSX.out⟩
end Go.Proofs.YtcmmdojlhfmddaaGreat.Mt

/- package match: isCompound. -/
set_option maxRecDepth 100000
namespace Go.Proofs.YtcmmdojlhfmddaaGreat.Mt
open Go.Proofs.YtcmmdojlhfmddaaGreat.Tre
open Go Go.RowKit Dm
set_option maxHeartbeats 8000000 in
theorem isCompound_any (E:Env) (HAT:∀ a,AtOk a → AttrK E.w₀ E.es a) (hE:EnvOk E) (f:Nat) (HI:Deeper E f) (γ:Ghost) (W:World) (hI:Inv E γ W) (A k:Nat) (s:Sel) (pv:Value) (hA:γ A = some (.asked s pv f)) (hk:k < s.length) (e:Nat) (he:e < E.qs.length) :
  Calls Tryz.prog 112 #[.pointer (some ⟨A,0,none⟩),.int .i64 k,.int .i64 e] W fun r W' => r = .returned (.bool (compV (anyV E.es f) E.es (partAt s k).2 e)) ∧ ∃ γ',Step E γ W γ' W':=by
 obtain ⟨p,hp⟩:∃ p,s[k]? = some p:=⟨_,List.getElem?_eq_getElem hk⟩
 rw [partAt_eq hp]
 obtain ⟨_,o,ho,⟨d,hP⟩,hfit,fv,lv,rfl,_,_⟩:=hI.each A _ hA
 have kA:Blk W A 150 [ptrV E.tb,pv,fv,lv]:=ho
 have hs50:=fits_len hfit
 obtain ⟨pp,cp,rfl⟩:=RowT.len hP
 obtain ⟨bk,off,vi,vc,va,vp,rfl,hbk,hcap,hmx,_,⟨x0,x1,x2,x3,x4,x5⟩,g1,g2,g3,g4,g5,g6⟩:=PartsAt.get hP hp
 unfold maxLen at hmx
 have cw:∀ o,W.cell? ⟨bk,o,none⟩ = E.w₀.cell? ⟨bk,o,none⟩:=fun o => hI.low.cell (p:=⟨bk,o,none⟩) hbk
 rw [← cw] at x0 x1 x2 x3 x4 x5
 obtain ⟨pi,ci,rfl⟩:=g1.len
 obtain ⟨pc,cc,rfl⟩:=g2.len
 obtain ⟨pt,ct,rfl⟩:=g3.len
 obtain ⟨ps,cs,rfl⟩:=RowT.len g4
 have hki:(k:Int) < (s.length:Int):=by omega
 obtain ⟨w1,hw1⟩:∃ w1,W.alloc (.cells #[.string p.2.tag,.slice pi p.2.ids.length ci,.slice pc p.2.classes.length cc,.slice pt p.2.attrs.length ct,.slice ps p.2.pss.length cs] 140) = w1:=⟨_,rfl⟩
 have b1:Below W.heap.size W w1:=by rw [← hw1];exact (Below.refl _ _).alloc (Nat.le_refl _) _
 have k1:Blk w1 W.heap.size 140 [.string p.2.tag,.slice pi p.2.ids.length ci,.slice pc p.2.classes.length cc,.slice pt p.2.attrs.length ct,.slice ps p.2.pss.length cs]:=by rw [← hw1];exact Blk.new W 140 _
 have st1:=hI.step b1
 obtain ⟨⟨c0,c1,_,_⟩,_⟩:=blk4 kA
 have lowW:E.w₀.heap.size ≤ W.heap.size:=hI.low.size
 have q0:Below w1.heap.size w1 w1.drew:=below_drew (Below.refl _ _)
 have st0:=st1.trans (st1.inv.step q0)
 have hnode:=node_any E.b E.tb E.g E.cap E.qs e w1.drew (st0.inv.tree hE) hE.nds
 have HS:Hid (∀ X:World,Below w1.heap.size w1 X → X.cell? ⟨A,0,none⟩ = some (.pointer (some ⟨E.tb,0,none⟩)) ∧ X.cell? ⟨W.heap.size,0,none⟩ = some (.string p.2.tag) ∧ X.cell? ⟨W.heap.size,1,none⟩ = some (.slice pi p.2.ids.length ci) ∧ X.cell? ⟨W.heap.size,2,none⟩ = some (.slice pc p.2.classes.length cc) ∧ X.cell? ⟨W.heap.size,3,none⟩ = some (.slice pt p.2.attrs.length ct) ∧ X.cell? ⟨W.heap.size,4,none⟩ = some (.slice ps p.2.pss.length cs)):=fun X hX => by
  obtain ⟨⟨y0,y1,y2,y3,y4⟩,_⟩:=blk5 (k1.next hX)
  exact ⟨(blk4 ((kA.next b1).next hX)).1.1,y0,y1,y2,y3,y4⟩
 obtain ⟨R,hR⟩:∃ R,R = compV (anyV E.es f) E.es p.2 e:=⟨_,rfl⟩
 rw [← hR]
 have HR:Hid (R = (namedV (nodeV E.es e) p.2 && p.2.pss.all (fun q => pseudoV (anyV E.es f) E.es q e))):=hR
 have hND:NdOk (nodeV E.es e):=by
  have hel:E.es.length = E.qs.length:=List.length_map ..
  have hq:E.qs[e]? = some E.qs[e]:=List.getElem?_eq_getElem he
  unfold nodeV
  rw [elAt_yes (map_at hq)]
  exact hE.nds _ (List.mem_of_getElem? hq)
 have ST0:Hid (Step E γ W γ w1.drew):=st0
 have HE:Hid (EnvOk E):=hE
 have HHT:Hid (∀ a,AtOk a → AttrK E.w₀ E.es a):=HAT
 have hmq:∃ q ∈ E.es,q.nd = nodeV E.es e:=by
  have hq:E.qs[e]? = some E.qs[e]:=List.getElem?_eq_getElem he
  refine ⟨E.qs[e].e,List.mem_map_of_mem (List.mem_of_getElem? hq),?_⟩
  unfold nodeV
  rw [elAt_yes (map_at hq)]
  rfl
 have HMQ:Hid (∃ q ∈ E.es,q.nd = nodeV E.es e):=hmq
 clear hmq
 have HID:Hid (Deeper E f):=HI
 have HA:Hid (_ = _):=hA
 have HIV:Hid (Inv E γ W):=hI
 have HND:Hid (NdOk (nodeV E.es e)):=hND
 have G1:Hid (StrsR E.n₀ E.w₀ (.slice pi p.2.ids.length ci) p.2.ids):=g1
 have G2:Hid (StrsR E.n₀ E.w₀ (.slice pc p.2.classes.length cc) p.2.classes):=g2
 have G3:Hid (AttrsAt E.n₀ E.w₀ (.slice pt p.2.attrs.length ct) p.2.attrs):=g3
 have G4:Hid (RowT 4 (PsT (SelsAt d E.n₀ E.w₀)) E.n₀ E.w₀ (.slice ps p.2.pss.length cs) p.2.pss):=g4
 have G6:Hid (∀ x ∈ p.2.attrs,AtOk x):=g6
 have hlp:=RowT.short g4
 unfold maxLen at hlp
 unfold ptrV at c0
 clear hR hI hE HI hA HAT hP kA ho g1 g2 g3 g4 g6 cw hfit st1 st0 hND k1
 go_enter Tryz.func112,Tryz.ntmps112
 go_upto_region 2 with fail
 clear x0 x1 x2 x3 x4 x5 c0 c1 hw1
 refine Rg.wpD_begin [0,1,2,3,4,5,6] (fun X => X.cell? ⟨A,0,none⟩ = some (.pointer (some ⟨E.tb,0,none⟩)) ∧ X.cell? ⟨W.heap.size,0,none⟩ = some (.string p.2.tag) ∧ X.cell? ⟨W.heap.size,1,none⟩ = some (.slice pi p.2.ids.length ci) ∧ X.cell? ⟨W.heap.size,2,none⟩ = some (.slice pc p.2.classes.length cc) ∧ X.cell? ⟨W.heap.size,3,none⟩ = some (.slice pt p.2.attrs.length ct) ∧ X.cell? ⟨W.heap.size,4,none⟩ = some (.slice ps p.2.pss.length cs)) (by kernel_rfl) ?_
 have HeldS:=HS.out _ q0
 refine Rg.ld 0 HeldS ?_
 simp only [Act.put,Rg.sA,Rg.sB,Rg.sC]
 refine Rg.ld 1 HeldS ?_
 simp only [Act.put,Rg.sA,Rg.sB,Rg.sC]
 refine Rg.ld 2 HeldS ?_
 simp only [Act.put,Rg.sA,Rg.sB,Rg.sC]
 refine Rg.ld 3 HeldS ?_
 simp only [Act.put,Rg.sA,Rg.sB,Rg.sC]
 refine Rg.ld 4 HeldS ?_
 simp only [Act.put,Rg.sA,Rg.sB,Rg.sC]
 refine Rg.ld 6 HeldS ?_
 simp only [Act.put,Rg.sA,Rg.sB,Rg.sC]
 refine Rg.dd 5 fun K hK => ?_
 go_simp
 go_at_call 124
 refine Calls.mono hnode ?_
 clear hnode
 rintro r X ⟨cv,av,rfl,hcv,hav,bX⟩
 have stX:=ST0.out.trans (ST0.out.inv.step bX)
 have lowX:=stX.inv.low
 have hnm:=isNamed_any E.w₀ E.es HHT.out (nodeV E.es e) cv av X HMQ.out lowX HND.out hcv.at hav.at p.2 (.slice pi p.2.ids.length ci) (.slice pc p.2.classes.length cc) (.slice pt p.2.attrs.length ct) (.slice ps p.2.pss.length cs) ((G1.out.below lowX).mono lowX.size) ((G2.out.below lowX).mono lowX.size) ((G3.out.below lowX).mono lowX.size) G6.out ⟨_,_,_,rfl⟩
 have STX:Hid (Step E γ W γ X):=stX
 refine hK _ _ (fun _ => HS.out _ (below_next q0 bX)) ?_
 clear hK K HeldS
 refine Rg.dd 7 fun K hK => ?_
 go_simp
 go_at_call 123
 refine Calls.mono hnm ?_
 clear hnm hcv hav lowX
 rintro r Y ⟨rfl,bY⟩
 have stY:=stX.trans (stX.inv.step bY)
 have STY:Hid (Step E γ W γ Y):=stY
 have hm4:=(HS.out _ (below_next (below_next q0 bX) bY)).2.2.2.2.2
 refine hK _ _ (fun h => absurd h (by decide)) ?_
 clear hK K stX stY
 refine Rg.pu 8 ?_
 simp only [Act.put,Rg.sA,Rg.sB,Rg.sC]
 refine Rg.wpD_done (by kernel_rfl) ?_
 cases hnv:namedV (nodeV E.es e) p.2 with
 | false =>
  have FIN:Hid (false = R):=by
   show _ = _
   rw [show R = _ from HR.out,hnv]
   rfl
  clear hnv
  go_wp2
  go_ret
  exact ⟨by rw [← show false = _ from FIN.out];rfl,γ,STY.out⟩
 | true =>
  have HR2:Hid (R = p.2.pss.all (fun q => pseudoV (anyV E.es f) E.es q e)):=by
   show _ = _
   rw [show R = _ from HR.out,hnv,Bool.true_and]
  clear hnv
  go_wp2
  go_loopw [30] (fun y wr => ∃ (i:Nat) (γi:Ghost),y = .int .i64 i ∧ i ≤ p.2.pss.length ∧ (p.2.pss.take i).all (fun q => pseudoV (anyV E.es f) E.es q e) = true ∧ Step E γ W γi wr) (fun y _ => p.2.pss.length - (intOf y).toNat)
  case atStart => exact ⟨0,γ,rfl,Nat.zero_le _,rfl,STY.out⟩
  case round =>
   clear hm4
   obtain ⟨i,γi,rfl,hi,hall,hst⟩:=hrel
   have HALL:Hid (_ = _):=hall
   have HST:Hid _:=hst
   clear hall
   by_cases hlt:i < p.2.pss.length
   ·obtain ⟨q,hq⟩:∃ q,p.2.pss[i]? = some q:=⟨_,List.getElem?_eq_getElem hlt⟩
    obtain ⟨bk2,off2,xl,rfl,hbk2,hcap2,hmx2,⟨_,hqa,hqb,hql⟩,hQ,y0,y1,y2,y3⟩:=pss_get G4.out hq
    unfold maxLen at hmx2
    have cw:∀ o,wr.cell? ⟨bk2,o,none⟩ = E.w₀.cell? ⟨bk2,o,none⟩:=fun o => hst.inv.low.cell (p:=⟨bk2,o,none⟩) hbk2
    rw [← cw] at y0 y1 y2 y3
    obtain ⟨pl,cl,rfl⟩:=SelsAt.len hQ
    have hii:(i:Int) < (p.2.pss.length:Int):=by omega
    obtain ⟨X1,hX1⟩:∃ X1,wr.alloc (.cells #[.int .i64 q.kind,.int .i64 q.a,.int .i64 q.b,.slice pl q.list.length cl] 160) = X1:=⟨_,rfl⟩
    have bX1:Below wr.heap.size wr X1:=by rw [← hX1];exact (Below.refl _ _).alloc (Nat.le_refl _) _
    have kX1:Blk X1 wr.heap.size 160 [.int .i64 q.kind,.int .i64 q.a,.int .i64 q.b,.slice pl q.list.length cl]:=by rw [← hX1];exact Blk.new wr 160 _
    obtain ⟨⟨z0,z1,z2,z3⟩,_⟩:=blk4 kX1
    have st3:=hst.trans (hst.inv.step bX1)
    have hps:=isPseudo_any E HE.out f HID.out γi X1 st3.inv A k i s _ p q (hst.mono HIV.out _ _ HA.out) hp hq (by omega) hql ⟨hqa,hqb⟩ d pl cl hQ e he
    have ST3:Hid (Step E γ W γi X1):=st3
    have HQ:Hid (_ = _):=hq
    clear cw hQ hst st3 hq
    go_wp2_with fail
    refine hps.mono ?_
    clear hps
    rintro r Z ⟨rfl,γ',stz⟩
    have HSZ:Hid (Step E γ W γ' Z):=ST3.out.trans stz
    clear stz z0 z1 z2 z3 y0 y1 y2 y3 hX1
    cases hv:pseudoV (anyV E.es f) E.es q e with
    | true =>
     have FIN:Hid ((p.2.pss.take (i + 1)).all (fun q => pseudoV (anyV E.es f) E.es q e) = true):=all_take HALL.out HQ.out hv
     clear hv
     go_wp2
     go_roundw
     case rel => exact ⟨_,_,_,_,_,_,_,_,_,_,_,_,_,_,_,_,_,⟨i + 1,γ',rfl,by omega,FIN.out,HSZ.out⟩,rfl⟩
     case measure => simp [intOf];omega
    | false =>
     have FIN:Hid (false = R):=by
      show _ = _
      rw [show R = _ from HR2.out,all_not HQ.out hv]
     clear hv
     go_wp2
     go_ret
     exact ⟨by rw [← show false = _ from FIN.out];rfl,γ',HSZ.out⟩
   ·have hii:¬ ((i:Int) < (p.2.pss.length:Int)):=by omega
    obtain rfl:i = p.2.pss.length:=by omega
    have FIN:Hid (true = R):=by
     have h:=HALL.out
     rw [List.take_length] at h
     show _ = _
     rw [show R = _ from HR2.out]
     exact h.symm
    clear hst
    go_wp2
    go_ret
    exact ⟨by rw [← show true = _ from FIN.out];rfl,γi,HST.out⟩
end Go.Proofs.YtcmmdojlhfmddaaGreat.Mt

/- package match: Selector and Compound at every tree, element and selector. -/
set_option maxRecDepth 100000
namespace Go.Proofs.YtcmmdojlhfmddaaGreat.Mt
open Go.Proofs.YtcmmdojlhfmddaaGreat.Tre
open Go Go.RowKit Dm
set_option maxHeartbeats 2000000 in
theorem isUpTo_any (E:Env) (HAT:∀ a,AtOk a → AttrK E.w₀ E.es a) (hE:EnvOk E) (f:Nat) (HI:Deeper E f) (A:Nat) (s:Sel) (pv:Value) (k:Nat) (hk:k < s.length) (HU:0 < k → UpToK E A f s pv (k - 1)):UpToK E A f s pv k:=by
 intro γ W hI hA e he
 have hc:=isCompound_any E HAT hE f HI γ W hI A k s pv hA hk e he
 have HIV:Hid (Inv E γ W):=hI
 have HE:Hid (EnvOk E):=hE
 have HUU:Hid (0 < k → UpToK E A f s pv (k - 1)):=HU
 have HA:Hid (_ = _):=hA
 obtain ⟨R,hR⟩:∃ R,R = uptoV (anyV E.es f) E.es s k e:=⟨_,rfl⟩
 rw [← hR]
 have HR:Hid (_ = _):=hR
 clear hI hE HI HU hA HAT hR
 go_enter Tryz.func93,Tryz.ntmps93
 go_wp2_with fail
 refine hc.mono ?_
 clear hc
 rintro r X ⟨rfl,γ1,st1⟩
 have ST1:Hid (Step E γ W γ1 X):=st1
 clear st1
 cases hcv:compV (anyV E.es f) E.es (partAt s k).2 e with
 | false =>
  have FIN:Hid (false = R):=by
   show _ = _
   rw [show R = _ from HR.out]
   cases k with
   | zero => unfold uptoV;exact hcv.symm
   | succ k => unfold uptoV;rw [hcv];rfl
  clear hcv
  go_wp2
  go_ret
  exact ⟨by rw [← show false = _ from FIN.out];rfl,γ1,ST1.out⟩
 | true =>
  rcases Nat.eq_zero_or_pos k with hk0 | hk0
  ·subst hk0
   have FIN:Hid (true = R):=by
    show _ = _
    rw [show R = _ from HR.out]
    unfold uptoV
    exact hcv.symm
   clear hcv
   go_wp2
   go_ret
   exact ⟨by rw [← show true = _ from FIN.out];rfl,γ1,ST1.out⟩
  ·have ha:=callsIn_wide.1 (isAhead_in E HE.out 1 (Nat.le_refl _) γ1 X ST1.out.inv A s pv f (ST1.out.mono HIV.out _ _ HA.out) k hk hk0 (HUU.out hk0) e he)
   have FIN:Hid ((aheadV E.es (partAt s k).1 e).any (uptoV (anyV E.es f) E.es s (k - 1)) = R):=by
    show _ = _
    rw [show R = _ from HR.out]
    obtain ⟨m,rfl⟩:∃ m,k = m + 1:=⟨k - 1,by omega⟩
    show _ = (compV _ _ _ _ && _)
    rw [hcv,Bool.true_and]
    rfl
   have hk1:((k:Int) == 0) = false:=by
    have:(k:Int) ≠ 0:=by omega
    simpa using this
   clear hcv
   go_wp2_with fail
   refine ha.mono ?_
   clear ha
   rintro r Y ⟨rfl,γ2,st2⟩
   have ST2:Hid (Step E γ W γ2 Y):=ST1.out.trans st2
   clear st2
   go_wp2
   go_ret
   exact ⟨by rw [← show _ = R from FIN.out];rfl,γ2,ST2.out⟩
theorem upTo_all (E:Env) (HAT:∀ a,AtOk a → AttrK E.w₀ E.es a) (hE:EnvOk E) (f:Nat) (HI:Deeper E f) (A:Nat) (s:Sel) (pv:Value):∀ k,k < s.length → UpToK E A f s pv k
 | 0,h => isUpTo_any E HAT hE f HI A s pv 0 h (fun h => absurd h (Nat.lt_irrefl _))
 | k + 1,h => isUpTo_any E HAT hE f HI A s pv (k + 1) h (fun _ => upTo_all E HAT hE f HI A s pv k (by omega))
set_option maxHeartbeats 2000000 in
theorem is_step (E:Env) (HAT:∀ a,AtOk a → AttrK E.w₀ E.es a) (hE:EnvOk E) (f:Nat) (HI:Deeper E f):IsK E f:=by
 intro γ W A s pv hI hA e he
 obtain ⟨⟨d,hP⟩,hfit,fv,lv,kA,_,_⟩:=hI.asked hA
 obtain ⟨pp,cp,rfl⟩:=RowT.len hP
 have hs50:=fits_len hfit
 obtain ⟨⟨c0,c1,_,_⟩,_⟩:=blk4 kA
 by_cases h0:0 < s.length
 ·have hu:=upTo_all E HAT hE f HI A s _ (s.length - 1) (by omega) γ W hI hA e he
  have hV:selV (anyV E.es f) E.es s e = uptoV (anyV E.es f) E.es s (s.length - 1) e:=by unfold selV;rw [decide_eq_true h0,Bool.true_and]
  rw [hV]
  have hw1:IntKind.i64.wrap ((s.length:Int) - 1) = ((s.length - 1:Nat):Int):=by rw [IntKind.wrap_i64];omega
  have hp:(0:Int) < (s.length:Int):=by omega
  clear hV hI hE HI HAT hA hP kA hfit
  go_enter Tryz.func83,Tryz.ntmps83
  go_wp2_with fail
  refine hu.mono ?_
  clear hu
  rintro r X ⟨rfl,hst⟩
  have HS:Hid _:=hst
  clear hst
  go_wp2
  go_ret
  exact ⟨rfl,HS.out⟩
 ·have hV:selV (anyV E.es f) E.es s e = false:=by unfold selV;rw [decide_eq_false h0];rfl
  rw [hV]
  have hz:s.length = 0:=by omega
  have HS:Hid (Step E γ W γ W):=Step.refl hI
  rw [hz] at c1
  clear hV hI hE HI HAT hA hP kA hfit
  go_enter Tryz.func83,Tryz.ntmps83
  go_wp2
  go_ret
  exact ⟨rfl,γ,HS.out⟩
theorem is_all (E:Env) (HAT:∀ a,AtOk a → AttrK E.w₀ E.es a) (hE:EnvOk E):∀ f,IsK E f
 | 0 => is_step E HAT hE 0 (fun _ h => by cases h)
 | f + 1 => is_step E HAT hE (f + 1) (fun f' h => by cases h;exact is_all E HAT hE f)
set_option maxHeartbeats 2000000 in
theorem selector_any (qs:List Em) (w:World) (HAT:∀ a,AtOk a → AttrK w (qs.map Em.e) a) (b tb g cap:Nat) (hT:Tr b w tb g cap qs) (hO:TreeOk (qs.map Em.e)) (hl:qs.length ≤ 4096) (hN:∀ q ∈ qs,NdOk q.e.nd) (e:Int) (d:Nat) (v:Value) (s:Sel) (hP:PartsAt d w.heap.size w v s) :
  Calls Tryz.prog 62 #[.pointer (some ⟨tb,0,none⟩),.int .i64 e,.agg #[v]] w fun r w' => r = .returned (.bool (selectorV (qs.map Em.e) e s)) ∧ Below w.heap.size w w':=by
 obtain ⟨pp,cp,rfl⟩:=RowT.len hP
 obtain ⟨w1,hw1⟩:∃ w1,w.alloc (.cells #[.slice pp s.length cp] 117) = w1:=⟨_,rfl⟩
 have b1:Below w.heap.size w w1:=by rw [← hw1];exact (Below.refl _ _).alloc (Nat.le_refl _) _
 have k1:Blk w1 w.heap.size 117 [.slice pp s.length cp]:=by rw [← hw1];exact Blk.new w 117 _
 have c0:=(blk1 k1).1
 have hlen:=len_any b tb g cap qs w1 (hT.next b1)
 have hel:(qs.map Em.e).length = qs.length:=List.length_map ..
 unfold selectorV
 rw [hel]
 by_cases hin:0 ≤ e ∧ e < (qs.length:Int)
 ·rw [decide_eq_true hin,Bool.true_and]
  obtain ⟨k,rfl⟩:∃ k:Nat,e = (k:Int):=⟨e.toNat,by omega⟩
  have hk:k < qs.length:=by omega
  rw [Int.toNat_natCast]
  have hfi:=fits_any d s (.slice pp s.length cp) w1 (hP.next b1)
  have hg1:¬ ((qs.length:Int) ≤ (k:Int)):=by omega
  have HT:Hid (Tr b w tb g cap qs):=hT
  have HO:Hid (TreeOk (qs.map Em.e)):=hO
  have HNN:Hid (∀ q ∈ qs,NdOk q.e.nd):=hN
  have HHT:Hid (∀ a,AtOk a → AttrK w (qs.map Em.e) a):=HAT
  have HP:Hid (PartsAt d w.heap.size w (.slice pp s.length cp) s):=hP
  have K1:Hid (Blk w1 w.heap.size 117 [.slice pp s.length cp]):=k1
  obtain ⟨R,hR⟩:∃ R,R = (fitsV 8 s && selV (anyV (qs.map Em.e) 8) (qs.map Em.e) s k):=⟨_,rfl⟩
  rw [← hR]
  have HR:Hid (_ = _):=hR
  have hn0:¬ ((k:Int) < 0):=by omega
  have hd0:decide ((k:Int) < 0) = false:=decide_eq_false hn0
  have hd1:decide (qs.length ≤ k) = false:=decide_eq_false (by omega)
  clear hT hO hN HAT hP k1 hin hel hR
  go_enter Tryz.func62,Tryz.ntmps62
  go_wp2_with fail
  refine hlen.mono ?_
  clear hlen
  rintro r X ⟨rfl,rfl⟩
  go_wp2_with fail
  refine hfi.mono ?_
  clear hfi
  rintro r Y ⟨rfl,bY⟩
  have bwY:Below w.heap.size w Y:=below_next b1 bY
  have c0:=(blk1 (K1.out.next bY)).1
  cases hf:fitsV 8 s with
  | false =>
   have FIN:Hid (false = R):=by
    show _ = _
    rw [show R = _ from HR.out,hf]
    rfl
   clear hf
   go_wp2
   go_ret
   exact ⟨by rw [← show false = _ from FIN.out];rfl,bwY⟩
  | true =>
   have HR2:Hid (R = selV (anyV (qs.map Em.e) 8) (qs.map Em.e) s k):=by
    show _ = _
    rw [show R = _ from HR.out,hf,Bool.true_and]
   obtain ⟨Z,hZ⟩:∃ Z,Y.alloc (.cells #[.pointer (some ⟨tb,0,none⟩),.slice pp s.length cp,.slice none 0 0,.map none] 150) = Z:=⟨_,rfl⟩
   have bZ:Below Y.heap.size Y Z:=by rw [← hZ];exact (Below.refl _ _).alloc (Nat.le_refl _) _
   have kZ:Blk Z Y.heap.size 150 [.pointer (some ⟨tb,0,none⟩),.slice pp s.length cp,.slice none 0 0,.map none]:=by rw [← hZ];exact Blk.new Y 150 _
   have hE:EnvOk ⟨Y,b,tb,g,cap,qs⟩:=⟨HT.out.next bwY,HO.out,hl,HNN.out⟩
   have hP2:PartsAt d Y.heap.size Y (.slice pp s.length cp) s:=HP.out.next bwY
   have inv0:Inv ⟨Y,b,tb,g,cap,qs⟩ (fun _ => none) Y:=⟨Below.refl _ _,fun A r h => by cases h⟩
   have inv1:Step ⟨Y,b,tb,g,cap,qs⟩ (fun _ => none) Y (addG (fun _ => none) Y.heap.size (.asked s (.slice pp s.length cp) 8)) Z:=inv0.add (Nat.le_refl _) bZ kZ ⟨⟨d,hP2⟩,hf,_,_,rfl,.inl rfl,.inl rfl⟩
   have his:=is_all ⟨Y,b,tb,g,cap,qs⟩ (fun a ha => (HHT.out a ha).next bwY) hE 8 _ Z Y.heap.size s (.slice pp s.length cp) inv1.inv (addG_same _ _ _) k hk
   have lowY:Hid (∀ (V:World) γ' X,Step ⟨Y,b,tb,g,cap,qs⟩ (addG (fun _ => none) Y.heap.size (.asked s (.slice pp s.length cp) 8)) V γ' X → Below w.heap.size w X):=fun _ γ' X st => below_next bwY st.inv.low
   have hes:(⟨Y,b,tb,g,cap,qs⟩:Env).es = qs.map Em.e:=rfl
   rw [hes] at his
   rw [← hZ] at his
   clear hf hE hP2 inv0 inv1 kZ bZ bY hes
   clear hZ
   go_wp2_with fail
   refine his.mono ?_
   clear his
   rintro r X ⟨rfl,γ',st⟩
   have FIN:Hid (Below w.heap.size w X):=lowY.out _ γ' X st
   clear st
   go_wp2
   go_ret
   exact ⟨by rw [show R = _ from HR2.out];rfl,FIN.out⟩
 ·rw [decide_eq_false hin,Bool.false_and]
  clear hT hO hN HAT hP k1 hel
  by_cases hneg:e < 0
  ·clear hlen
   go_enter Tryz.func62,Tryz.ntmps62
   go_wp2
   go_ret
   exact ⟨rfl,b1⟩
  ·have hge:(qs.length:Int) ≤ e:=by omega
   clear hin
   go_enter Tryz.func62,Tryz.ntmps62
   go_wp2_with fail
   refine hlen.mono ?_
   clear hlen
   rintro r X ⟨rfl,rfl⟩
   go_wp2
   go_ret
   exact ⟨rfl,b1⟩
end Go.Proofs.YtcmmdojlhfmddaaGreat.Mt

/- package match in use: Compound and Any; selectors that a law lays itself; the laws' own alive and trees. -/
namespace Go.Proofs.YtcmmdojlhfmddaaGreat.Mt
open Go.Proofs.YtcmmdojlhfmddaaGreat.Tre
open Go Go.RowKit Dm
theorem parts_none (d n:Nat) (W:World):PartsAt d n W (.slice none 0 0) []:=.inl ⟨rfl,_,_,rfl⟩
end Go.Proofs.YtcmmdojlhfmddaaGreat.Mt

/- The laws of stage 10: their own alive and trees. -/
namespace Go.Proofs.YtcmmdojlhfmddaaGreat.Mt
open Go.Proofs.YtcmmdojlhfmddaaGreat.Tre
open Go Go.RowKit Dm
theorem low_ok {n:Nd} (h:NdOk n):NdOk (lowN n):=by
 refine ⟨by show (lowS n.tag).size ≤ _;rw [lowS_size];exact h.tag,h.id,h.cls,fun a ha => ?_,h.ncls,by show (n.ats.map lowA).length * 32 ≤ _;rw [List.length_map];exact h.nats⟩
 obtain ⟨b,hb,rfl⟩:=List.mem_map.1 (show a ∈ n.ats.map lowA from ha)
 have:=h.ats b hb
 exact ⟨by show (lowS b.1).size ≤ _;rw [lowS_size];exact this.1,this.2⟩
theorem addV_nds {es es':List El} {n:Nd} (h:addV es n = .ok es') (he:∀ e ∈ es,NdOk e.nd) (hn:NdOk n):∀ e ∈ es',NdOk e.nd:=by
 unfold addV at h
 split at h
 ·split at h
  ·cases h
   intro e hm
   obtain rfl:=List.mem_singleton.1 hm
   exact low_ok hn
  ·cases h
 ·split at h
  ·rename_i hp
   split at h
   ·cases h
   ·cases h
    intro e hm
    rcases List.mem_append.1 hm with hm | hm
    ·unfold growV at hm
     rcases List.mem_or_eq_of_mem_set hm with hm | rfl
     ·exact he e hm
     ·show NdOk (es.getD n.parent.toNat zeroEl).nd
      have hlt:n.parent.toNat < es.length:=by omega
      rw [show es.getD n.parent.toNat zeroEl = es[n.parent.toNat] by simp [List.getD,hlt]]
      exact he _ (List.getElem_mem hlt)
    ·obtain rfl:=List.mem_singleton.1 hm
     exact low_ok hn
  ·cases h
theorem newF_nds:∀ (l:List Nd) (es es':List El),newF es l = .ok es' → (∀ e ∈ es,NdOk e.nd) → (∀ n ∈ l,NdOk n) → ∀ e ∈ es',NdOk e.nd
 | [],es,es',h,he,_ => by cases h;exact he
 | n :: l,es,es',h,he,hl => by
  unfold newF at h
  cases ha:addV es n with
  | error x => rw [ha] at h;cases h
  | ok e2 =>
   rw [ha] at h
   exact newF_nds l e2 es' h (addV_nds ha he (hl n (List.mem_cons_self ..))) (fun m hm => hl m (List.mem_cons_of_mem _ hm))
theorem newV_nds {l:List Nd} {es:List El} (h:newV l = .ok es) (hl:∀ n ∈ l,NdOk n):∀ e ∈ es,NdOk e.nd:=by
 unfold newV at h
 split at h
 ·cases h
 ·exact newF_nds l [] es h (fun _ h => by cases h) hl
structure Good (W:World) (tb:Nat) (es:List El):Prop where
 tr:∃ b g cap qs,Tr b W tb g cap qs ∧ qs.map Em.e = es
 ok:TreeOk es
 len:es.length ≤ 4096
 nds:∀ e ∈ es,NdOk e.nd
 ats:∀ a,AtOk a → AttrK W es a
theorem Good.sel {W:World} {tb:Nat} {es:List El} (h:Good W tb es) (e:Int) (d:Nat) (v:Value) (s:Sel) (hP:PartsAt d W.heap.size W v s) :
  Calls Tryz.prog 62 #[.pointer (some ⟨tb,0,none⟩),.int .i64 e,.agg #[v]] W fun r w' => r = .returned (.bool (selectorV es e s)) ∧ Below W.heap.size W w':=by
 obtain ⟨⟨b,g,cap,qs,hT,rfl⟩,h1,h2,h3,h4⟩:=h
 exact selector_any qs W h4 b tb g cap hT h1 (by simpa using h2) (fun q hq => h3 _ (List.mem_map_of_mem hq)) e d v s hP
/-! ### trees -/
end Go.Proofs.YtcmmdojlhfmddaaGreat.Mt
