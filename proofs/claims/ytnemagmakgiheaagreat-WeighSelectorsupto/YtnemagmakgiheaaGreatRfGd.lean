/- The document's own matching (tapestrierref9): pseudo-classes, given what lists answer. -/
import Derived.Test.YtnemagmakgiheaaGreatRfGa
import Derived.Test.YtnemagmakgiheaaGreatRfGc
import Derived.Test.YtnemagmakgiheaaGreatWgG
import Derived.Test.YtnemagmakgiheaaGreatMtGe
set_option maxRecDepth 100000
namespace Go.Proofs.YtnemagmakgiheaaGreat.Rf
open Go Go.RowKit Go.Shelf Sl Wg Go.Proofs.YtnemagmakgiheaaGreat.Tre
open Dm (El parentV placeV childrenV)
/-! ### what is asked of selectors beside their place in memory -/
def okA (c:Cp):Prop:=(∀ a ∈ c.attrs,a.text.size ≤ 1099511627776) ∧ ∀ q ∈ c.pss,i64 q.a ∧ i64 q.b
def okS:Nat → Sel → Prop
 | 0,s => ∀ p ∈ s,okA p.2
 | d + 1,s => ∀ p ∈ s,okA p.2 ∧ ∀ q ∈ p.2.pss,∀ s' ∈ q.list,okS d s'
def okC (d:Nat) (c:Cp):Prop:=okA c ∧ match d with
 | 0 => True
 | d + 1 => ∀ q ∈ c.pss,∀ s' ∈ q.list,okS d s'
theorem okS_c {d:Nat} {s:Sel} (h:okS d s) {p:Pt} (hp:p ∈ s):okC d p.2:=by
 cases d with
 | zero => exact ⟨h p hp,trivial⟩
 | succ d => exact h p hp
def AnyOK (d:Nat):Prop:=∀ (T:TE) (l:List Sel) (v:Value) (k:Nat) (w:World),T.At w → k < T.es.length → SelsR (d + 1) w.heap.size w v l → (∀ s ∈ l,deepS d s = false) → (∀ s ∈ l,okS d s) →
 Calls Tryz.prog 157 #[T.p,.int .i64 k,v,.int .i64 (8 - (d:Int))] w fun e w' => e = .returned (.bool (Mt.anyV T.es (d + 1) l k)) ∧ Below w.heap.size w w'
def LsOk (d:Nat) (q:Ps):Prop:=isList q = true → ∃ d',d = d' + 1 ∧ (∀ s ∈ q.list,deepS d' s = false) ∧ ∀ s ∈ q.list,okS d' s
theorem row_in (p a b:Int):rowV p a b = Mt.inRowV p a b:=rfl
theorem place_few {T:TE} {w:World} (hT:T.At w) {k:Nat} (hk:k < T.es.length):0 ≤ placeV T.es (k:Int) ∧ placeV T.es (k:Int) ≤ 4294967296:=by
 have hl:=hT.len
 by_cases h0:k = 0
 ·subst h0
  obtain ⟨q,hq⟩:∃ q,T.es[0]? = some q:=⟨_,List.getElem?_eq_getElem hk⟩
  have h1:=(hT.ok.root q hq).2.2
  unfold placeV
  rw [Dm.elAt_yes hq]
  simp [h1]
 ·obtain ⟨p,hp,hpk⟩:=Dm.par_lt hT.ok hk (by omega)
  have h1:=Dm.place_kids hT.ok hk hp
  have h2:=Dm.kids_len T.es p k
  omega
theorem root_iff {T:TE} {w:World} (hT:T.At w) {k:Nat} (hk:k < T.es.length):decide (parentV T.es (k:Int) = -1) = ((k:Int) == 0):=by
 by_cases h0:k = 0
 ·subst h0
  rw [Dm.par_root hT.ok hk];rfl
 ·obtain ⟨p,hp,hpk⟩:=Dm.par_lt hT.ok hk (by omega)
  rw [hp,decide_eq_false (by omega)]
  symm
  rw [beq_eq_false_iff_ne]
  omega
set_option maxHeartbeats 4000000 in
theorem pseudo_any (d:Nat) (hd:d ≤ 8) (H:∀ d',d = d' + 1 → AnyOK d') (T:TE) (q:Ps) (v:Value) (k:Nat) (w:World) (hT:T.At w) (hk:k < T.es.length) (hv:SelsR d w.heap.size w v q.list) (hls:LsOk d q) (ha:i64 q.a) (hb:i64 q.b) :
  Calls Tryz.prog 129 #[T.p,.int .i64 k,.agg #[.int .i64 q.kind,.int .i64 q.a,.int .i64 q.b,v],.int .i64 (8 - (d:Int))] w fun e w' => e = .returned (.bool (Mt.pseudoV (Mt.anyV T.es d) T.es q k)) ∧ Below w.heap.size w w':=by
 obtain ⟨pv,mv,cv,rfl⟩:=hv.form
 obtain ⟨V,hV⟩:∃ V,Mt.pseudoV (Mt.anyV T.es d) T.es q k = V:=⟨_,rfl⟩
 rw [hV]
 unfold Mt.pseudoV Mt.placedV Mt.firstV at hV
 obtain ⟨w1,hw1⟩:∃ w1,w.alloc (.cells #[.int .i64 q.kind,.int .i64 q.a,.int .i64 q.b,.slice pv mv cv] 40) = w1:=⟨_,rfl⟩
 have b1:Below w.heap.size w w1:=by rw [← hw1];exact (Below.refl _ w).alloc (Nat.le_refl _) _
 have k1:Blk w1 w.heap.size 40 [.int .i64 q.kind,.int .i64 q.a,.int .i64 q.b,.slice pv mv cv]:=by rw [← hw1];exact Blk.new w _ _
 obtain ⟨⟨c0,c1,c2,c3⟩,_⟩:=blk4 k1
 have hT1:=hT.next b1
 have s1:w.heap.size < w1.heap.size:=k1.lt
 have KP:Hid (Blk w1 w.heap.size 40 [.int .i64 q.kind,.int .i64 q.a,.int .i64 q.b,.slice pv mv cv]):=k1
 obtain ⟨D,hD⟩:∃ D:Int,8 - (d:Int) = D:=⟨_,rfl⟩
 rw [hD]
 clear k1
 by_cases o1:q.kind = 1
 ·rw [o1,if_neg (by decide),if_neg (by decide),if_pos rfl,root_iff hT hk] at hV
  have p1:(q.kind == 1) = true:=by rw [o1];rfl
  subst hV
  clear hT hT1 hv hls H o1 hD c1 c2 c3
  go_enter Tryz.func129,Tryz.ntmps129
  go_wp2
  go_ret
  exact ⟨rfl,b1⟩
 have p1:(q.kind == 1) = false:=by simpa using o1
 by_cases o2:q.kind = 2
 ·rw [o2,if_neg (by decide),if_neg (by decide),if_neg (by decide),if_pos rfl] at hV
  have p2:(q.kind == 2) = true:=by rw [o2];rfl
  have hpl:=place_any T k w1 hT1
  have hV2:(placeV T.es (k:Int) == 1) = V:=by rw [← hV];rfl
  generalize placeV T.es (k:Int) = P at *
  subst hV2
  clear hT hT1 hv hls H o1 o2 hD c1 c2 c3 hV
  go_enter Tryz.func129,Tryz.ntmps129
  go_wp2_with fail
  go_at_call 153
  refine Calls.mono hpl ?_
  clear hpl hw1
  rintro x w2 ⟨rfl,n,hw2⟩
  have B2:Below w.heap.size w w2:=by rw [hw2];exact below_drewN' b1 n
  clear hw2
  go_wp2
  go_ret
  exact ⟨rfl,B2⟩
 have p2:(q.kind == 2) = false:=by simpa using o2
 by_cases o3:q.kind = 3
 ·rw [o3,if_neg (by decide),if_neg (by decide),if_neg (by decide),if_neg (by decide),if_pos rfl] at hV
  have p3:(q.kind == 3) = true:=by rw [o3];rfl
  have hpl:=last_any T k w1 hT1 hk
  rw [hV] at hpl
  clear hT hT1 hv hls H o1 o2 o3 hD c1 c2 c3 hV
  go_enter Tryz.func129,Tryz.ntmps129
  go_wp2_with fail
  go_at_call 154
  refine Calls.mono hpl ?_
  clear hpl hw1
  rintro x w2 ⟨rfl,n,hw2⟩
  have B2:Below w.heap.size w w2:=by rw [hw2];exact below_drewN' b1 n
  clear hw2
  go_wp2
  go_ret
  exact ⟨rfl,B2⟩
 have p3:(q.kind == 3) = false:=by simpa using o3
 by_cases o4:q.kind = 4
 ·rw [o4,if_neg (by decide),if_neg (by decide),if_neg (by decide),if_neg (by decide),if_neg (by decide),if_pos rfl] at hV
  have p4:(q.kind == 4) = true:=by rw [o4];rfl
  have hpl:=place_any T k w1 hT1
  have HLS:Hid (∀ X,Below w1.heap.size w1 X → Calls Tryz.prog 154 #[T.p,.int .i64 k] X fun x w' => x = .returned (.bool (Mt.lastV T.es k)) ∧ ∃ n,w' = X.drewN n):=fun X hX => last_any T k X (hT1.next hX) hk
  generalize placeV T.es (k:Int) = P at *
  generalize Mt.lastV T.es k = LV at *
  clear hT hT1 hv hls H o1 o2 o3 o4 hD c1 c2 c3
  by_cases hP:P = 1
  ·rw [decide_eq_true hP,Bool.true_and] at hV
   subst hV
   subst hP
   go_enter Tryz.func129,Tryz.ntmps129
   go_wp2_with fail
   go_at_call 153
   refine Calls.mono hpl ?_
   clear hpl hw1
   rintro x w2 ⟨rfl,n,hw2⟩
   have q2:Below w1.heap.size w1 w2:=by rw [hw2];exact below_drawn w1 n
   have hl2:=HLS.out w2 q2
   clear hw2
   go_wp2_with fail
   go_at_call 154
   refine Calls.mono hl2 ?_
   clear hl2
   rintro x w3 ⟨rfl,m,hw3⟩
   have B3:Below w.heap.size w w3:=by rw [hw3];exact below_drewN' (below_next b1 q2) m
   clear hw3 q2
   go_wp2
   go_ret
   exact ⟨rfl,B3⟩
  ·rw [decide_eq_false hP,Bool.false_and] at hV
   subst hV
   have hPb:(P == 1) = false:=by simpa using hP
   clear hP
   go_enter Tryz.func129,Tryz.ntmps129
   go_wp2_with fail
   go_at_call 153
   refine Calls.mono hpl ?_
   clear hpl hw1
   rintro x w2 ⟨rfl,n,hw2⟩
   have B2:Below w.heap.size w w2:=by rw [hw2];exact below_drewN' b1 n
   clear hw2
   go_wp2
   go_ret
   exact ⟨rfl,B2⟩
 have p4:(q.kind == 4) = false:=by simpa using o4
 by_cases o5:q.kind = 5
 ·rw [o5,if_neg (by decide),if_neg (by decide),if_neg (by decide),if_neg (by decide),if_neg (by decide),if_neg (by decide),if_pos rfl] at hV
  have p5:(q.kind == 5) = true:=by rw [o5];rfl
  have hpl:=children_any T k w1 hT1
  have hV2:(((childrenV T.es (k:Int)).length:Int) == 0) = V:=by
   rw [← hV,Bool.eq_iff_iff]
   simp
  have HLN:Hid (∀ l:List Nat,(Dm.chI l).length = l.length):=fun l => by unfold Dm.chI;simp
  generalize childrenV T.es (k:Int) = C at *
  subst hV2
  clear hT hT1 hv hls H o1 o2 o3 o4 o5 hD c1 c2 c3 hV
  go_enter Tryz.func129,Tryz.ntmps129
  go_wp2_with fail
  go_at_call 155
  refine Calls.mono hpl ?_
  clear hpl hw1
  rintro x w2 ⟨v',rfl,hr,b2⟩
  have B2:=below_next b1 b2
  unfold Dm.IntRow at hr
  rw [HLN.out] at hr
  obtain ⟨p',c',rfl⟩:=owns_form hr
  clear hr b2
  go_wp2
  go_ret
  exact ⟨rfl,B2⟩
 have p5:(q.kind == 5) = false:=by simpa using o5
 by_cases o6:q.kind = 6
 ·rw [o6,if_neg (by decide),if_neg (by decide),if_neg (by decide),if_neg (by decide),if_neg (by decide),if_neg (by decide),if_neg (by decide),if_pos rfl] at hV
  have p6:(q.kind == 6) = true:=by rw [o6];rfl
  have HPL:Hid (∀ X,Below w1.heap.size w1 X → Calls Tryz.prog 153 #[T.p,.int .i64 k] X fun x w' => x = .returned (.int .i64 (placeV T.es k)) ∧ ∃ n,w' = X.drewN n):=fun X hX => place_any T k X (hT1.next hX)
  have hpf:=place_few hT hk
  rw [← row_in] at hV
  have HN:Hid (∀ X,Calls Tryz.prog 156 #[.int .i64 (placeV T.es k),.int .i64 q.a,.int .i64 q.b] X fun e w' => e = .returned (.bool V) ∧ w' = X):=fun X => by
   rw [← hV]
   exact nth_any _ _ _ hpf ha hb X
  have HSt:Hid (∀ X,Below w1.heap.size w1 X → X.cell? ⟨w.heap.size,1,none⟩ = some (.int .i64 q.a) ∧ X.cell? ⟨w.heap.size,2,none⟩ = some (.int .i64 q.b)):=fun X hX => ⟨(blk4 (KP.out.below hX s1)).1.2.1,(blk4 (KP.out.below hX s1)).1.2.2.1⟩
  generalize placeV T.es (k:Int) = P at *
  clear hT hT1 hv hls H o1 o2 o3 o4 o5 o6 hD c1 c2 c3 hV hpf
  go_enter Tryz.func129,Tryz.ntmps129
  go_upto_region 13 with fail
  first | rw [hw1] | skip
  clear hw1
  refine Rg.wpD_begin [0,1,2,3,4,5,6] (fun X => X.cell? ⟨w.heap.size,1,none⟩ = some (.int .i64 q.a) ∧ X.cell? ⟨w.heap.size,2,none⟩ = some (.int .i64 q.b)) (by kernel_rfl) ?_
  have q0:Below w1.heap.size w1 w1.drew:=below_drew (Below.refl _ _)
  have HeldS:=HSt.out _ q0
  refine Rg.ld 0 HeldS ?_
  simp only [Act.put,Rg.sA,Rg.sB,Rg.sC]
  refine Rg.ld 1 HeldS ?_
  simp only [Act.put,Rg.sA,Rg.sB,Rg.sC]
  refine Rg.ld 3 HeldS ?_
  simp only [Act.put,Rg.sA,Rg.sB,Rg.sC]
  refine Rg.ld 4 HeldS ?_
  simp only [Act.put,Rg.sA,Rg.sB,Rg.sC]
  refine Rg.ld 5 HeldS ?_
  simp only [Act.put,Rg.sA,Rg.sB,Rg.sC]
  refine Rg.ld 6 HeldS ?_
  simp only [Act.put,Rg.sA,Rg.sB,Rg.sC]
  refine Rg.dd 2 fun K hK => ?_
  go_simp
  go_at_call 153
  refine Calls.mono (HPL.out _ q0) ?_
  rintro x w2 ⟨rfl,n,hw2⟩
  have q2:Below w1.heap.size w1 w2:=by rw [hw2];exact below_drewN' q0 n
  clear hw2
  refine hK _ _ (fun _ => HSt.out _ q2) ?_
  clear hK K HeldS
  refine Rg.dd 7 fun K hK => ?_
  go_simp
  go_at_call 156
  refine Calls.mono (HN.out _) ?_
  rintro x w3 ⟨rfl,hww⟩
  obtain rfl:=hww
  refine hK _ _ (fun h => absurd h (by decide)) ?_
  clear hK K
  refine Rg.pu 8 ?_
  simp only [Act.put,Rg.sA,Rg.sB,Rg.sC]
  refine Rg.wpD_done (by kernel_rfl) ?_
  have B3:=below_next b1 q2
  clear q0 q2 HN HPL HSt
  go_wp2
  go_ret
  exact ⟨rfl,B3⟩
 have p6:(q.kind == 6) = false:=by simpa using o6
 by_cases hl:isList q = true
 ·obtain ⟨d',rfl,hdp,hok⟩:=hls hl
  have hany:=H d' rfl T q.list _ k w1 hT1 hk (hv.next b1) hdp hok
  have hD1:IntKind.i64.wrap (D + 1) = 8 - (d':Int):=by rw [IntKind.wrap_i64];omega
  have c0':∀ X,Below w1.heap.size w1 X → X.cell? ⟨w.heap.size,0,none⟩ = some (.int .i64 q.kind):=fun X hX => (blk4 (KP.out.below hX s1)).1.1
  have HC0:Hid (∀ X,Below w1.heap.size w1 X → X.cell? ⟨w.heap.size,0,none⟩ = some (.int .i64 q.kind)):=c0'
  generalize Mt.anyV T.es (d' + 1) q.list k = AV at *
  clear hT hT1 hv hls H o1 o2 o3 o4 o5 o6 hD c1 c2 hdp hok c0'
  by_cases o7:q.kind = 7
  ·rw [o7,if_pos rfl] at hV
   have p7:(q.kind == 7) = true:=by rw [o7];rfl
   have p8:(q.kind == 8) = false:=by rw [o7];rfl
   have hV2:(AV == false) = V:=by rw [← hV];cases AV <;> rfl
   clear o7 hV
   go_enter Tryz.func129,Tryz.ntmps129
   go_wp2_with fail
   go_at_call 157
   refine Calls.mono hany ?_
   clear hany hw1 c0 c3
   rintro x w2 ⟨rfl,b2⟩
   have c0:=HC0.out w2 b2
   have B2:=below_next b1 b2
   cases AV <;> subst hV2 <;> go_wp2 <;> go_ret <;> exact ⟨rfl,B2⟩
  ·have p7:(q.kind == 7) = false:=by simpa using o7
   have o8:q.kind = 8:=by
    unfold isList at hl
    simp [o7] at hl
    exact hl
   rw [o8,if_neg (by decide),if_pos rfl] at hV
   have p8:(q.kind == 8) = true:=by rw [o8];rfl
   have hV2:(AV == true) = V:=by rw [← hV];cases AV <;> rfl
   clear o7 o8 hV hl
   go_enter Tryz.func129,Tryz.ntmps129
   go_wp2_with fail
   go_at_call 157
   refine Calls.mono hany ?_
   clear hany hw1 c0 c3
   rintro x w2 ⟨rfl,b2⟩
   have c0:=HC0.out w2 b2
   have B2:=below_next b1 b2
   cases AV <;> subst hV2 <;> go_wp2 <;> go_ret <;> exact ⟨rfl,B2⟩
 ·have o7:¬ q.kind = 7:=fun h => hl (by unfold isList;rw [h];rfl)
  have o8:¬ q.kind = 8:=fun h => hl (by unfold isList;rw [h];rfl)
  rw [if_neg o7,if_neg o8,if_neg o1,if_neg o2,if_neg o3,if_neg o4,if_neg o5,if_neg o6] at hV
  subst hV
  have p7:(q.kind == 7) = false:=by simpa using o7
  have p8:(q.kind == 8) = false:=by simpa using o8
  clear hT hT1 hv hls H o1 o2 o3 o4 o5 o6 o7 o8 hl hD c1 c2 c3
  go_enter Tryz.func129,Tryz.ntmps129
  go_wp2
  go_ret
  exact ⟨rfl,b1⟩
end Go.Proofs.YtnemagmakgiheaaGreat.Rf
/- The document's own matching (tapestrierref9): compounds, given what lists answer. -/
namespace Go.Proofs.YtnemagmakgiheaaGreat.Rf
open Go Go.RowKit Go.Shelf Sl Wg Bk Go.Proofs.YtnemagmakgiheaaGreat.Tre
open Dm (El parentV placeV childrenV nodeV)
/-! ### plain facts -/
theorem words_eq:∀ (l acc:List UInt8),wordsV acc l = Mt.wordsV acc l
 | [],_ => rfl
 | c :: l,acc => by
  rw [wordsV,Mt.wordsV,words_eq l [],words_eq l (acc ++ [c])]
  rfl
theorem infix_eq (t:List UInt8):∀ l,infixV t l = Mt.infixV t l
 | [] => rfl
 | c :: l => by rw [infixV,Mt.infixV,infix_eq t l]
theorem text_eq (s:ByteArray) (a:Tre.At):textV s a.op a.text = Mt.textV s a:=by
 unfold textV Mt.textV
 rw [words_eq,infix_eq]
 rfl
theorem attr_eq (n:Dm.Nd) (a:Tre.At):attrV n.ats a.name a.op a.text = Mt.attrV n a:=by
 unfold attrV Mt.attrV
 cases n.ats.find? (fun p => decide (p.1 = a.name)) with
 | none => rfl
 | some p => exact text_eq p.2 a
theorem pair_of_owns {b:Nat} {W:World} {v:Value} {F:List (ByteArray × ByteArray)} (h:Dm.PairRow b W v F):RowT 2 PairC W.heap.size W v F:=by
 rcases h.2 with ⟨rfl,h0⟩ | ⟨g,cap,cur,rfl,hb,hg,h1,h2,h3,h4⟩
 ·have:F = []:=List.eq_nil_of_length_eq_zero h0
  subst this
  exact .inl ⟨rfl,_,_,rfl⟩
 ·refine .inr ⟨g,0,cap,rfl,h1,h2,(Array.getElem?_eq_some_iff.1 hg).1,fun j x hx => ⟨[.string x.1,.string x.2],rfl,rfl,fun i u hu => ?_⟩⟩
  have hj:j < F.length:=(List.getElem?_eq_some_iff.1 hx).1
  have hi:i < 2:=(List.getElem?_eq_some_iff.1 hu).1
  have h5:(F.flatMap Dm.paCells)[j * 2 + i]? = some u:=by
   rw [List.flatMap_def,flatten_at (sz:=2) (F.map Dm.paCells) j (Dm.paCells x) (fun c hc => by obtain ⟨y,_,rfl⟩:=List.mem_map.1 hc;rfl) (by rw [List.getElem?_map,hx];rfl) i hi]
   exact hu
  rw [← h4,List.getElem?_take_of_lt (by omega),Array.getElem?_toList] at h5
  simp [World.cell?,hg,h5]
theorem ls_of {d:Nat} {c:Cp} (hdp:deepC d c = false) (hok:okC d c) {q:Ps} (hq:q ∈ c.pss):LsOk d q:=by
 intro hl
 cases d with
 | zero =>
  have h1:c.pss.any isList = false:=hdp
  rw [List.any_eq_false] at h1
  exact absurd hl (h1 q hq)
 | succ d =>
  have h1:c.pss.any (fun q => isList q && q.list.any (deepS d)) = false:=hdp
  rw [List.any_eq_false] at h1
  have h2:=h1 q hq
  rw [hl,Bool.true_and,Bool.not_eq_true,List.any_eq_false] at h2
  exact ⟨d,rfl,fun s hs => by simpa using h2 s hs,fun s hs => hok.2 q hq s hs⟩
theorem all_snoc {α:Type} (g:α → Bool) {l:List α} {k:Nat} {x:α} (h:l[k]? = some x):(l.take (k + 1)).all g = ((l.take k).all g && g x):=by
 obtain ⟨hk,rfl⟩:=List.getElem?_eq_some_iff.1 h
 rw [List.take_succ_eq_append_getElem hk,List.all_append]
 simp
theorem all_no {α:Type} (g:α → Bool) {l:List α} {k:Nat} {x:α} (h:l[k]? = some x) (hx:g x = false):l.all g = false:=by
 rw [List.all_eq_false]
 exact ⟨x,List.mem_of_getElem? h,by rw [hx];exact Bool.false_ne_true⟩
def CompOK (d:Nat):Prop:=∀ (T:TE) (c:Cp) (vi vk va vp:Value) (k:Nat) (w:World),T.At w → k < T.es.length → CpC (SelsR d w.heap.size w) w.heap.size w [.string c.tag,vi,vk,va,vp] c → deepC d c = false → okC d c →
 Calls Tryz.prog 103 #[T.p,.int .i64 k,.agg #[.string c.tag,vi,vk,va,vp],.int .i64 (8 - (d:Int))] w fun e w' => e = .returned (.bool (Mt.compV (Mt.anyV T.es d) T.es c k)) ∧ Below w.heap.size w w'
set_option maxHeartbeats 4000000 in
theorem comp_of (d:Nat) (hd:d ≤ 8) (H:∀ d',d = d' + 1 → AnyOK d'):CompOK d:=by
 intro T c vi vk va vp k w hT hk hv hdp hok
 obtain ⟨i',k',a',p',e,r1,r2,r3,r4⟩:=hv
 simp only [List.cons.injEq,and_true,true_and] at e
 obtain ⟨rfl,rfl,rfl,rfl⟩:=e
 obtain ⟨q1,cp1,rfl⟩:=r1.len
 obtain ⟨q2,cp2,rfl⟩:=r2.len
 obtain ⟨q3,cp3,rfl⟩:=r3.len
 obtain ⟨q4,cp4,rfl⟩:=r4.len
 have l1:=r1.short
 have l2:=r2.short
 have l3:=r3.short
 have l4:=r4.short
 unfold maxLen at l1 l2 l3 l4
 -- the element's node
 obtain ⟨nk,hnk⟩:∃ n,T.ns[k]? = some n:=⟨_,List.getElem?_eq_getElem (by rw [hT.tells.len.1];exact hk)⟩
 obtain ⟨qk,hqk,hqnk,_⟩:=hT.tells.at hnk
 have hnode:nodeV T.es (k:Int) = nk.nd:=by unfold nodeV;rw [Dm.elAt_yes hqk,← hqnk];rfl
 have hsm:=hT.small nk (List.mem_of_getElem? hnk)
 have hcr:=row_of_owns (hT.tr.cls nk (List.mem_of_getElem? hnk))
 have har:=pair_of_owns (hT.tr.ats nk (List.mem_of_getElem? hnk))
 obtain ⟨V,hV⟩:∃ V,Mt.compV (Mt.anyV T.es d) T.es c k = V:=⟨_,rfl⟩
 rw [hV]
 have HV:Hid (V = ((((decide (c.tag = ⟨#[]⟩) || decide (c.tag = nk.nd.tag)) && c.ids.all (fun i => decide (i ≠ ⟨#[]⟩) && decide (i = nk.nd.id))) && c.classes.all (fun x => mB x nk.nd.cls) && c.attrs.all (fun a => attrV nk.nd.ats a.name a.op a.text)) && c.pss.all (fun p => Mt.pseudoV (Mt.anyV T.es d) T.es p k))):=by
  show _ = _
  rw [← hV]
  unfold Mt.compV Mt.namedV
  rw [hnode]
  congr 2
  congr 1
  funext a
  exact (attr_eq nk.nd a).symm
 obtain ⟨w1,hw1⟩:∃ w1,w.alloc (.cells #[.string c.tag,.slice q1 c.ids.length cp1,.slice q2 c.classes.length cp2,.slice q3 c.attrs.length cp3,.slice q4 c.pss.length cp4] 45) = w1:=⟨_,rfl⟩
 have b1:Below w.heap.size w w1:=by rw [← hw1];exact (Below.refl _ w).alloc (Nat.le_refl _) _
 have k1:Blk w1 w.heap.size 45 [.string c.tag,.slice q1 c.ids.length cp1,.slice q2 c.classes.length cp2,.slice q3 c.attrs.length cp3,.slice q4 c.pss.length cp4]:=by rw [← hw1];exact Blk.new w _ _
 have s1:w1.heap.size = w.heap.size + 1:=by rw [← hw1];exact World.size_alloc _ _
 have hT1:=hT.next b1
 have his:=is_any T (k:Int) w1 hT1
 rw [decide_eq_true ⟨by omega,by omega⟩] at his
 obtain ⟨g,cg,hg,hr1,hr2,n0,n1,n2,n3,n4⟩:=hT1.tr.get hnk
 have c0:=(Dm.blk2 hT1.tr.blk).1.1
 rw [hg] at c0
 unfold maxLen at hr2
 rw [hT.tells.len.1] at c0 hr1
 obtain ⟨⟨par,ntag,nid,ncls,nats⟩,ncv,nav⟩:=nk
 simp only at n0 n1 n2 n3 n4 hsm hcr har HV
 obtain ⟨q5,cp5,rfl⟩:=hcr.len
 obtain ⟨q6,cp6,rfl⟩:=har.len
 obtain ⟨w2,hw2⟩:∃ w2,w1.alloc (.cells #[.int .i64 par,.string ntag,.string nid,.slice q5 ncls.length cp5,.slice q6 nats.length cp6] 77) = w2:=⟨_,rfl⟩
 have b2:Below w1.heap.size w1 w2:=by rw [← hw2];exact (Below.refl _ w1).alloc (Nat.le_refl _) _
 have k2:Blk w2 (w.heap.size + 1) 77 [.int .i64 par,.string ntag,.string nid,.slice q5 ncls.length cp5,.slice q6 nats.length cp6]:=by rw [← hw2,← s1];exact Blk.new w1 _ _
 have B2:=below_next b1 b2
 have KC:Hid (Blk w2 w.heap.size 45 [.string c.tag,.slice q1 c.ids.length cp1,.slice q2 c.classes.length cp2,.slice q3 c.attrs.length cp3,.slice q4 c.pss.length cp4]):=k1.below b2 k1.lt
 have KN:Hid (Blk w2 (w.heap.size + 1) 77 [.int .i64 par,.string ntag,.string nid,.slice q5 ncls.length cp5,.slice q6 nats.length cp6]):=k2
 have HR:Hid (_ ∧ _ ∧ _ ∧ _):=⟨r1,r2,r3,r4⟩
 have HN:Hid (_ ∧ _):=⟨hcr,har⟩
 have HT:Hid (T.At w):=hT
 have HD:Hid (deepC d c = false ∧ okC d c):=⟨hdp,hok⟩
 have HH:Hid (∀ d',d = d' + 1 → AnyOK d'):=H
 have HSM:Hid (∀ p ∈ nats,p.2.size ≤ 1099511627776):=hsm
 have hkl:(k:Int) < (T.es.length:Int):=by omega
 have d0:=(blk5 KC.out).1.1
 have e1:=(blk5 k2).1.2.1
 obtain ⟨D,hD⟩:∃ D:Int,8 - (d:Int) = D:=⟨_,rfl⟩
 have HDD:Hid (8 - (d:Int) = D):=hD
 rw [hD]
 clear hV r1 r2 r3 r4 hcr har k1 k2 hT hT1 hdp hok H hsm hnode hnk hqk hqnk hD
 go_enter Tryz.func103,Tryz.ntmps103
 go_wp2_with fail
 go_at_call 74
 refine Calls.mono his ?_
 clear his
 rintro x wx ⟨rfl,hww⟩
 obtain rfl:=hww.symm
 clear hww hw1
 go_upto_region 4 with fail
 first | rw [hw2] | skip
 clear hw2 c0 n0 n1 n2 n3 n4 hg
 obtain ⟨tq,htq⟩:∃ t,decide (c.tag ≠ ⟨#[]⟩ ∧ c.tag ≠ ntag) = t:=⟨_,rfl⟩
 have HTQ:Hid (decide (c.tag ≠ ⟨#[]⟩ ∧ c.tag ≠ ntag) = tq):=htq
 clear htq
 go_cut [36] (fun x wx => x = .bool tq ∧ w2 = wx)
 case first =>
  by_cases h0:c.tag = ⟨#[]⟩
  ·obtain rfl:false = tq:=by rw [← HTQ.out];exact (decide_eq_false (fun h => h.1 h0)).symm
   have hemp:c.tag.toList.isEmpty = true:=by rw [h0,ByteArray.toList_eq];rfl
   clear h0
   go_wp2
   go_meet
   exact ⟨rfl,rfl⟩
  ·have hemp:c.tag.toList.isEmpty = false:=by rw [eqlEmpty];exact decide_eq_false h0
   by_cases h1:c.tag = ntag
   ·obtain rfl:false = tq:=by rw [← HTQ.out];exact (decide_eq_false (fun h => h.2 h1)).symm
    have hb:(!c.tag.toList == ntag.toList) = false:=by rw [h1];simp
    clear h0 h1
    go_wp2
    go_meet
    exact ⟨rfl,rfl⟩
   ·obtain rfl:true = tq:=by rw [← HTQ.out];exact (decide_eq_true ⟨h0,h1⟩).symm
    have hb:(!c.tag.toList == ntag.toList) = true:=by rw [beq_false h1];rfl
    clear h0 h1
    go_wp2
    go_meet
    exact ⟨rfl,rfl⟩
 case rest =>
 obtain ⟨rfl,rfl⟩:=hcut
 clear d0 e1
 cases tq with
 | true =>
  obtain rfl:V = false:=by
   have h:=of_decide_eq_true HTQ.out
   rw [HV.out,decide_eq_false h.1,decide_eq_false h.2]
   simp
  go_wp2
  go_ret
  exact ⟨rfl,B2⟩
 | false =>
 have HV1:Hid (V = ((c.ids.all (fun i => decide (i ≠ ⟨#[]⟩) && decide (i = nid)) && c.classes.all (fun x => mB x ncls) && c.attrs.all (fun a => attrV nats a.name a.op a.text)) && c.pss.all (fun p => Mt.pseudoV (Mt.anyV T.es d) T.es p k))):=by
  show _ = _
  have h:=of_decide_eq_false HTQ.out
  have h2:(decide (c.tag = ⟨#[]⟩) || decide (c.tag = ntag)) = true:=by
   rw [Bool.or_eq_true,decide_eq_true_eq,decide_eq_true_eq]
   by_cases h0:c.tag = ⟨#[]⟩
   ·exact .inl h0
   ·exact .inr (Classical.byContradiction fun h1 => h ⟨h0,h1⟩)
  rw [HV.out,h2,Bool.true_and]
 clear HV HTQ
 go_wp2
 go_loopw [10] (fun x wr => ∃ i:Nat,x = .int .i64 i ∧ i ≤ c.ids.length ∧ Hid ((c.ids.take i).all (fun i => decide (i ≠ ⟨#[]⟩) && decide (i = nid)) = true) ∧ Below w2.heap.size w2 wr) (fun x _ => c.ids.length - (intOf x).toNat)
 case atStart => exact ⟨0,rfl,Nat.zero_le _,rfl,Below.refl _ _⟩
 case round =>
  obtain ⟨i,rfl,hi,HA,hb⟩:=hrel
  have d1:=(blk5 (KC.out.below hb KC.out.lt)).1.2.1
  have e2:=(blk5 (KN.out.below hb KN.out.lt)).1.2.2.1
  have hbw:=below_next B2 hb
  by_cases hlt:i < c.ids.length
  ·have hii:(i:Int) < (c.ids.length:Int):=by omega
   obtain ⟨y,hy⟩:∃ y,c.ids[i]? = some y:=⟨_,List.getElem?_eq_getElem hlt⟩
   obtain ⟨bk,off,cs,hq,hbn,hc1,hc2,_,hTt,hcell⟩:=RowT.get HR.out.1 hy
   subst hq
   cases hTt
   have y0:wr.cell? ⟨bk,off + i,none⟩ = some (.string y):=(hbw.cell (p:=⟨bk,off + i,none⟩) hbn).trans (by simpa using hcell 0 _ rfl)
   have hi1:(i:Int) + 1 ≤ 9223372036854775807:=by omega
   have HB:Hid (i + 1 ≤ c.ids.length):=hlt
   by_cases hyn:y = nid
   ·by_cases hne:nid = ⟨#[]⟩
    ·obtain rfl:V = false:=by
      rw [HV1.out,all_no _ hy (by rw [hyn,hne];simp)]
      simp
     have hyb:(y.toList == nid.toList) = true:=by rw [hyn];simp
     have hemp:nid.toList.isEmpty = true:=by rw [hne,ByteArray.toList_eq];rfl
     have hem2:(nid.toList == []) = true:=by rw [hne,ByteArray.toList_eq];rfl
     clear hcell hy hyn hne HV1 HA hlt hi hc1 hc2
     go_wp2_with fail
     go_quiet (fail)
     go_wp2
     go_ret
     exact ⟨rfl,below_drewN' hbw _⟩
    ·have HA1:Hid ((c.ids.take (i + 1)).all (fun i => decide (i ≠ ⟨#[]⟩) && decide (i = nid)) = true):=by
      show _ = _
      rw [all_snoc _ hy,HA.out,hyn,decide_eq_true hne]
      simp
     have hyb:(y.toList == nid.toList) = true:=by rw [hyn];simp
     have hemp:nid.toList.isEmpty = false:=by rw [eqlEmpty];exact decide_eq_false hne
     have hem2:=bytes_ne hne
     clear hcell hy hyn hne HA hlt hi hc1 hc2
     go_wp2_with fail
     go_quiet (fail)
     go_wp2
     exact ⟨⟨i + 1,by go_num,HB.out,HA1,below_drewN' hb _⟩,by have:=HB.out;simp [intOf];omega⟩
   ·obtain rfl:V = false:=by
     rw [HV1.out,all_no _ hy (by rw [decide_eq_false hyn,Bool.and_false])]
     simp
    have hyb:=beq_false hyn
    clear hcell hy hyn HV1 HA hlt hi hc1 hc2
    go_wp2_with fail
    go_quiet (fail)
    go_wp2
    go_ret
    exact ⟨rfl,below_drewN' hbw _⟩
  ·have hii:¬ (i:Int) < (c.ids.length:Int):=by omega
   have HV2:Hid (V = ((c.classes.all (fun x => mB x ncls) && c.attrs.all (fun a => attrV nats a.name a.op a.text)) && c.pss.all (fun p => Mt.pseudoV (Mt.anyV T.es d) T.es p k))):=by
    show _ = _
    have h:=HA.out
    rw [List.take_of_length_le (by omega)] at h
    rw [HV1.out,h,Bool.true_and]
   clear HV1 HA hi hlt
   obtain ⟨wa,hwa⟩:∃ wa,wa = wr:=⟨_,rfl⟩
   subst hwa
   have HBA:Hid (Below w2.heap.size w2 wa):=hb
   go_wp2
   clear d1 e2 hb hbw hii
   go_loopw [11] (fun x wr => ∃ i:Nat,x = .int .i64 i ∧ i ≤ c.classes.length ∧ Hid ((c.classes.take i).all (fun x => mB x ncls) = true) ∧ Below w2.heap.size w2 wr) (fun x _ => c.classes.length - (intOf x).toNat)
   case atStart => exact ⟨0,rfl,Nat.zero_le _,rfl,HBA.out⟩
   case round =>
    obtain ⟨i,rfl,hi,HA,hb⟩:=hrel
    have d2:=(blk5 (KC.out.below hb KC.out.lt)).1.2.2.1
    have e3:=(blk5 (KN.out.below hb KN.out.lt)).1.2.2.2.1
    have hbw:=below_next B2 hb
    by_cases hlt:i < c.classes.length
    ·have hii:(i:Int) < (c.classes.length:Int):=by omega
     obtain ⟨y,hy⟩:∃ y,c.classes[i]? = some y:=⟨_,List.getElem?_eq_getElem hlt⟩
     obtain ⟨bk,off,cs,hq,hbn,hc1,hc2,_,hTt,hcell⟩:=RowT.get HR.out.2.1 hy
     subst hq
     cases hTt
     have y0:wr.cell? ⟨bk,off + i,none⟩ = some (.string y):=(hbw.cell (p:=⟨bk,off + i,none⟩) hbn).trans (by simpa using hcell 0 _ rfl)
     have hi1:(i:Int) + 1 ≤ 9223372036854775807:=by omega
     have HB:Hid (i + 1 ≤ c.classes.length):=hlt
     have hrc:RowT 1 StrC wr.heap.size wr (.slice q5 ncls.length cp5) ncls:=(HN.out.1.below hbw (fun _ _ h => h)).mono hbw.size (fun _ _ h => h)
     have HC:Hid (∀ n,Calls Tryz.prog 127 #[.slice q5 ncls.length cp5,.string y] (wr.drewN n) fun e w' => e = .returned (.bool (mB y ncls)) ∧ w' = wr.drewN n):=fun n => has_any _ ncls y (wr.drewN n) hrc
     cases hm:mB y ncls with
     | true =>
      rw [hm] at HC
      have HA1:Hid ((c.classes.take (i + 1)).all (fun x => mB x ncls) = true):=by
       show _ = _
       rw [all_snoc _ hy,HA.out,hm]
       rfl
      clear hcell hy HA hlt hi hc1 hc2 hrc hm
      go_wp2_with fail
      go_quiet ((go_at_call 127;exact Calls.quiet_of_same (HC.out _)))
      go_wp2
      exact ⟨⟨i + 1,by go_num,HB.out,HA1,below_drewN' hb _⟩,by have:=HB.out;simp [intOf];omega⟩
     | false =>
      rw [hm] at HC
      obtain rfl:V = false:=by
       rw [HV2.out,all_no _ hy hm]
       simp
      clear hcell hy HA hlt hi hc1 hc2 hrc hm HV2
      go_wp2_with fail
      go_quiet ((go_at_call 127;exact Calls.quiet_of_same (HC.out _)))
      go_wp2
      go_ret
      exact ⟨rfl,below_drewN' hbw _⟩
    ·have hii:¬ (i:Int) < (c.classes.length:Int):=by omega
     have HV3:Hid (V = (c.attrs.all (fun a => attrV nats a.name a.op a.text) && c.pss.all (fun p => Mt.pseudoV (Mt.anyV T.es d) T.es p k))):=by
      show _ = _
      have h:=HA.out
      rw [List.take_of_length_le (by omega)] at h
      rw [HV2.out,h,Bool.true_and]
     clear HV2 HA hi hlt
     obtain ⟨wb,hwb⟩:∃ wb,wb = wr:=⟨_,rfl⟩
     subst hwb
     have HBB:Hid (Below w2.heap.size w2 wb):=hb
     go_wp2
     clear d2 e3 hb hbw hii HBA
     go_loopw [12] (fun x wr => ∃ i:Nat,x = .int .i64 i ∧ i ≤ c.attrs.length ∧ Hid ((c.attrs.take i).all (fun a => attrV nats a.name a.op a.text) = true) ∧ Below w2.heap.size w2 wr) (fun x _ => c.attrs.length - (intOf x).toNat)
     case atStart => exact ⟨0,rfl,Nat.zero_le _,rfl,HBB.out⟩
     case round =>
      obtain ⟨i,rfl,hi,HA,hb⟩:=hrel
      have d3:=(blk5 (KC.out.below hb KC.out.lt)).1.2.2.2.1
      have hbw:=below_next B2 hb
      by_cases hlt:i < c.attrs.length
      ·have hii:(i:Int) < (c.attrs.length:Int):=by omega
       obtain ⟨y,hy⟩:∃ y,c.attrs[i]? = some y:=⟨_,List.getElem?_eq_getElem hlt⟩
       obtain ⟨bk,off,cs,hq,hbn,hc1,hc2,_,hTt,hcell⟩:=RowT.get HR.out.2.2.1 hy
       subst hq
       cases hTt
       have y0:=hcell 0 _ rfl
       have y1:=hcell 1 _ rfl
       have y2:=hcell 2 _ rfl
       simp only [Nat.add_zero] at y0
       have hi1:(i:Int) + 1 ≤ 9223372036854775807:=by omega
       have HB:Hid (i + 1 ≤ c.attrs.length):=hlt
       have HSt:Hid (∀ X,Below wr.heap.size wr X → (X.cell? ⟨w.heap.size + 1,0,none⟩ = some (.int .i64 par) ∧ X.cell? ⟨w.heap.size + 1,1,none⟩ = some (.string ntag) ∧ X.cell? ⟨w.heap.size + 1,2,none⟩ = some (.string nid) ∧ X.cell? ⟨w.heap.size + 1,3,none⟩ = some (.slice q5 ncls.length cp5) ∧ X.cell? ⟨w.heap.size + 1,4,none⟩ = some (.slice q6 nats.length cp6)) ∧ X.cell? ⟨w.heap.size,3,none⟩ = some (.slice (some ⟨bk,off,none⟩) c.attrs.length cp3) ∧ X.cell? ⟨bk,off + i * 3,none⟩ = some (.string y.name) ∧ X.cell? ⟨bk,off + i * 3 + 1,none⟩ = some (.int .i64 y.op) ∧ X.cell? ⟨bk,off + i * 3 + 2,none⟩ = some (.string y.text)):=fun X hX => by
        have h1:=below_next hb hX
        have h2:=below_next hbw hX
        exact ⟨(blk5 (KN.out.below h1 KN.out.lt)).1,(blk5 (KC.out.below h1 KC.out.lt)).1.2.2.2.1,(h2.cell (p:=⟨bk,_,none⟩) hbn).trans y0,(h2.cell (p:=⟨bk,_,none⟩) hbn).trans y1,(h2.cell (p:=⟨bk,_,none⟩) hbn).trans y2⟩
       have hts:y.text.size ≤ 1099511627776:=HD.out.2.1.1 y (List.mem_of_getElem? hy)
       have HAT:Hid (∀ X,Below wr.heap.size wr X → Calls Tryz.prog 128 #[.agg #[.int .i64 par,.string ntag,.string nid,.slice q5 ncls.length cp5,.slice q6 nats.length cp6],.agg #[.string y.name,.int .i64 y.op,.string y.text]] X fun e w' => e = .returned (.bool (attrV nats y.name y.op y.text)) ∧ Below X.heap.size X w'):=fun X hX => by
        have h2:=below_next hbw hX
        exact attr_any par ntag nid _ _ q5 ncls.length cp5 rfl nats y.name y.op y.text X ((HN.out.2.below h2 (fun _ _ h => h)).mono h2.size (fun _ _ h => h)) HSM.out hts
       have HY:Hid (c.attrs[i]? = some y):=hy
       generalize hAV:attrV nats y.name y.op y.text = AV at HAT
       have HAV:Hid (attrV nats y.name y.op y.text = AV):=hAV
       clear hcell hy hlt hi hc1 hc2 y0 y1 y2 hAV hts
       go_upto_region 19 with fail
       refine Rg.wpD_begin [0,1,2,3,4,5] (fun X => (X.cell? ⟨w.heap.size + 1,0,none⟩ = some (.int .i64 par) ∧ X.cell? ⟨w.heap.size + 1,1,none⟩ = some (.string ntag) ∧ X.cell? ⟨w.heap.size + 1,2,none⟩ = some (.string nid) ∧ X.cell? ⟨w.heap.size + 1,3,none⟩ = some (.slice q5 ncls.length cp5) ∧ X.cell? ⟨w.heap.size + 1,4,none⟩ = some (.slice q6 nats.length cp6)) ∧ X.cell? ⟨w.heap.size,3,none⟩ = some (.slice (some ⟨bk,off,none⟩) c.attrs.length cp3) ∧ X.cell? ⟨bk,off + i * 3,none⟩ = some (.string y.name) ∧ X.cell? ⟨bk,off + i * 3 + 1,none⟩ = some (.int .i64 y.op) ∧ X.cell? ⟨bk,off + i * 3 + 2,none⟩ = some (.string y.text)) (by kernel_rfl) ?_
       have q0:Below wr.heap.size wr wr.drew:=below_drew (Below.refl _ _)
       have HeldS:=HSt.out _ q0
       refine Rg.ld 0 HeldS ?_
       simp only [Act.put,Rg.sA,Rg.sB,Rg.sC]
       refine Rg.ld 1 HeldS ?_
       simp only [Act.put,Rg.sA,Rg.sB,Rg.sC]
       refine Rg.ld 2 HeldS ?_
       simp only [Act.put,Rg.sA,Rg.sB,Rg.sC]
       refine Rg.ld 3 HeldS ?_
       simp only [Act.put,Rg.sA,Rg.sB,Rg.sC]
       refine Rg.ld 4 HeldS ?_
       simp only [Act.put,Rg.sA,Rg.sB,Rg.sC]
       refine Rg.ld 5 HeldS ?_
       simp only [Act.put,Rg.sA,Rg.sB,Rg.sC]
       refine Rg.dd 6 fun K hK => ?_
       go_simp
       go_at_call 128
       refine Calls.mono (HAT.out _ q0) ?_
       rintro x w4 ⟨rfl,b4⟩
       have q4':=below_next q0 b4
       refine hK _ _ (fun h => absurd h (by decide)) ?_
       clear hK K HeldS
       refine Rg.pu 7 ?_
       simp only [Act.put,Rg.sA,Rg.sB,Rg.sC]
       refine Rg.wpD_done (by kernel_rfl) ?_
       have hb4:=below_next hb q4'
       have hbw4:=below_next hbw q4'
       clear q0 b4 q4' HSt HAT d3
       cases AV with
       | true =>
        have HA1:Hid ((c.attrs.take (i + 1)).all (fun a => attrV nats a.name a.op a.text) = true):=by
         show _ = _
         rw [all_snoc _ HY.out,HA.out,HAV.out]
         rfl
        clear HA HAV HY
        go_wp2
        exact ⟨⟨i + 1,by go_num,HB.out,HA1,hb4⟩,by have:=HB.out;simp [intOf];omega⟩
       | false =>
        obtain rfl:V = false:=by
         rw [HV3.out,all_no (fun a => attrV nats a.name a.op a.text) HY.out HAV.out]
         simp
        clear HA HAV HY HV3
        go_wp2
        go_ret
        exact ⟨rfl,hbw4⟩
      ·have hii:¬ (i:Int) < (c.attrs.length:Int):=by omega
       have HV4:Hid (V = c.pss.all (fun p => Mt.pseudoV (Mt.anyV T.es d) T.es p k)):=by
        show _ = _
        have h:=HA.out
        rw [List.take_of_length_le (by omega)] at h
        rw [HV3.out,h,Bool.true_and]
       clear HV3 HA hi hlt
       obtain ⟨wd,hwd⟩:∃ wd,wd = wr:=⟨_,rfl⟩
       subst hwd
       have HBD:Hid (Below w2.heap.size w2 wd):=hb
       go_wp2
       clear d3 hb hbw hii HBB
       go_loopw [14] (fun x wr => ∃ i:Nat,x = .int .i64 i ∧ i ≤ c.pss.length ∧ Hid ((c.pss.take i).all (fun p => Mt.pseudoV (Mt.anyV T.es d) T.es p k) = true) ∧ Below w2.heap.size w2 wr) (fun x _ => c.pss.length - (intOf x).toNat)
       case atStart => exact ⟨0,rfl,Nat.zero_le _,rfl,HBD.out⟩
       case round =>
        obtain ⟨i,rfl,hi,HA,hb⟩:=hrel
        have d4:=(blk5 (KC.out.below hb KC.out.lt)).1.2.2.2.2
        have hbw:=below_next B2 hb
        by_cases hlt:i < c.pss.length
        ·have hii:(i:Int) < (c.pss.length:Int):=by omega
         obtain ⟨y,hy⟩:∃ y,c.pss[i]? = some y:=⟨_,List.getElem?_eq_getElem hlt⟩
         obtain ⟨bk,off,lv,hq,hbn,hc1,hc2,hQ,⟨u0,u1,u2,u3⟩⟩:=pss_get HR.out.2.2.2 hy
         subst hq
         have v0:=(hbw.cell (p:=⟨bk,off + i * 4,none⟩) hbn).trans u0
         have v1:=(hbw.cell (p:=⟨bk,off + i * 4 + 1,none⟩) hbn).trans u1
         have v2:=(hbw.cell (p:=⟨bk,off + i * 4 + 2,none⟩) hbn).trans u2
         have v3:=(hbw.cell (p:=⟨bk,off + i * 4 + 3,none⟩) hbn).trans u3
         have hym:=List.mem_of_getElem? hy
         obtain ⟨ha1,ha2⟩:=HD.out.2.1.2 y hym
         have hcall:=pseudo_any d hd HH.out T y lv k wr (HT.out.next hbw) hk ((hQ.below d hbw).mono d hbw.size) (ls_of HD.out.1 HD.out.2 hym) ha1 ha2
         rw [HDD.out] at hcall
         obtain ⟨qy,my,cy,rfl⟩:=hQ.form
         have hi1:(i:Int) + 1 ≤ 9223372036854775807:=by omega
         have HB:Hid (i + 1 ≤ c.pss.length):=hlt
         have HY:Hid (c.pss[i]? = some y):=hy
         generalize hAV:Mt.pseudoV (Mt.anyV T.es d) T.es y k = AV at hcall
         have HAV:Hid (Mt.pseudoV (Mt.anyV T.es d) T.es y k = AV):=hAV
         clear hy hlt hi hc1 hc2 hQ u0 u1 u2 u3 hAV hym ha1 ha2
         go_wp2_with fail
         go_at_call 129
         refine Calls.mono hcall ?_
         clear hcall v0 v1 v2 v3 d4
         rintro x w4 ⟨rfl,b4⟩
         have hb4:=below_next hb b4
         have hbw4:=below_next hbw b4
         clear b4
         cases AV with
         | true =>
          have HA1:Hid ((c.pss.take (i + 1)).all (fun p => Mt.pseudoV (Mt.anyV T.es d) T.es p k) = true):=by
           show _ = _
           rw [all_snoc _ HY.out,HA.out,HAV.out]
           rfl
          clear HA HAV HY
          go_wp2
          go_roundw
          case rel => exact ⟨i + 1,by go_num,HB.out,HA1,hb4⟩
          case measure => have:=HB.out;simp [intOf];omega
         | false =>
          obtain rfl:V = false:=by
           rw [HV4.out,all_no (fun p => Mt.pseudoV (Mt.anyV T.es d) T.es p k) HY.out HAV.out]
          clear HA HAV HY HV4
          go_wp2
          go_ret
          exact ⟨rfl,hbw4⟩
        ·have hii:¬ (i:Int) < (c.pss.length:Int):=by omega
         obtain rfl:V = true:=by
          have h:=HA.out
          rw [List.take_of_length_le (by omega)] at h
          rw [HV4.out,h]
         clear HV4 HA
         go_wp2
         go_ret
         exact ⟨rfl,hbw⟩
end Go.Proofs.YtnemagmakgiheaaGreat.Rf
/- The document's own matching (tapestrierref9): the parts of a selector, with what is known kept: front, hangs. -/
namespace Go.Proofs.YtnemagmakgiheaaGreat.Rf
open Go Go.RowKit Go.Shelf Sl Wg Bk Go.Proofs.YtnemagmakgiheaaGreat.Tre
open Dm (El parentV placeV childrenV nodeV beforeV)
/-! ### frames -/
structure But (K:Nat) (w w':World):Prop where
 os:w'.os = w.os
 tape:w'.tape = w.tape
 output:w'.output = w.output
 size:w.heap.size ≤ w'.heap.size
 block:∀ i,i < w.heap.size → i ≠ K → w'.heap[i]? = w.heap[i]?
theorem But.refl (K:Nat) (w:World):But K w w:=⟨rfl,rfl,rfl,Nat.le_refl _,fun _ _ _ => rfl⟩
theorem But.trans {K:Nat} {a b c:World} (h:But K a b) (h':But K b c):But K a c:=⟨h'.os.trans h.os,h'.tape.trans h.tape,h'.output.trans h.output,Nat.le_trans h.size h'.size,fun i hi hn => (h'.block i (Nat.lt_of_lt_of_le hi h.size) hn).trans (h.block i hi hn)⟩
theorem But.of_below {K:Nat} {a b:World} (h:Below a.heap.size a b):But K a b:=⟨h.os,h.tape,h.output,h.size,fun i hi _ => h.block i hi⟩
theorem But.alloc (K:Nat) (w:World) (o:Obj):But K w (w.alloc o):=.of_below ((Below.refl _ w).alloc (Nat.le_refl _) o)
theorem But.set (w:World) (K i:Nat) (v:Value):But K w (w.setCell ⟨K,i,none⟩ v):=⟨rfl,rfl,rfl,by simp [World.setCell],fun _ _ hn => Below.heap_setCell _ _ _ _ hn⟩
theorem But.below {K n:Nat} {a b:World} (h:But K a b) (hn:n ≤ K) (hs:n ≤ a.heap.size):Below n a b:=⟨h.os,h.tape,h.output,h.size,fun i hi => h.block i (by omega) (by omega)⟩
theorem But.blk {K B:Nat} {a b:World} {t:TypeId} {cs:List Value} (h:But K a b) (k:Blk a B t cs) (hn:B ≠ K):Blk b B t cs:=(h.block B k.lt hn).trans k
/-! ### what is known -/
def Kn (X:World) (K m N:Nat) (f:Nat → Nat → Bool):Prop:=
 ∃ cs:List Int,Blk X K 3 (cs.map (Value.int .i64)) ∧ cs.length = N * m ∧ ∀ k e,k < m → e < N → cs[e * m + k]? = some 0 ∨ cs[e * m + k]? = some (if f k e then 1 else 2)
theorem Kn.kept {X Y:World} {K m N:Nat} {f:Nat → Nat → Bool} (h:Kn X K m N f) (hk:Y.heap[K]? = X.heap[K]?):Kn Y K m N f:=by
 obtain ⟨cs,h1,h2⟩:=h
 exact ⟨cs,hk.trans h1,h2⟩
theorem Kn.lt {X:World} {K m N:Nat} {f:Nat → Nat → Bool} (h:Kn X K m N f):K < X.heap.size:=by
 obtain ⟨cs,h1,_⟩:=h
 exact h1.lt
theorem at_lt {m N k e:Nat} (hk:k < m) (he:e < N):e * m + k < N * m:=by
 have h1:(e + 1) * m ≤ N * m:=Nat.mul_le_mul_right m he
 rw [Nat.add_mul,Nat.one_mul] at h1
 omega
theorem at_inj {m k e k' e':Nat} (hk:k < m) (hk':k' < m) (h:e * m + k = e' * m + k'):k = k' ∧ e = e':=by
 have hm:0 < m:=by omega
 have h1:(e * m + k) % m = k:=by rw [Nat.add_comm,Nat.add_mul_mod_self_right];exact Nat.mod_eq_of_lt hk
 have h2:(e' * m + k') % m = k':=by rw [Nat.add_comm,Nat.add_mul_mod_self_right];exact Nat.mod_eq_of_lt hk'
 have e1:k = k':=by rw [← h1,← h2,h]
 subst e1
 have h3:e * m = e' * m:=by omega
 exact ⟨rfl,Nat.eq_of_mul_eq_mul_right hm h3⟩
theorem Kn.get {X:World} {K m N:Nat} {f:Nat → Nat → Bool} (h:Kn X K m N f) {k e:Nat} (hk:k < m) (he:e < N) :
  ∃ z:Int,X.cell? ⟨K,e * m + k,none⟩ = some (.int .i64 z) ∧ X.frozen? ⟨K,e * m + k,none⟩ = false ∧ (z = 0 ∨ z = if f k e then 1 else 2):=by
 obtain ⟨cs,h1,h2,h3⟩:=h
 have hb:X.heap[K]? = some (.cells (cs.map (Value.int .i64)).toArray 3 (0,0)):=h1
 have hfz:X.frozen? ⟨K,e * m + k,none⟩ = false:=by simp [World.frozen?,hb]
 rcases h3 k e hk he with h | h
 ·exact ⟨0,by simp [World.cell?,hb,h],hfz,.inl rfl⟩
 ·exact ⟨_,by simp [World.cell?,hb,h],hfz,.inr rfl⟩
theorem Kn.put {X:World} {K m N:Nat} {f:Nat → Nat → Bool} (h:Kn X K m N f) {k e:Nat} (hk:k < m) (he:e < N) {z:Int} (hz:z = if f k e then 1 else 2):Kn (X.setCell ⟨K,e * m + k,none⟩ (.int .i64 z)) K m N f:=by
 obtain ⟨cs,h1,h2,h3⟩:=h
 refine ⟨cs.set (e * m + k) z,?_,by rw [List.length_set];exact h2,fun k' e' hk' he' => ?_⟩
 ·have:=Dm.blk_put (show Dm.Blk _ _ _ _ from h1) (e * m + k) (.int .i64 z)
  rw [List.map_set]
  exact this
 ·rw [List.getElem?_set]
  by_cases hi:e * m + k = e' * m + k'
  ·obtain ⟨rfl,rfl⟩:=at_inj hk hk' hi
   rw [if_pos rfl,if_pos (by rw [h2];exact at_lt hk he)]
   exact .inr (by rw [hz])
  ·rw [if_neg hi]
   exact h3 k' e' hk' he'
theorem Kn.put2 {X:World} {K m N:Nat} {f:Nat → Nat → Bool} (h:Kn X K m N f) {k e:Nat} (hk:k < m) (he:e < N) (u:Int) {z:Int} (hz:z = if f k e then 1 else 2):Kn ((X.setCell ⟨K,e * m + k,none⟩ (.int .i64 u)).setCell ⟨K,e * m + k,none⟩ (.int .i64 z)) K m N f:=by
 obtain ⟨cs,h1,h2,h3⟩:=h
 refine ⟨cs.set (e * m + k) z,?_,by rw [List.length_set];exact h2,fun k' e' hk' he' => ?_⟩
 ·have h4:=Dm.blk_put (Dm.blk_put (show Dm.Blk _ _ _ _ from h1) (e * m + k) (.int .i64 u)) (e * m + k) (.int .i64 z)
  rw [List.set_set] at h4
  rw [List.map_set]
  exact h4
 ·rw [List.getElem?_set]
  by_cases hi:e * m + k = e' * m + k'
  ·obtain ⟨rfl,rfl⟩:=at_inj hk hk' hi
   rw [if_pos rfl,if_pos (by rw [h2];exact at_lt hk he)]
   exact .inr (by rw [hz])
  ·rw [if_neg hi]
   exact h3 k' e' hk' he'
/-! ### front, hangs -/
structure PtEnv (d:Nat) (T:TE) (s:Sel) (p:Option Addr) (cap:Nat) (w0:World):Prop where
 tree:T.At w0
 parts:PartsR d w0.heap.size w0 (.slice p s.length cap) s
 deep:deepS d s = false
 ok:okS d s
abbrev upV (d:Nat) (T:TE) (s:Sel):Nat → Nat → Bool:=Mt.uptoV (Mt.anyV T.es d) T.es s
def FrontOK (d k:Nat):Prop:=∀ (T:TE) (s:Sel) (p:Option Addr) (cap e K:Nat) (w0 X:World),PtEnv d T s p cap w0 → e < T.es.length → k < s.length → w0.heap.size ≤ K → Below w0.heap.size w0 X → Kn X K s.length T.es.length (upV d T s) →
 Calls Tryz.prog 75 #[T.p,.int .i64 e,.agg #[.slice p s.length cap],.int .i64 ((k:Int) + 1),.int .i64 (8 - (d:Int)),.slice (some ⟨K,0,none⟩) (T.es.length * s.length) (T.es.length * s.length)] X fun r X' => r = .returned (.bool (upV d T s k e)) ∧ But K X X' ∧ Kn X' K s.length T.es.length (upV d T s)
def HangsOK (d k:Nat):Prop:=∀ (T:TE) (s:Sel) (p:Option Addr) (cap e K:Nat) (w0 X:World),PtEnv d T s p cap w0 → e < T.es.length → k + 1 < s.length → w0.heap.size ≤ K → Below w0.heap.size w0 X → Kn X K s.length T.es.length (upV d T s) →
 Calls Tryz.prog 104 #[T.p,.int .i64 e,.agg #[.slice p s.length cap],.int .i64 ((k:Int) + 2),.int .i64 (8 - (d:Int)),.slice (some ⟨K,0,none⟩) (T.es.length * s.length) (T.es.length * s.length)] X fun r X' => r = .returned (.bool ((Mt.aheadV T.es (Mt.partAt s (k + 1)).1 e).any (upV d T s k))) ∧ But K X X' ∧ Kn X' K s.length T.es.length (upV d T s)
theorem few_parts {d:Nat} {s:Sel} (h:deepS d s = false):s.length ≤ 50 ∧ ∀ p ∈ s,deepC d p.2 = false:=by
 rw [deepS_eq,Bool.or_eq_false_iff,decide_eq_false_iff_not,List.any_eq_false] at h
 exact ⟨by omega,fun p hp => by simpa using h.2 p hp⟩
def hangV (d:Nat) (T:TE) (s:Sel):Nat → Nat → Bool
 | 0,_ => true
 | k + 1,e => (Mt.aheadV T.es (Mt.partAt s (k + 1)).1 e).any (upV d T s k)
theorem upV_eq (d:Nat) (T:TE) (s:Sel) {k e:Nat} {q:Pt} (hq:s[k]? = some q):upV d T s k e = (Mt.compV (Mt.anyV T.es d) T.es q.2 e && hangV d T s k e):=by
 unfold upV
 cases k with
 | zero => rw [Mt.uptoV,Mt.partAt_eq hq,hangV,Bool.and_true]
 | succ k' => rw [Mt.uptoV,hangV,Mt.partAt_eq hq]
set_option maxHeartbeats 4000000 in
theorem front_of (d k:Nat) (HC:CompOK d) (HH:∀ k',k = k' + 1 → HangsOK d k'):FrontOK d k:=by
 intro T s p cap e K w0 X hE he hk hK hX hKn
 obtain ⟨hs50,hdc⟩:=few_parts hE.deep
 have hlen:=hE.tree.len
 obtain ⟨V,hV⟩:∃ V,upV d T s k e = V:=⟨_,rfl⟩
 rw [hV]
 obtain ⟨q,hq⟩:∃ q,s[k]? = some q:=⟨_,List.getElem?_eq_getElem hk⟩
 have hVe:V = (Mt.compV (Mt.anyV T.es d) T.es q.2 e && hangV d T s k e):=by rw [← hV,upV_eq d T s hq]
 obtain ⟨X1,hX1⟩:∃ X1,X.alloc (.cells #[.slice p s.length cap] 36) = X1:=⟨_,rfl⟩
 have b1:Below X.heap.size X X1:=by rw [← hX1];exact (Below.refl _ X).alloc (Nat.le_refl _) _
 have k1:Blk X1 X.heap.size 36 [.slice p s.length cap]:=by rw [← hX1];exact Blk.new X _ _
 have hsX:=hX.size
 have hKX:=hKn.lt
 have hB1:Below w0.heap.size w0 X1:=hX.trans (b1.mono hsX)
 have hK1:Kn X1 K s.length T.es.length (upV d T s):=hKn.kept (b1.block K hKX)
 obtain ⟨z,hz,hzf,hzv⟩:=hK1.get hk he
 have hat:=at_lt hk he
 have hml:T.es.length * s.length ≤ 204800:=Nat.mul_le_mul hlen hs50
 have hem:(e:Int) * (s.length:Int) = ((e * s.length:Nat):Int):=by rw [Int.natCast_mul]
 obtain ⟨A,hA⟩:∃ A,e * s.length = A:=⟨_,rfl⟩
 rw [hA] at hem hat hz hzf
 have hw1:IntKind.i64.wrap ((e:Int) * (s.length:Int)) = (A:Int):=by rw [hem,IntKind.wrap_i64];omega
 obtain ⟨J,hJ⟩:∃ J:Int,(k:Int) + 1 = J:=⟨_,rfl⟩
 have HJ:Hid ((k:Int) + 1 = J):=hJ
 have hw2:IntKind.i64.wrap ((A:Int) + J) = (A:Int) + J:=by rw [IntKind.wrap_i64];omega
 have hw3:IntKind.i64.wrap ((A:Int) + J - 1) = ((A + k:Nat):Int):=by rw [IntKind.wrap_i64];omega
 have hw4:IntKind.i64.wrap (J - 1) = (k:Int):=by rw [IntKind.wrap_i64];omega
 rw [hJ]
 have c0:=(blk1 k1).1
 have HA:Hid (e * s.length = A):=hA
 have HE:Hid (PtEnv d T s p cap w0):=hE
 have HKn:Hid (Kn X1 K s.length T.es.length (upV d T s)):=hK1
 have HV:Hid (V = (Mt.compV (Mt.anyV T.es d) T.es q.2 e && hangV d T s k e)):=hVe
 have HUV:Hid (upV d T s k e = V):=hV
 have HHH:Hid (∀ k',k = k' + 1 → HangsOK d k'):=HH
 obtain ⟨I,hI⟩:∃ I,A + k = I:=⟨_,rfl⟩
 have HI:Hid (A + k = I):=hI
 rw [hI] at hw3 hat hz hzf
 obtain ⟨L,hL⟩:∃ L,T.es.length * s.length = L:=⟨_,rfl⟩
 have HL:Hid (T.es.length * s.length = L):=hL
 rw [hL] at hat hml ⊢
 have hIL:(I:Int) < (L:Int):=by omega
 obtain ⟨D,hD⟩:∃ D:Int,8 - (d:Int) = D:=⟨_,rfl⟩
 have HD:Hid (8 - (d:Int) = D):=hD
 rw [hD]
 have hB01:But K X X1:=.of_below b1
 rw [hV] at hzv
 clear hV hVe hA hI hL hK1 hKn HH hD hem hdc hE hJ
 by_cases hz0:z = 0
 ·subst hz0
  -- the compound
  obtain ⟨b,off,vi,vk,va,vp,hq0,hbn,hc1,hc2,⟨y0,y1,y2,y3,y4,y5⟩,r1,r2,r3,r4⟩:=PartsR.get HE.out.parts hq
  subst hq0
  unfold maxLen at hc2
  have hcp:=HC T q.2 vi vk va vp e X1 (HE.out.tree.next hB1) he ⟨vi,vk,va,vp,rfl,(r1.below hB1 (fun _ _ h => h)).mono hB1.size (fun _ _ h => h),(r2.below hB1 (fun _ _ h => h)).mono hB1.size (fun _ _ h => h),(r3.below hB1 (fun _ _ h => h)).mono hB1.size (fun _ _ h => h),(r4.below (T':=PsC (SelsR d w0.heap.size X1)) hB1 (fun _ _ ⟨x,e,hx⟩ => ⟨x,e,hx.below d hB1⟩)).mono (T':=PsC (SelsR d X1.heap.size X1)) hB1.size (fun _ _ ⟨x,e,hx⟩ => ⟨x,e,hx.mono d hB1.size⟩)⟩ ((few_parts HE.out.deep).2 q (List.mem_of_getElem? hq)) (okS_c HE.out.ok (List.mem_of_getElem? hq))
  rw [HD.out] at hcp
  have z1:=(hB1.cell (p:=⟨b,off + k * 6 + 1,none⟩) hbn).trans y1
  have z2:=(hB1.cell (p:=⟨b,off + k * 6 + 2,none⟩) hbn).trans y2
  have z3:=(hB1.cell (p:=⟨b,off + k * 6 + 3,none⟩) hbn).trans y3
  have z4:=(hB1.cell (p:=⟨b,off + k * 6 + 4,none⟩) hbn).trans y4
  have z5:=(hB1.cell (p:=⟨b,off + k * 6 + 5,none⟩) hbn).trans y5
  obtain ⟨q1,cp1,rfl⟩:=r1.len
  obtain ⟨q2,cp2,rfl⟩:=r2.len
  obtain ⟨q3,cp3,rfl⟩:=r3.len
  obtain ⟨q4,cp4,rfl⟩:=r4.len
  have hkl:(k:Int) < (s.length:Int):=by omega
  generalize hCV:Mt.compV (Mt.anyV T.es d) T.es q.2 e = CV at hcp HV
  have HB1:Hid (_ ∧ _ ∧ _):=⟨hB1,hB01,k1⟩
  clear hzv y0 y1 y2 y3 y4 y5 r1 r2 r3 r4 hq hCV hc1 hB1 hB01 k1 b1
  cases CV with
  | false =>
   obtain rfl:V = false:=by rw [HV.out,Bool.false_and]
   clear HV HHH
   go_enter Tryz.func75,Tryz.ntmps75
   go_wp2_with fail
   go_at_call 103
   refine Calls.mono hcp ?_
   clear hcp z1 z2 z3 z4 z5 c0 hz hzf hX1
   rintro r X2 ⟨rfl,b2⟩
   have hK2:Kn X2 K s.length T.es.length (upV d T s):=HKn.out.kept (b2.block K HKn.out.lt)
   obtain ⟨z,hz,hzf,_⟩:=hK2.get hk he
   rw [HA.out,HI.out] at hz hzf
   have hK3:=hK2.put hk he (z:=2) (by rw [HUV.out];rfl)
   rw [HA.out,HI.out] at hK3
   have FIN:Hid (But K X (X2.setCell ⟨K,I,none⟩ (.int .i64 2)) ∧ Kn (X2.setCell ⟨K,I,none⟩ (.int .i64 2)) K s.length T.es.length (upV d T s)):=⟨(HB1.out.2.1.trans (.of_below b2)).trans (.set X2 K I _),hK3⟩
   clear hK2 hK3 b2
   go_wp2
   go_ret
   exact ⟨rfl,FIN.out⟩
  | true =>
   have HV2:Hid (V = hangV d T s k e):=by show _ = _;rw [HV.out,Bool.true_and]
   clear HV
   by_cases hk0:k = 0
   ·obtain rfl:V = true:=by rw [HV2.out,hk0];rfl
    have hJ1:(J == 1) = true:=by
     have:=HJ.out
     rw [beq_iff_eq];omega
    clear HV2 HHH hk0
    go_enter Tryz.func75,Tryz.ntmps75
    go_wp2_with fail
    go_at_call 103
    refine Calls.mono hcp ?_
    clear hcp z1 z2 z3 z4 z5 c0 hz hzf hX1
    rintro r X2 ⟨rfl,b2⟩
    have hK2:Kn X2 K s.length T.es.length (upV d T s):=HKn.out.kept (b2.block K HKn.out.lt)
    obtain ⟨z,hz,hzf,_⟩:=hK2.get hk he
    rw [HA.out,HI.out] at hz hzf
    have hK3:=hK2.put2 hk he 2 (z:=1) (by rw [HUV.out];rfl)
    rw [HA.out,HI.out] at hK3
    have FIN:Hid (But K X ((X2.setCell ⟨K,I,none⟩ (.int .i64 2)).setCell ⟨K,I,none⟩ (.int .i64 1)) ∧ Kn ((X2.setCell ⟨K,I,none⟩ (.int .i64 2)).setCell ⟨K,I,none⟩ (.int .i64 1)) K s.length T.es.length (upV d T s)):=⟨((HB1.out.2.1.trans (.of_below b2)).trans (.set X2 K I _)).trans (.set _ K I _),hK3⟩
    clear hK2 hK3 b2
    go_wp2
    go_ret
    exact ⟨rfl,FIN.out⟩
   ·obtain ⟨k',hkk⟩:∃ k',k = k' + 1:=⟨k - 1,by omega⟩
    have hJ1:(J == 1) = false:=by
     have:=HJ.out
     rw [beq_eq_false_iff_ne];omega
    have HHG:Hid (∀ X2,Below X1.heap.size X1 X2 → Calls Tryz.prog 104 #[T.p,.int .i64 e,.agg #[.slice (some ⟨b,off,none⟩) s.length cap],.int .i64 J,.int .i64 D,.slice (some ⟨K,0,none⟩) L L] X2 fun r X' => r = .returned (.bool V) ∧ But K X2 X' ∧ Kn X' K s.length T.es.length (upV d T s)):=fun X2 b2 => by
     have h:=HHH.out k' hkk T s (some ⟨b,off,none⟩) cap e K w0 X2 HE.out he (by omega) hK (HB1.out.1.trans (b2.mono (by have:=HB1.out.1.size;omega))) (HKn.out.kept (b2.block K HKn.out.lt))
     rw [HD.out,HL.out,show (k':Int) + 2 = J by have:=HJ.out;omega] at h
     rw [HV2.out,hkk]
     exact h
    clear HV2 HHH hkk hk0
    go_enter Tryz.func75,Tryz.ntmps75
    go_wp2_with fail
    go_at_call 103
    refine Calls.mono hcp ?_
    clear hcp z1 z2 z3 z4 z5 c0 hz hzf hX1
    rintro r X2 ⟨rfl,b2⟩
    have hcall:=HHG.out X2 b2
    have c0:=(blk1 (HB1.out.2.2.below b2 HB1.out.2.2.lt)).1
    have HB2:Hid (But K X X2):=HB1.out.2.1.trans (.of_below b2)
    clear b2 HHG
    go_wp2_with fail
    go_at_call 104
    refine Calls.mono hcall ?_
    clear hcall c0
    rintro r X3 ⟨rfl,b3,hK3⟩
    obtain ⟨z,hz,hzf,_⟩:=hK3.get hk he
    rw [HA.out,HI.out] at hz hzf
    cases V with
    | true =>
     have hK4:=hK3.put2 hk he 2 (z:=1) (by rw [HUV.out];rfl)
     rw [HA.out,HI.out] at hK4
     have FIN:Hid (But K X ((X3.setCell ⟨K,I,none⟩ (.int .i64 2)).setCell ⟨K,I,none⟩ (.int .i64 1)) ∧ Kn ((X3.setCell ⟨K,I,none⟩ (.int .i64 2)).setCell ⟨K,I,none⟩ (.int .i64 1)) K s.length T.es.length (upV d T s)):=⟨((HB2.out.trans b3).trans (.set X3 K I _)).trans (.set _ K I _),hK4⟩
     clear hK3 hK4 b3
     go_wp2
     go_ret
     exact ⟨rfl,FIN.out⟩
    | false =>
     have hK4:=hK3.put hk he (z:=2) (by rw [HUV.out];rfl)
     rw [HA.out,HI.out] at hK4
     have FIN:Hid (But K X (X3.setCell ⟨K,I,none⟩ (.int .i64 2)) ∧ Kn (X3.setCell ⟨K,I,none⟩ (.int .i64 2)) K s.length T.es.length (upV d T s)):=⟨(HB2.out.trans b3).trans (.set X3 K I _),hK4⟩
     clear hK3 hK4 b3
     go_wp2
     go_ret
     exact ⟨rfl,FIN.out⟩
 ·have hzb:(z == 0) = false:=by simpa using hz0
  have hzV:z = if V then 1 else 2:=hzv.resolve_left hz0
  have FIN:Hid (But K X X1 ∧ Kn X1 K s.length T.es.length (upV d T s)):=⟨hB01,HKn.out⟩
  clear hzv hz0 HV HHH hB1 hB01 k1 b1 hq
  cases V with
  | true =>
   obtain rfl:z = 1:=hzV
   go_enter Tryz.func75,Tryz.ntmps75
   go_wp2
   go_ret
   exact ⟨rfl,FIN.out⟩
  | false =>
   obtain rfl:z = 2:=hzV
   go_enter Tryz.func75,Tryz.ntmps75
   go_wp2
   go_ret
   exact ⟨rfl,FIN.out⟩
end Go.Proofs.YtnemagmakgiheaaGreat.Rf
/- The document's own matching (tapestrierref9): what must hang ahead of a part: hangs. -/
namespace Go.Proofs.YtnemagmakgiheaaGreat.Rf
open Go Go.RowKit Go.Shelf Sl Wg Bk Go.Proofs.YtnemagmakgiheaaGreat.Tre
open Dm (El parentV placeV childrenV nodeV beforeV TreeOk)
def remV (d:Nat) (T:TE) (s:Sel) (k:Nat) (comb x:Int):Bool:=if x = -1 then false else upV d T s k x.toNat || (Mt.aheadV T.es comb x.toNat).any (upV d T s k)
theorem any_rem (d:Nat) (T:TE) (s:Sel) (k:Nat) (hO:TreeOk T.es) {comb:Int} {e:Nat} (he:e < T.es.length) (hf:Mt.farV comb = true:=by decide):(Mt.aheadV T.es comb e).any (upV d T s k) = remV d T s k comb (Mt.nextV T.es comb e):=by
 rw [Mt.ahead_next hO he,hf]
 unfold remV
 split
 ·rfl
 ·rw [if_pos rfl,List.any_cons]
theorem rem_step (d:Nat) (T:TE) (s:Sel) (k:Nat) (hO:TreeOk T.es) {comb:Int} (hf:Mt.farV comb = true) {n:Nat} (hn:n < T.es.length):remV d T s k comb (n:Int) = (upV d T s k n || remV d T s k comb (Mt.nextV T.es comb n)):=by
 rw [← any_rem d T s k hO hn hf]
 unfold remV
 rw [if_neg (by omega),Int.toNat_natCast]
set_option maxHeartbeats 4000000 in
theorem hangs_of (d k:Nat) (HF:FrontOK d k):HangsOK d k:=by
 intro T s p cap e Kb w0 X hE he hk hKb hX hKn
 obtain ⟨hs50,_⟩:=few_parts hE.deep
 have hlen:=hE.tree.len
 obtain ⟨M,hM⟩:∃ M,k + 1 = M:=⟨_,rfl⟩
 obtain ⟨V,hV⟩:∃ V,(Mt.aheadV T.es (Mt.partAt s (k + 1)).1 e).any (upV d T s k) = V:=⟨_,rfl⟩
 rw [hV]
 rw [hM] at hk hV
 obtain ⟨q,hq⟩:∃ q,s[M]? = some q:=⟨_,List.getElem?_eq_getElem hk⟩
 rw [Mt.partAt_eq hq] at hV
 obtain ⟨X1,hX1⟩:∃ X1,X.alloc (.cells #[.slice p s.length cap] 36) = X1:=⟨_,rfl⟩
 have b1:Below X.heap.size X X1:=by rw [← hX1];exact (Below.refl _ X).alloc (Nat.le_refl _) _
 have k1:Blk X1 X.heap.size 36 [.slice p s.length cap]:=by rw [← hX1];exact Blk.new X _ _
 have hsX:=hX.size
 have hKX:=hKn.lt
 have hB1:Below w0.heap.size w0 X1:=hX.trans (b1.mono hsX)
 have HKn:Hid (Kn X1 Kb s.length T.es.length (upV d T s)):=hKn.kept (b1.block Kb hKX)
 have HE:Hid (PtEnv d T s p cap w0):=hE
 have HBB:Hid (∀ Y,But Kb X1 Y → Below w0.heap.size w0 Y):=fun Y hY => hB1.trans (hY.below hKb hB1.size)
 have HFR:Hid (∀ (x:Nat) (Y:World),x < T.es.length → But Kb X1 Y → Kn Y Kb s.length T.es.length (upV d T s) → Calls Tryz.prog 75 #[T.p,.int .i64 x,.agg #[.slice p s.length cap],.int .i64 (M:Int),.int .i64 (8 - (d:Int)),.slice (some ⟨Kb,0,none⟩) (T.es.length * s.length) (T.es.length * s.length)] Y fun r X' => r = .returned (.bool (upV d T s k x)) ∧ But Kb Y X' ∧ Kn X' Kb s.length T.es.length (upV d T s)):=fun x Y h1 h2 h3 => by
  have h:=HF T s p cap x Kb w0 Y HE.out h1 (by omega) hKb (HBB.out Y h2) h3
  rw [show (k:Int) + 1 = (M:Int) by omega] at h
  exact h
 have HB1:Hid (Below w0.heap.size w0 X1 ∧ But Kb X X1 ∧ Blk X1 X.heap.size 36 [.slice p s.length cap] ∧ X.heap.size ≠ Kb):=⟨hB1,.of_below b1,k1,by omega⟩
 obtain ⟨b,off,_,_,_,_,hq0,hbn,hc1,hc2,⟨y0,_⟩,_⟩:=PartsR.get HE.out.parts hq
 subst hq0
 unfold maxLen at hc2
 replace y0:=(hB1.cell (p:=⟨b,off + M * 6,none⟩) hbn).trans y0
 have c0:=(blk1 k1).1
 obtain ⟨J,hJ⟩:∃ J:Int,(k:Int) + 2 = J:=⟨_,rfl⟩
 rw [hJ]
 have hw1:IntKind.i64.wrap (J - 1) = (M:Int):=by rw [IntKind.wrap_i64];omega
 have hMl:(M:Int) < (s.length:Int):=by omega
 obtain ⟨L,hL⟩:∃ L,T.es.length * s.length = L:=⟨_,rfl⟩
 obtain ⟨D,hD⟩:∃ D:Int,8 - (d:Int) = D:=⟨_,rfl⟩
 rw [hL,hD] at HFR ⊢
 have HV:Hid (V = (Mt.aheadV T.es q.1 e).any (upV d T s k)):=hV.symm
 clear hV hL hD hJ hM HF hE hKn hc1 hk
 by_cases h12:q.1 = 1 ∨ q.1 = 4
 ·rcases h12 with oq | oq
  ·have HR0:Hid (V = remV d T s k 1 (parentV T.es e)):=by
    show _ = _
    rw [HV.out,oq,any_rem d T s k HE.out.tree.ok he]
    rfl
   have hfn:=parent_any T e X1 (HE.out.tree.next hB1)
   have p1:(q.1 == 1) = true:=by rw [oq];rfl
   have hnx:=Mt.parentV_lt HE.out.tree.ok he
   clear hq HV oq hB1 k1 b1
   go_enter Tryz.func104,Tryz.ntmps104
   go_wp2_with fail
   go_at_call 130
   refine Calls.mono hfn ?_
   clear hfn c0 y0 hX1
   rintro r X2 ⟨rfl,hww⟩
   obtain rfl:=hww.symm
   clear hww
   have b2:But Kb X1 X1:=But.refl Kb X1
   have hK2:Kn X1 Kb s.length T.es.length (upV d T s):=HKn.out
   generalize parentV T.es (e:Int) = x0 at *
   have HS:Hid (_ ∧ _ ∧ _):=⟨hnx,b2,hK2⟩
   clear hnx b2 hK2
   go_wp2
   go_loopw [13] (fun y wr => ∃ x:Int,y = .int .i64 x ∧ (x = -1 ∨ ∃ n:Nat,x = (n:Int) ∧ n < T.es.length) ∧ Hid (V = remV d T s k 1 x) ∧ But Kb X1 wr ∧ Kn wr Kb s.length T.es.length (upV d T s)) (fun y _ => (intOf y + 1).toNat)
   case atStart => exact ⟨x0,rfl,HS.out.1.imp_right (fun ⟨j,h1,h2⟩ => ⟨j,h1,by omega⟩),HR0,HS.out.2.1,HS.out.2.2⟩
   case round =>
    clear HS HR0
    obtain ⟨x,rfl,hx,HR,bt,hKt⟩:=hrel
    rcases hx with rfl | ⟨n,rfl,hn⟩
    ·obtain rfl:V = false:=HR.out
     have FIN:Hid (But Kb X wr ∧ Kn wr Kb s.length T.es.length (upV d T s)):=⟨HB1.out.2.1.trans bt,hKt⟩
     clear bt hKt HR
     go_wp2
     go_ret
     exact ⟨rfl,FIN.out⟩
    ·have hcall:=HFR.out n wr hn bt hKt
     have c0:=(blk1 (bt.blk HB1.out.2.2.1 HB1.out.2.2.2)).1
     have hn0:(0:Int) ≤ (n:Int):=by omega
     have HRS:Hid (V = (upV d T s k n || remV d T s k 1 (parentV T.es n))):=by
      show _ = _
      rw [HR.out,rem_step d T s k HE.out.tree.ok (by decide) hn]
      rfl
     generalize hUV:upV d T s k n = UV at hcall
     have HUV:Hid (upV d T s k n = UV):=hUV
     rw [hUV] at HRS
     clear hUV HR hKt
     go_wp2_with fail
     go_at_call 75
     refine Calls.mono hcall ?_
     clear hcall c0
     rintro r X3 ⟨rfl,b3,hK3⟩
     cases UV with
     | true =>
      obtain rfl:V = true:=by rw [HRS.out,Bool.true_or]
      have FIN:Hid (But Kb X X3 ∧ Kn X3 Kb s.length T.es.length (upV d T s)):=⟨(HB1.out.2.1.trans bt).trans b3,hK3⟩
      clear bt b3 hK3 HRS HUV
      go_wp2
      go_ret
      exact ⟨rfl,FIN.out⟩
     | false =>
      have HR1:Hid (V = remV d T s k 1 (parentV T.es n)):=by show _ = _;rw [HRS.out,Bool.false_or]
      have hp3:=parent_any T n X3 (HE.out.tree.next (HBB.out X3 (bt.trans b3)))
      have hnx:=Mt.parentV_lt HE.out.tree.ok hn
      have HP:Hid (_ ∧ _ ∧ _ ∧ _):=⟨bt,b3,hK3,hnx⟩
      clear HRS HUV bt b3 hK3 hnx
      go_wp2_with fail
      go_at_call 130
      refine Calls.mono hp3 ?_
      clear hp3
      obtain ⟨bt,b3,hK3,hnx⟩:=HP.out
      rintro r X4 ⟨rfl,hww⟩
      have b4:But Kb X1 X4:=by rw [hww];exact bt.trans b3
      have hK4:Kn X4 Kb s.length T.es.length (upV d T s):=by rw [hww];exact hK3
      generalize parentV T.es (n:Int) = x1 at *
      have HQ:Hid (_ ∧ _ ∧ _):=⟨b4,hK4,hnx⟩
      clear hww bt b3 hK3 b4 hK4 hnx HP
      go_wp2
      obtain ⟨b4,hK4,hnx⟩:=HQ.out
      go_roundw
      case rel => exact ⟨x1,rfl,hnx.imp_right (fun ⟨j,h1,h2⟩ => ⟨j,h1,by omega⟩),HR1,b4,hK4⟩
      case measure => rcases hnx with h | ⟨j,h,h2⟩ <;> simp [intOf,h] <;> omega
  ·have HR0:Hid (V = remV d T s k 4 (beforeV T.es e)):=by
    show _ = _
    rw [HV.out,oq,any_rem d T s k HE.out.tree.ok he]
    rfl
   have hfn:=before_any T e X1 (HE.out.tree.next hB1)
   have p4:(q.1 == 4) = true:=by rw [oq];rfl
   have p1:(q.1 == 1) = false:=by rw [oq];rfl
   have p2:(q.1 == 2) = false:=by rw [oq];rfl
   have p3:(q.1 == 3) = false:=by rw [oq];rfl
   have hnx:=Mt.beforeV_lt HE.out.tree.ok he
   clear hq HV oq hB1 k1 b1
   go_enter Tryz.func104,Tryz.ntmps104
   go_wp2_with fail
   go_at_call 131
   refine Calls.mono hfn ?_
   clear hfn c0 y0 hX1
   rintro r X2 ⟨rfl,n,hww⟩
   have b2:But Kb X1 X2:=by rw [hww];exact .of_below (below_drawn X1 n)
   have hK2:Kn X2 Kb s.length T.es.length (upV d T s):=by rw [hww];exact HKn.out.kept rfl
   clear hww
   generalize beforeV T.es (e:Int) = x0 at *
   have HS:Hid (_ ∧ _ ∧ _):=⟨hnx,b2,hK2⟩
   clear hnx b2 hK2
   go_wp2
   go_loopw [15] (fun y wr => ∃ x:Int,y = .int .i64 x ∧ (x = -1 ∨ ∃ n:Nat,x = (n:Int) ∧ n < T.es.length) ∧ Hid (V = remV d T s k 4 x) ∧ But Kb X1 wr ∧ Kn wr Kb s.length T.es.length (upV d T s)) (fun y _ => (intOf y + 1).toNat)
   case atStart => exact ⟨x0,rfl,HS.out.1.imp_right (fun ⟨j,h1,h2⟩ => ⟨j,h1,by omega⟩),HR0,HS.out.2.1,HS.out.2.2⟩
   case round =>
    clear HS HR0
    obtain ⟨x,rfl,hx,HR,bt,hKt⟩:=hrel
    rcases hx with rfl | ⟨n,rfl,hn⟩
    ·obtain rfl:V = false:=HR.out
     have FIN:Hid (But Kb X wr ∧ Kn wr Kb s.length T.es.length (upV d T s)):=⟨HB1.out.2.1.trans bt,hKt⟩
     clear bt hKt HR
     go_wp2
     go_ret
     exact ⟨rfl,FIN.out⟩
    ·have hcall:=HFR.out n wr hn bt hKt
     have c0:=(blk1 (bt.blk HB1.out.2.2.1 HB1.out.2.2.2)).1
     have hn0:(0:Int) ≤ (n:Int):=by omega
     have HRS:Hid (V = (upV d T s k n || remV d T s k 4 (beforeV T.es n))):=by
      show _ = _
      rw [HR.out,rem_step d T s k HE.out.tree.ok (by decide) hn]
      rfl
     generalize hUV:upV d T s k n = UV at hcall
     have HUV:Hid (upV d T s k n = UV):=hUV
     rw [hUV] at HRS
     clear hUV HR hKt
     go_wp2_with fail
     go_at_call 75
     refine Calls.mono hcall ?_
     clear hcall c0
     rintro r X3 ⟨rfl,b3,hK3⟩
     cases UV with
     | true =>
      obtain rfl:V = true:=by rw [HRS.out,Bool.true_or]
      have FIN:Hid (But Kb X X3 ∧ Kn X3 Kb s.length T.es.length (upV d T s)):=⟨(HB1.out.2.1.trans bt).trans b3,hK3⟩
      clear bt b3 hK3 HRS HUV
      go_wp2
      go_ret
      exact ⟨rfl,FIN.out⟩
     | false =>
      have HR1:Hid (V = remV d T s k 4 (beforeV T.es n)):=by show _ = _;rw [HRS.out,Bool.false_or]
      have hp3:=before_any T n X3 (HE.out.tree.next (HBB.out X3 (bt.trans b3)))
      have hnx:=Mt.beforeV_lt HE.out.tree.ok hn
      have HP:Hid (_ ∧ _ ∧ _ ∧ _):=⟨bt,b3,hK3,hnx⟩
      clear HRS HUV bt b3 hK3 hnx
      go_wp2_with fail
      go_at_call 131
      refine Calls.mono hp3 ?_
      clear hp3
      obtain ⟨bt,b3,hK3,hnx⟩:=HP.out
      rintro r X4 ⟨rfl,n',hww⟩
      have b4:But Kb X1 X4:=by rw [hww];exact (bt.trans b3).trans (.of_below (below_drawn X3 n'))
      have hK4:Kn X4 Kb s.length T.es.length (upV d T s):=by rw [hww];exact hK3.kept rfl
      generalize beforeV T.es (n:Int) = x1 at *
      have HQ:Hid (_ ∧ _ ∧ _):=⟨b4,hK4,hnx⟩
      clear hww bt b3 hK3 b4 hK4 hnx HP
      go_wp2
      obtain ⟨b4,hK4,hnx⟩:=HQ.out
      go_roundw
      case rel => exact ⟨x1,rfl,hnx.imp_right (fun ⟨j,h1,h2⟩ => ⟨j,h1,by omega⟩),HR1,b4,hK4⟩
      case measure => rcases hnx with h | ⟨j,h,h2⟩ <;> simp [intOf,h] <;> omega
 ·by_cases h23:q.1 = 2 ∨ q.1 = 3
  ·rcases h23 with oq | oq
   ·have hV1:V = if parentV T.es e = -1 then false else upV d T s k (parentV T.es e).toNat:=by
     rw [HV.out,oq,Mt.ahead_next HE.out.tree.ok he]
     show List.any (if parentV T.es e = -1 then [] else (parentV T.es e).toNat :: (if false = true then _ else [])) _ = _
     split <;> simp
    have HFN:Hid (∀ Y,But Kb X1 Y → Calls Tryz.prog 130 #[T.p,.int .i64 e] Y fun x w' => x = .returned (.int .i64 (parentV T.es e)) ∧ w' = Y):=fun Y hY => parent_any T e Y (HE.out.tree.next (HBB.out Y hY))
    have p2:(q.1 == 2) = true:=by rw [oq];rfl
    have o1:(q.1 == 1) = false:=by rw [oq];rfl
    
    have hnx:=Mt.parentV_lt HE.out.tree.ok he
    have HSt:Hid (∀ Y,But Kb X1 Y → Y.cell? ⟨X.heap.size,0,none⟩ = some (.slice (some ⟨b,off,none⟩) s.length cap)):=fun Y hY => (blk1 (hY.blk HB1.out.2.2.1 HB1.out.2.2.2)).1
    clear hq HV oq hB1 k1 b1
    generalize parentV T.es (e:Int) = x0 at *
    rcases hnx with rfl | ⟨n,rfl,hn⟩
    ·obtain rfl:V = false:=hV1
     go_enter Tryz.func104,Tryz.ntmps104
     go_upto_region 10 with fail
     first | rw [hX1] | skip
     clear hX1 c0 y0
     refine Rg.wpD_begin [0,1,2,3,4,5,6,7,8,9,10,11,12,13,14] (fun Y => Y.cell? ⟨X.heap.size,0,none⟩ = some (.slice (some ⟨b,off,none⟩) s.length cap)) (by kernel_rfl) ?_
     have q0:But Kb X1 X1.drew:=.of_below (below_drew (Below.refl _ _))
     have HeldS:=HSt.out _ q0
     refine Rg.ld 0 HeldS ?_
     simp only [Act.put,Rg.sA,Rg.sB,Rg.sC]
     refine Rg.ld 1 HeldS ?_
     simp only [Act.put,Rg.sA,Rg.sB,Rg.sC]
     refine Rg.dd 2 fun K hK => ?_
     go_simp
     go_at_call 130
     refine Calls.mono (HFN.out _ q0) ?_
     rintro r X2 ⟨rfl,hww⟩
     have b2:But Kb X1 X2:=by rw [hww];exact .of_below (below_drew (Below.refl _ _))
     have hK2:Kn X2 Kb s.length T.es.length (upV d T s):=by rw [hww];exact HKn.out.kept rfl
     clear hww
     refine hK _ _ (fun _ => HSt.out _ b2) ?_
     clear hK K HeldS
     have HeldS:=HSt.out _ b2
     refine Rg.ld 3 HeldS ?_
     simp only [Act.put,Rg.sA,Rg.sB,Rg.sC]
     refine Rg.ld 4 HeldS ?_
     simp only [Act.put,Rg.sA,Rg.sB,Rg.sC]
     refine Rg.sk 5 HeldS ?_
     simp only [Act.put,Rg.sA,Rg.sB,Rg.sC]
     refine Rg.sk 6 HeldS ?_
     simp only [Act.put,Rg.sA,Rg.sB,Rg.sC]
     refine Rg.sk 7 HeldS ?_
     simp only [Act.put,Rg.sA,Rg.sB,Rg.sC]
     refine Rg.sk 8 HeldS ?_
     simp only [Act.put,Rg.sA,Rg.sB,Rg.sC]
     refine Rg.sk 9 HeldS ?_
     simp only [Act.put,Rg.sA,Rg.sB,Rg.sC]
     refine Rg.sk 10 HeldS ?_
     simp only [Act.put,Rg.sA,Rg.sB,Rg.sC]
     refine Rg.sk 11 HeldS ?_
     simp only [Act.put,Rg.sA,Rg.sB,Rg.sC]
     refine Rg.sk 12 HeldS ?_
     simp only [Act.put,Rg.sA,Rg.sB,Rg.sC]
     refine Rg.sk 13 HeldS ?_
     simp only [Act.put,Rg.sA,Rg.sB,Rg.sC]
     refine Rg.sk 14 HeldS ?_
     simp only [Act.put,Rg.sA,Rg.sB,Rg.sC]
     refine Rg.pu 15 ?_
     simp only [Act.put,Rg.sA,Rg.sB,Rg.sC]
     refine Rg.pu 16 ?_
     simp only [Act.put,Rg.sA,Rg.sB,Rg.sC]
     refine Rg.wpD_done (by kernel_rfl) ?_
     have FIN:Hid (But Kb X X2 ∧ Kn X2 Kb s.length T.es.length (upV d T s)):=⟨HB1.out.2.1.trans b2,hK2⟩
     clear b2 hK2 q0 HSt HFN
     go_wp2
     go_ret
     exact ⟨rfl,FIN.out⟩
    ·have hn2:n < T.es.length:=by omega
     obtain rfl:V = upV d T s k n:=by rw [hV1,if_neg (by omega),Int.toNat_natCast]
     have hn0:(0:Int) ≤ (n:Int):=by omega
     clear hV1
     generalize hUV:upV d T s k n = UV
     have HFR1:Hid (∀ Y,But Kb X1 Y → Kn Y Kb s.length T.es.length (upV d T s) → Calls Tryz.prog 75 #[T.p,.int .i64 n,.agg #[.slice (some ⟨b,off,none⟩) s.length cap],.int .i64 (M:Int),.int .i64 D,.slice (some ⟨Kb,0,none⟩) L L] Y fun r X' => r = .returned (.bool UV) ∧ But Kb Y X' ∧ Kn X' Kb s.length T.es.length (upV d T s)):=fun Y h1 h2 => by
      have h:=HFR.out n Y hn2 h1 h2
      rw [hUV] at h
      exact h
     clear hUV
     go_enter Tryz.func104,Tryz.ntmps104
     go_upto_region 10 with fail
     first | rw [hX1] | skip
     clear hX1 c0 y0
     refine Rg.wpD_begin [0,1,2,3,4,5,6,7,8,9,10,11,12,13] (fun Y => Y.cell? ⟨X.heap.size,0,none⟩ = some (.slice (some ⟨b,off,none⟩) s.length cap)) (by kernel_rfl) ?_
     have q0:But Kb X1 X1.drew:=.of_below (below_drew (Below.refl _ _))
     have HeldS:=HSt.out _ q0
     refine Rg.ld 0 HeldS ?_
     simp only [Act.put,Rg.sA,Rg.sB,Rg.sC]
     refine Rg.ld 1 HeldS ?_
     simp only [Act.put,Rg.sA,Rg.sB,Rg.sC]
     refine Rg.dd 2 fun K hK => ?_
     go_simp
     go_at_call 130
     refine Calls.mono (HFN.out _ q0) ?_
     rintro r X2 ⟨rfl,hww⟩
     have b2:But Kb X1 X2:=by rw [hww];exact .of_below (below_drew (Below.refl _ _))
     have hK2:Kn X2 Kb s.length T.es.length (upV d T s):=by rw [hww];exact HKn.out.kept rfl
     clear hww
     refine hK _ _ (fun _ => HSt.out _ b2) ?_
     clear hK K HeldS
     have HeldS:=HSt.out _ b2
     refine Rg.ld 3 HeldS ?_
     simp only [Act.put,Rg.sA,Rg.sB,Rg.sC]
     refine Rg.ld 4 HeldS ?_
     simp only [Act.put,Rg.sA,Rg.sB,Rg.sC]
     refine Rg.ld 5 HeldS ?_
     simp only [Act.put,Rg.sA,Rg.sB,Rg.sC]
     refine Rg.ld 6 HeldS ?_
     simp only [Act.put,Rg.sA,Rg.sB,Rg.sC]
     refine Rg.ld 7 HeldS ?_
     simp only [Act.put,Rg.sA,Rg.sB,Rg.sC]
     refine Rg.ld 9 HeldS ?_
     simp only [Act.put,Rg.sA,Rg.sB,Rg.sC]
     refine Rg.ld 10 HeldS ?_
     simp only [Act.put,Rg.sA,Rg.sB,Rg.sC]
     refine Rg.ld 11 HeldS ?_
     simp only [Act.put,Rg.sA,Rg.sB,Rg.sC]
     refine Rg.ld 12 HeldS ?_
     simp only [Act.put,Rg.sA,Rg.sB,Rg.sC]
     refine Rg.ld 13 HeldS ?_
     simp only [Act.put,Rg.sA,Rg.sB,Rg.sC]
     refine Rg.dd 8 fun K hK => ?_
     go_simp
     go_at_call 130
     refine Calls.mono (HFN.out _ b2) ?_
     rintro r X3 ⟨rfl,hww⟩
     have b3:But Kb X1 X3:=by rw [hww];exact b2
     have hK3:Kn X3 Kb s.length T.es.length (upV d T s):=by rw [hww];exact hK2.kept rfl
     clear hww
     refine hK _ _ (fun _ => HSt.out _ b3) ?_
     clear hK K HeldS
     refine Rg.dd 14 fun K hK => ?_
     go_simp
     go_at_call 75
     refine Calls.mono (HFR1.out _ b3 hK3) ?_
     rintro r X4 ⟨rfl,b4,hK4⟩
     refine hK _ _ (fun h => absurd h (by decide)) ?_
     clear hK K
     refine Rg.pu 15 ?_
     simp only [Act.put,Rg.sA,Rg.sB,Rg.sC]
     refine Rg.pu 16 ?_
     simp only [Act.put,Rg.sA,Rg.sB,Rg.sC]
     refine Rg.wpD_done (by kernel_rfl) ?_
     have FIN:Hid (But Kb X X4 ∧ Kn X4 Kb s.length T.es.length (upV d T s)):=⟨(HB1.out.2.1.trans b3).trans b4,hK4⟩
     clear b2 b3 b4 hK2 hK3 hK4 q0 HSt HFN HFR1
     go_wp2
     go_ret
     exact ⟨rfl,FIN.out⟩
   ·have hV1:V = if beforeV T.es e = -1 then false else upV d T s k (beforeV T.es e).toNat:=by
     rw [HV.out,oq,Mt.ahead_next HE.out.tree.ok he]
     show List.any (if beforeV T.es e = -1 then [] else (beforeV T.es e).toNat :: (if false = true then _ else [])) _ = _
     split <;> simp
    have HFN:Hid (∀ Y,But Kb X1 Y → Calls Tryz.prog 131 #[T.p,.int .i64 e] Y fun x w' => x = .returned (.int .i64 (beforeV T.es e)) ∧ ∃ n,w' = Y.drewN n):=fun Y hY => before_any T e Y (HE.out.tree.next (HBB.out Y hY))
    have p3:(q.1 == 3) = true:=by rw [oq];rfl
    have o1:(q.1 == 1) = false:=by rw [oq];rfl
    have o2:(q.1 == 2) = false:=by rw [oq];rfl
    have hnx:=Mt.beforeV_lt HE.out.tree.ok he
    have HSt:Hid (∀ Y,But Kb X1 Y → Y.cell? ⟨X.heap.size,0,none⟩ = some (.slice (some ⟨b,off,none⟩) s.length cap)):=fun Y hY => (blk1 (hY.blk HB1.out.2.2.1 HB1.out.2.2.2)).1
    clear hq HV oq hB1 k1 b1
    generalize beforeV T.es (e:Int) = x0 at *
    rcases hnx with rfl | ⟨n,rfl,hn⟩
    ·obtain rfl:V = false:=hV1
     go_enter Tryz.func104,Tryz.ntmps104
     go_upto_region 12 with fail
     first | rw [hX1] | skip
     clear hX1 c0 y0
     refine Rg.wpD_begin [0,1,2,3,4,5,6,7,8,9,10,11,12,13,14] (fun Y => Y.cell? ⟨X.heap.size,0,none⟩ = some (.slice (some ⟨b,off,none⟩) s.length cap)) (by kernel_rfl) ?_
     have q0:But Kb X1 X1.drew:=.of_below (below_drew (Below.refl _ _))
     have HeldS:=HSt.out _ q0
     refine Rg.ld 0 HeldS ?_
     simp only [Act.put,Rg.sA,Rg.sB,Rg.sC]
     refine Rg.ld 1 HeldS ?_
     simp only [Act.put,Rg.sA,Rg.sB,Rg.sC]
     refine Rg.dd 2 fun K hK => ?_
     go_simp
     go_at_call 131
     refine Calls.mono (HFN.out _ q0) ?_
     rintro r X2 ⟨rfl,n2,hww⟩
     have b2:But Kb X1 X2:=by rw [hww];exact .of_below (below_drewN' (below_drew (Below.refl _ _)) n2)
     have hK2:Kn X2 Kb s.length T.es.length (upV d T s):=by rw [hww];exact HKn.out.kept rfl
     clear hww
     refine hK _ _ (fun _ => HSt.out _ b2) ?_
     clear hK K HeldS
     have HeldS:=HSt.out _ b2
     refine Rg.ld 3 HeldS ?_
     simp only [Act.put,Rg.sA,Rg.sB,Rg.sC]
     refine Rg.ld 4 HeldS ?_
     simp only [Act.put,Rg.sA,Rg.sB,Rg.sC]
     refine Rg.sk 5 HeldS ?_
     simp only [Act.put,Rg.sA,Rg.sB,Rg.sC]
     refine Rg.sk 6 HeldS ?_
     simp only [Act.put,Rg.sA,Rg.sB,Rg.sC]
     refine Rg.sk 7 HeldS ?_
     simp only [Act.put,Rg.sA,Rg.sB,Rg.sC]
     refine Rg.sk 8 HeldS ?_
     simp only [Act.put,Rg.sA,Rg.sB,Rg.sC]
     refine Rg.sk 9 HeldS ?_
     simp only [Act.put,Rg.sA,Rg.sB,Rg.sC]
     refine Rg.sk 10 HeldS ?_
     simp only [Act.put,Rg.sA,Rg.sB,Rg.sC]
     refine Rg.sk 11 HeldS ?_
     simp only [Act.put,Rg.sA,Rg.sB,Rg.sC]
     refine Rg.sk 12 HeldS ?_
     simp only [Act.put,Rg.sA,Rg.sB,Rg.sC]
     refine Rg.sk 13 HeldS ?_
     simp only [Act.put,Rg.sA,Rg.sB,Rg.sC]
     refine Rg.sk 14 HeldS ?_
     simp only [Act.put,Rg.sA,Rg.sB,Rg.sC]
     refine Rg.pu 15 ?_
     simp only [Act.put,Rg.sA,Rg.sB,Rg.sC]
     refine Rg.pu 16 ?_
     simp only [Act.put,Rg.sA,Rg.sB,Rg.sC]
     refine Rg.wpD_done (by kernel_rfl) ?_
     have FIN:Hid (But Kb X X2 ∧ Kn X2 Kb s.length T.es.length (upV d T s)):=⟨HB1.out.2.1.trans b2,hK2⟩
     clear b2 hK2 q0 HSt HFN
     go_wp2
     go_ret
     exact ⟨rfl,FIN.out⟩
    ·have hn2:n < T.es.length:=by omega
     obtain rfl:V = upV d T s k n:=by rw [hV1,if_neg (by omega),Int.toNat_natCast]
     have hn0:(0:Int) ≤ (n:Int):=by omega
     clear hV1
     generalize hUV:upV d T s k n = UV
     have HFR1:Hid (∀ Y,But Kb X1 Y → Kn Y Kb s.length T.es.length (upV d T s) → Calls Tryz.prog 75 #[T.p,.int .i64 n,.agg #[.slice (some ⟨b,off,none⟩) s.length cap],.int .i64 (M:Int),.int .i64 D,.slice (some ⟨Kb,0,none⟩) L L] Y fun r X' => r = .returned (.bool UV) ∧ But Kb Y X' ∧ Kn X' Kb s.length T.es.length (upV d T s)):=fun Y h1 h2 => by
      have h:=HFR.out n Y hn2 h1 h2
      rw [hUV] at h
      exact h
     clear hUV
     go_enter Tryz.func104,Tryz.ntmps104
     go_upto_region 12 with fail
     first | rw [hX1] | skip
     clear hX1 c0 y0
     refine Rg.wpD_begin [0,1,2,3,4,5,6,7,8,9,10,11,12,13] (fun Y => Y.cell? ⟨X.heap.size,0,none⟩ = some (.slice (some ⟨b,off,none⟩) s.length cap)) (by kernel_rfl) ?_
     have q0:But Kb X1 X1.drew:=.of_below (below_drew (Below.refl _ _))
     have HeldS:=HSt.out _ q0
     refine Rg.ld 0 HeldS ?_
     simp only [Act.put,Rg.sA,Rg.sB,Rg.sC]
     refine Rg.ld 1 HeldS ?_
     simp only [Act.put,Rg.sA,Rg.sB,Rg.sC]
     refine Rg.dd 2 fun K hK => ?_
     go_simp
     go_at_call 131
     refine Calls.mono (HFN.out _ q0) ?_
     rintro r X2 ⟨rfl,n2,hww⟩
     have b2:But Kb X1 X2:=by rw [hww];exact .of_below (below_drewN' (below_drew (Below.refl _ _)) n2)
     have hK2:Kn X2 Kb s.length T.es.length (upV d T s):=by rw [hww];exact HKn.out.kept rfl
     clear hww
     refine hK _ _ (fun _ => HSt.out _ b2) ?_
     clear hK K HeldS
     have HeldS:=HSt.out _ b2
     refine Rg.ld 3 HeldS ?_
     simp only [Act.put,Rg.sA,Rg.sB,Rg.sC]
     refine Rg.ld 4 HeldS ?_
     simp only [Act.put,Rg.sA,Rg.sB,Rg.sC]
     refine Rg.ld 5 HeldS ?_
     simp only [Act.put,Rg.sA,Rg.sB,Rg.sC]
     refine Rg.ld 6 HeldS ?_
     simp only [Act.put,Rg.sA,Rg.sB,Rg.sC]
     refine Rg.ld 7 HeldS ?_
     simp only [Act.put,Rg.sA,Rg.sB,Rg.sC]
     refine Rg.ld 9 HeldS ?_
     simp only [Act.put,Rg.sA,Rg.sB,Rg.sC]
     refine Rg.ld 10 HeldS ?_
     simp only [Act.put,Rg.sA,Rg.sB,Rg.sC]
     refine Rg.ld 11 HeldS ?_
     simp only [Act.put,Rg.sA,Rg.sB,Rg.sC]
     refine Rg.ld 12 HeldS ?_
     simp only [Act.put,Rg.sA,Rg.sB,Rg.sC]
     refine Rg.ld 13 HeldS ?_
     simp only [Act.put,Rg.sA,Rg.sB,Rg.sC]
     refine Rg.dd 8 fun K hK => ?_
     go_simp
     go_at_call 131
     refine Calls.mono (HFN.out _ b2) ?_
     rintro r X3 ⟨rfl,n3,hww⟩
     have b3:But Kb X1 X3:=by rw [hww];exact b2.trans (.of_below (below_drawn X2 n3))
     have hK3:Kn X3 Kb s.length T.es.length (upV d T s):=by rw [hww];exact hK2.kept rfl
     clear hww
     refine hK _ _ (fun _ => HSt.out _ b3) ?_
     clear hK K HeldS
     refine Rg.dd 14 fun K hK => ?_
     go_simp
     go_at_call 75
     refine Calls.mono (HFR1.out _ b3 hK3) ?_
     rintro r X4 ⟨rfl,b4,hK4⟩
     refine hK _ _ (fun h => absurd h (by decide)) ?_
     clear hK K
     refine Rg.pu 15 ?_
     simp only [Act.put,Rg.sA,Rg.sB,Rg.sC]
     refine Rg.pu 16 ?_
     simp only [Act.put,Rg.sA,Rg.sB,Rg.sC]
     refine Rg.wpD_done (by kernel_rfl) ?_
     have FIN:Hid (But Kb X X4 ∧ Kn X4 Kb s.length T.es.length (upV d T s)):=⟨(HB1.out.2.1.trans b3).trans b4,hK4⟩
     clear b2 b3 b4 hK2 hK3 hK4 q0 HSt HFN HFR1
     go_wp2
     go_ret
     exact ⟨rfl,FIN.out⟩
  ·obtain rfl:V = false:=by
    rw [HV.out,Mt.ahead_next HE.out.tree.ok he]
    have:Mt.nextV T.es q.1 e = -1:=by
     unfold Mt.nextV
     rw [if_neg (fun h => h.elim (fun h => h12 (.inl h)) (fun h => h23 (.inl h))),if_neg (fun h => h.elim (fun h => h23 (.inr h)) (fun h => h12 (.inr h)))]
    rw [this]
    rfl
   have p1:(q.1 == 1) = false:=by rw [beq_eq_false_iff_ne];exact fun h => h12 (.inl h)
   have p4:(q.1 == 4) = false:=by rw [beq_eq_false_iff_ne];exact fun h => h12 (.inr h)
   have p2:(q.1 == 2) = false:=by rw [beq_eq_false_iff_ne];exact fun h => h23 (.inl h)
   have p3:(q.1 == 3) = false:=by rw [beq_eq_false_iff_ne];exact fun h => h23 (.inr h)
   have FIN:Hid (But Kb X X1 ∧ Kn X1 Kb s.length T.es.length (upV d T s)):=⟨HB1.out.2.1,HKn.out⟩
   clear h12 h23 HV hq hB1 k1 b1
   go_enter Tryz.func104,Tryz.ntmps104
   go_wp2
   go_ret
   exact ⟨rfl,FIN.out⟩
end Go.Proofs.YtnemagmakgiheaaGreat.Rf
