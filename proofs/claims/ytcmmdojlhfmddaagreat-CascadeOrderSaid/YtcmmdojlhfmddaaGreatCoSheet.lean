/- Declarations and sets of one package as those of another: the same cells; the sheet of the laws' own 'alive', by the document's own tokens. -/
import Derived.Test.YtcmmdojlhfmddaaGreatCsSeq
import Derived.Test.YtcmmdojlhfmddaaGreatSlTks
import Derived.Test.YtcmmdojlhfmddaaGreatRsRefC
import Derived.Test.YtcmmdojlhfmddaaGreatDcRefP
import Derived.Test.YtcmmdojlhfmddaaGreatCoSets
import Derived.Test.YtcmmdojlhfmddaaGreatSrLi
import Derived.LoopN
import Derived.Laws.OwnMore
namespace Go.Proofs.YtcmmdojlhfmddaaGreat.Co
open Go.Proofs.YtcmmdojlhfmddaaGreat.Tre
open Go Go.RowKit Sl Mt Wg Cs
def cssB:List UInt8:=[97,123,119,105,100,116,104,58,49,112,120,125,97,123,119,105,100,116,104,58,50,112,120,125]
def cv (t:Bt):Vl.Bt:=⟨t.kind,t.text,t.n,t.whole,t.c⟩
def wdT:ByteArray:=⟨#[119,105,100,116,104]⟩
def pxT (n:Int):Bt:=⟨8,⟨#[112,120]⟩,n,false,0⟩
def preT:List Bt:=[⟨1,⟨#[97]⟩,0,false,0⟩]
def blkT (n:Int):List Bt:=[⟨1,wdT,0,false,0⟩,⟨11,⟨#[]⟩,0,false,0⟩,pxT n]
def aSel:Sel:=[(0,⟨⟨#[97]⟩,[],[],[],[]⟩)]
theorem css_toks:tksB cssB = preT ++ [⟨14,⟨#[]⟩,0,false,0⟩] ++ blkT 1000 ++ [⟨15,⟨#[]⟩,0,false,0⟩] ++ preT ++ [⟨14,⟨#[]⟩,0,false,0⟩] ++ blkT 2000 ++ [⟨15,⟨#[]⟩,0,false,0⟩]:=by decide +kernel
theorem css_rules:rules (preT ++ [⟨14,⟨#[]⟩,0,false,0⟩] ++ blkT 1000 ++ [⟨15,⟨#[]⟩,0,false,0⟩] ++ preT ++ [⟨14,⟨#[]⟩,0,false,0⟩] ++ blkT 2000 ++ [⟨15,⟨#[]⟩,0,false,0⟩]) = [(preT,blkT 1000),(preT,blkT 2000)]:=by decide +kernel
theorem css_sel:parseV preT = some [aSel]:=by rfl
theorem css_decl1:Dc.decls (blkT 1000) = [⟨wdT,[pxT 1000],false⟩]:=by decide +kernel
theorem css_decl2:Dc.decls (blkT 2000) = [⟨wdT,[pxT 2000],false⟩]:=by decide +kernel
theorem css_set1 (v:Value):Vl.setsV [⟨wdT,[cv (pxT 1000)],v,false⟩] = [(4,2,1000,false)]:=by rfl
theorem css_set2 (v:Value):Vl.setsV [⟨wdT,[cv (pxT 2000)],v,false⟩] = [(4,2,2000,false)]:=by rfl
theorem pre_good:Sl.Good preT:=fun t ht => by
 unfold preT at ht
 rw [List.mem_singleton] at ht
 subst ht
 exact ⟨by decide,by decide,by decide⟩
theorem bts_conv {n:Nat} {W:World} {v:Value} {ts:List Bt} (h:BtsAt n W v ts):Vl.BtsAt n W v (ts.map cv):=by
 rcases h with ⟨rfl,h⟩ | ⟨bk,off,cap,rfl,h1,h2,h3,h4⟩
 ·exact .inl ⟨rfl,h⟩
 ·refine .inr ⟨bk,off,cap,by simp,by simpa using h1,h2,h3,fun j t hj => ?_⟩
  rw [List.getElem?_map] at hj
  obtain ⟨t',h5,rfl⟩:=Option.map_eq_some_iff.1 hj
  exact h4 j t' h5
theorem dl_conv {b:Nat} {W:World} {v:Value} {q:Dc.Dc × Value} (h:Dc.DcsAt b W v [q]):Vl.DlsAt W.heap.size W v [⟨q.1.name,q.1.value.map cv,q.2,q.1.imp⟩]:=by
 have hr:=h.row
 have hv:=h.each q (List.mem_singleton.2 rfl)
 obtain ⟨h0,h4⟩:=hr
 rcases h4 with ⟨_,h4⟩ | ⟨g,c,cur,rfl,h5,h6,h7,h8,h9⟩
 ·simp at h4
 ·have hr':W.ownsRow b 107 3 (.slice (some ⟨g,0,none⟩) 1 c) 1 ([q].flatMap Dc.dcCells):=⟨h0,.inr ⟨g,c,cur,rfl,h5,h6,h7,h8,h9⟩⟩
  have hc:=fun i u hi => hr'.cells (g:=g) rfl i u hi
  have c0:=hc 0 (.string q.1.name) rfl
  have c1:=hc 1 q.2 rfl
  have c2:=hc 2 (.bool q.1.imp) rfl
  refine .inr ⟨g,0,c,rfl,h7,h8,(Array.getElem?_eq_some_iff.1 h6).1,fun j d hj => ?_⟩
  cases j with
  | succ j => simp at hj
  | zero =>
   obtain rfl:=Option.some.inj hj
   exact ⟨c0,c1,c2,bts_conv (BtsAt.of_owns hv rfl)⟩
def stO (s:Vl.Sv):St:=⟨s.1,s.2.1,s.2.2.1,s.2.2.2⟩
theorem set_conv {b:Nat} {W:World} {v:Value} {s:Vl.Sv} (h:Vl.SetsIn b W v [s]):StsT W.heap.size W v [stO s]:=by
 obtain ⟨h0,h4⟩:=h
 rcases h4 with ⟨_,h4⟩ | ⟨g,c,cur,rfl,h5,h6,h7,h8,h9⟩
 ·simp at h4
 ·have hr':W.ownsRow b 25 4 (.slice (some ⟨g,0,none⟩) 1 c) 1 ([s].flatMap Vl.svCells):=⟨h0,.inr ⟨g,c,cur,rfl,h5,h6,h7,h8,h9⟩⟩
  have hc:=fun i u hi => hr'.cells (g:=g) rfl i u hi
  refine .inr ⟨g,0,c,rfl,h7,h8,(Array.getElem?_eq_some_iff.1 h6).1,fun j d hj => ?_⟩
  cases j with
  | succ j => simp at hj
  | zero =>
   obtain rfl:=Option.some.inj hj
   refine ⟨Vl.svCells s,rfl,rfl,fun i u hu => ?_⟩
   have:=hc i u (by simpa using hu)
   rwa [show (⟨g,0,none⟩:Addr).add i = ⟨g,0 + 0 * 4 + i,none⟩ by
    unfold Addr.add
    split
    ·simp_all
    ·simp] at this
end Go.Proofs.YtcmmdojlhfmddaaGreat.Co

/- The document's own Sheet at the sheet of the laws' own 'alive': two rules. -/
set_option maxRecDepth 100000
namespace Go.Proofs.YtcmmdojlhfmddaaGreat.Co
open Go.Proofs.YtcmmdojlhfmddaaGreat.Tre
open Go Go.RowKit Sl Mt Wg Cs
def R1:Rs:=([aSel],[⟨4,2,1000,false⟩])
def R2:Rs:=([aSel],[⟨4,2,2000,false⟩])
theorem infoRule:(Tryz.prog.info? 40).map (fun i => (i.zero,i.size,i.bytes)) = some (some (.agg #[.slice none 0 0,.slice none 0 0]),2,48):=by kernel_rfl
theorem infoRule_parts:∃ i,Tryz.prog.info? 40 = some i ∧ i.zero = some (.agg #[.slice none 0 0,.slice none 0 0]) ∧ i.size = 2 ∧ i.bytes = 48:=by
 have h:=infoRule
 cases hi:Tryz.prog.info? 40 with
 | none => rw [hi] at h;cases h
 | some i => rw [hi] at h;simp at h;exact ⟨i,rfl,h⟩
theorem two_new (w:World) (t:TypeId) (a b:Value):∀ j u,[a,b][j]? = some u → (w.alloc (.cells #[a,b] t)).cell? ((⟨w.heap.size,0,none⟩:Addr).add j) = some u:=by
 intro j u hj
 have h1:(w.alloc (.cells #[a,b] t)).heap[w.heap.size]? = _:=World.alloc_heap_new w _
 have h2:(⟨w.heap.size,0,none⟩:Addr).add j = ⟨w.heap.size,j,none⟩:=by
  unfold Addr.add
  split
  ·simp_all
  ·simp
 rw [h2]
 simp only [World.cell?,h1]
 match j,hj with
 | 0,hj => simpa using hj
 | 1,hj => simpa using hj
 | j + 2,hj => simp at hj
theorem row_at2 {n₀ m sz:Nat} {W:World} {e:TypeId} {v:Value} {vs:List Value} (h:W.ownsRow n₀ e sz v m vs) (hm:0 < m) {i:Nat} {u:Value} (hi:vs[i]? = some u) :
  ∃ g c,v = .slice (some ⟨g,0,none⟩) m c ∧ m ≤ c ∧ c ≤ maxLen ∧ n₀ ≤ g ∧ g < W.heap.size ∧ W.cell? ⟨g,i,none⟩ = some u:=by
 obtain ⟨h0,h4⟩:=h
 rcases h4 with ⟨_,h4⟩ | ⟨g,c,cur,rfl,h5,h6,h7,h8,h9⟩
 ·omega
 ·have hr':W.ownsRow n₀ e sz (.slice (some ⟨g,0,none⟩) m c) m vs:=⟨h0,.inr ⟨g,c,cur,rfl,h5,h6,h7,h8,h9⟩⟩
  refine ⟨g,c,rfl,h7,h8,h5,(Array.getElem?_eq_some_iff.1 h6).1,?_⟩
  have:=hr'.cells (g:=g) rfl i u hi
  rwa [show (⟨g,0,none⟩:Addr).add i = ⟨g,i,none⟩ by
   unfold Addr.add
   split
   ·simp_all
   ·simp] at this
theorem bytesL {n:Nat} {W:World} {v:Value} {l:List UInt8} (h:BytesAt n W v l):∃ p c,v = .slice p l.length c:=by
 rcases h with ⟨rfl,h⟩ | ⟨bk,off,cap,rfl,_⟩
 ·rcases h with rfl | ⟨bk,off,cap,rfl⟩
  ·exact ⟨_,_,rfl⟩
  ·exact ⟨_,_,rfl⟩
 ·exact ⟨_,_,rfl⟩
theorem one_rule (w:World) (a:Value) (ha:BtsAt w.heap.size w a preT) :
  Calls Tryz.prog 10 #[a] w fun e w' => ∃ p c,e = .returned (.tuple #[.slice p 1 c,.bool true]) ∧ Sl.SelsAt 9 (fun b => w.heap.size < b) w' (.slice p 1 c) [aSel] ∧ Below w.heap.size w w':=by
 refine (Sr.selectors_any a preT w ha pre_good).mono ?_
 rintro e w' ⟨l,y,ok,rfl,hx,hb,⟨rfl,hl⟩ | ⟨rfl,hl,_⟩⟩
 ·rw [css_sel] at hl
  obtain rfl:[aSel] = l:=Option.some.inj hl
  obtain ⟨p,c,rfl,_⟩:=hx.form
  exact ⟨p,c,rfl,hx,hb⟩
 ·rw [css_sel] at hl
  cases hl
theorem one_sets (w:World) (b:Value) (bl:List Bt) (d:Dc.Dc) (s:Vl.Sv) (hd:Dc.decls bl = [d]) (hs:∀ v,Vl.setsV [⟨d.name,d.value.map cv,v,d.imp⟩] = [s]) (hl:bl.length ≤ 1000) (ht:∀ t ∈ bl,t.text.size ≤ maxLen) (hdt:∀ t ∈ d.value.map cv,t.text.size ≤ maxLen) (hw:(Vl.propV d.name.data.toList).1 = 4 ∧ (d.value.map cv).length = 1) (hb:BtsAt w.heap.size w b bl) :
  Calls Tryz.prog 18 #[b] w fun e w' => ∃ v,e = .returned v ∧ Below w.heap.size w w' ∧ Calls Tryz.prog 17 #[v] w' fun e2 w2 => ∃ p c,e2 = .returned (.slice p 1 c) ∧ Vl.SetsIn w'.heap.size w2 (.slice p 1 c) [s] ∧ Below w'.heap.size w' w2:=by
 refine (Dc.refDecls_any b bl w hb ht (by omega)).mono ?_
 rintro e w' ⟨v,rfl,⟨qs,hq,hD⟩,hbl⟩
 rw [hd] at hq
 obtain ⟨q,rfl⟩:∃ q,qs = [q]:=List.length_eq_one_iff.1 (by have:=congrArg List.length hq;simpa using this)
 obtain rfl:q.1 = d:=by simpa using hq
 refine ⟨v,rfl,hbl,?_⟩
 refine (Vl.refSets_w v _ w' (dl_conv hD) (fun d hd t ht => ?_) (by simp) (fun d hd => ?_)).mono ?_
 ·rw [List.mem_singleton] at hd
  subst hd
  exact hdt t ht
 ·rw [List.mem_singleton] at hd
  subst hd
  exact hw
 ·rintro e2 w2 ⟨v2,rfl,hS,hb2⟩
  rw [hs] at hS
  obtain ⟨p,c,rfl⟩:=hS.form
  exact ⟨p,c,rfl,hS,hb2⟩
theorem sel_keep {lo:Nat} {W X:World} {v:Value} {l:List Sel} (h:Sl.SelsAt 9 (fun b => lo < b) W v l) (hs:W.heap.size ≤ X.heap.size) (hk:∀ r,lo < r → r < W.heap.size → X.heap[r]? = W.heap[r]?):SelsR 9 X.heap.size X v l:=
 Wg.SelsAt.toR 9 (Sl.SelsAt.fr 9 (P':=fun _ => True) h ⟨hs,fun b hb hc => ⟨hk b hb hc.lt,trivial⟩⟩)
theorem set_keep {b:Nat} {W X:World} {v:Value} {s:Vl.Sv} (h:Vl.SetsIn b W v [s]) (hk:∀ r,b ≤ r → r < W.heap.size → X.heap[r]? = W.heap[r]?):StsT X.heap.size X v [stO s]:=
 set_conv (b:=b) (owns_same (W':=X) h (fun g hg => hk g (owns_lt h hg).1 (owns_lt h hg).2))
theorem blk_small (n:Int):∀ t ∈ blkT n,t.text.size ≤ maxLen:=fun t ht => by
 unfold blkT at ht
 simp only [List.mem_cons,List.not_mem_nil,or_false] at ht
 unfold maxLen
 rcases ht with rfl | rfl | rfl
 ·decide
 ·decide
 ·exact (by decide:(⟨#[112,120]⟩:ByteArray).size ≤ 2 ^ 63 - 1)
theorem px_small (n:Int):∀ t ∈ [pxT n].map cv,t.text.size ≤ maxLen:=fun t ht => by
 simp only [List.map_cons,List.map_nil,List.mem_singleton] at ht
 subst ht
 unfold maxLen
 exact (by decide:(⟨#[112,120]⟩:ByteArray).size ≤ 2 ^ 63 - 1)
set_option maxHeartbeats 1000000 in
theorem sheet_any (v:Value) (w:World) (hB:BytesAt w.heap.size w v cssB) :
  Calls Tryz.prog 8 #[v] w fun e w' => ∃ (x1 x2:Rv) (p:Option Addr) (c:Nat),e = .returned (.slice p 2 c) ∧ RulesV w' (.slice p 2 c) [x1,x2] ∧ x1.r = R1 ∧ x2.r = R2 ∧ SelsR 9 w'.heap.size w' x1.sv [aSel] ∧ SelsR 9 w'.heap.size w' x2.sv [aSel] ∧ Below w.heap.size w w':=by
 have h1:=refPrepare_any v cssB w hB (by decide)
 obtain ⟨p0,cap0,rfl⟩:=bytesL hB
 rw [show cssB.length = 24 from rfl] at h1 ⊢
 clear hB
 go_enter Tryz.func8,Tryz.ntmps8
 go_wp2_with fail
 refine h1.mono ?_
 clear h1
 rintro e w1 ⟨v1,rfl,hr1,b1⟩
 have h2:=Ref.tokens_any v1 (prep (ipts cssB)) w1 (IntsAt.of_owns hr1 rfl) (by decide +kernel)
 rw [prep_fixed5] at h2
 have hlen:(toks Ref.nv (prep (ipts cssB))).length = (tksB cssB).length:=by unfold tksB;rw [List.length_map]
 rw [hlen,show (toks Ref.nv (prep (ipts cssB))).map Ref.btOf = tksB cssB from rfl,css_toks] at h2
 clear hr1 hlen
 go_wp2_with fail
 refine h2.mono ?_
 clear h2
 rintro e w2 ⟨v2,rfl,hr2,b2⟩
 have h3:=refRules_any v2 _ w2 (BtsAt.of_owns hr2 rfl) (by decide)
 rw [css_rules] at h3
 clear hr2
 go_wp2_with fail
 refine h3.mono ?_
 clear h3
 rintro e w3 ⟨v3,rfl,⟨vs,hR⟩,b3⟩
 have b03:=below_next (below_next b1 b2) b3
 obtain ⟨⟨a1,k1⟩,⟨a2,k2⟩,rfl⟩:∃ p q,vs = [p,q]:=by
  have:=hR.len
  match vs,this with
  | [p,q],_ => exact ⟨p,q,rfl⟩
 obtain ⟨e1,e2⟩:=hR.each 0 (a1,k1) _ rfl rfl
 obtain ⟨e3,e4⟩:=hR.each 1 (a2,k2) _ rfl rfl
 have hRr:w3.ownsRow w2.heap.size 67 2 v3 2 [a1,k1,a2,k2]:=hR.row
 obtain ⟨g3,c3,hv3,n1,n2,_,n3,z0⟩:=row_at2 hRr (by decide) (i:=0) (u:=a1) rfl
 obtain ⟨_,_,hv4,_,_,_,_,z1⟩:=row_at2 hRr (by decide) (i:=1) (u:=k1) rfl
 obtain ⟨_,_,hv5,_,_,_,_,z2⟩:=row_at2 hRr (by decide) (i:=2) (u:=a2) rfl
 obtain ⟨_,_,hv6,_,_,_,_,z3⟩:=row_at2 hRr (by decide) (i:=3) (u:=k2) rfl
 rw [hv3] at hv4 hv5 hv6
 cases hv4
 cases hv5
 cases hv6
 subst hv3
 obtain ⟨i0,hi,hz0,hz1,hz2⟩:=infoRule_parts
 have HE:Hid (BtsAt w3.heap.size w3 a1 preT ∧ BtsAt w3.heap.size w3 k1 (blkT 1000) ∧ BtsAt w3.heap.size w3 a2 preT ∧ BtsAt w3.heap.size w3 k2 (blkT 2000)):=⟨BtsAt.of_owns e1 rfl,BtsAt.of_owns e2 rfl,BtsAt.of_owns e3 rfl,BtsAt.of_owns e4 rfl⟩
 have HB0:Hid (Below w3.heap.size w3 w3 ∧ Below w.heap.size w w3):=⟨Below.refl _ _,b03⟩
 clear hR hRr e1 e2 e3 e4 b1 b2 b3 b03 n2
 obtain ⟨fa1,ga1,rfl⟩:∃ p c,a1 = .slice p 1 c:=HE.out.1.len
 obtain ⟨fk1,gk1,rfl⟩:∃ p c,k1 = .slice p 3 c:=HE.out.2.1.len
 obtain ⟨fa2,ga2,rfl⟩:∃ p c,a2 = .slice p 1 c:=HE.out.2.2.1.len
 obtain ⟨fk2,gk2,rfl⟩:∃ p c,k2 = .slice p 3 c:=HE.out.2.2.2.len
 go_wp2_with fail
 refine wp_loop_rounds 3 ?_
 rw [rounds_succ]
 have HZ0:Hid (∀ Y,Below w3.heap.size w3 Y → Y.cell? ⟨g3,0,none⟩ = some (.slice fa1 1 ga1) ∧ Y.cell? ⟨g3,1,none⟩ = some (.slice fk1 3 gk1)):=fun Y hY => ⟨(hY.cell (p:=⟨g3,0,none⟩) n3).trans z0,(hY.cell (p:=⟨g3,1,none⟩) n3).trans z1⟩
 obtain ⟨y00,y01⟩:=HZ0.out w3 HB0.out.1
 have hpa0:=one_rule w3 (.slice fa1 1 ga1) (HE.out.1.next HB0.out.1)
 go_wp2_with fail
 refine hpa0.mono ?_
 clear hpa0 y00 y01
 rintro e Wp0 ⟨p0s,c0s,rfl,hsel0,bp0⟩
 have HSEL0:Hid (Sl.SelsAt 9 (fun b => w3.heap.size < b) Wp0 (.slice p0s 1 c0s) [aSel]):=hsel0
 have bWp0:Below w3.heap.size w3 Wp0:=below_next HB0.out.1 bp0
 have yk0:=(HZ0.out Wp0 bWp0).2
 have hde0:=one_sets Wp0 (.slice fk1 3 gk1) (blkT 1000) _ _ css_decl1 css_set1 (by decide) (blk_small _) (px_small _) ⟨by decide +kernel,rfl⟩ (HE.out.2.1.next bWp0)
 have HBW0:Hid (Below w3.heap.size w3 Wp0 ∧ Below w3.heap.size w3 Wp0):=⟨bWp0,bp0⟩
 clear hsel0 bp0 bWp0
 go_wp2_with fail
 refine hde0.mono ?_
 clear hde0 yk0
 rintro e Wd0 ⟨vd0,rfl,bd0,hse0⟩
 have HBD0:Hid (Below Wp0.heap.size Wp0 Wd0):=bd0
 clear bd0
 go_wp2_with fail
 refine hse0.mono ?_
 clear hse0
 rintro e Ws0 ⟨t0,u0,rfl,hst0,bs0⟩
 have HST0:Hid (Vl.SetsIn Wd0.heap.size Ws0 (.slice t0 1 u0) _ ∧ Below Wd0.heap.size Wd0 Ws0):=⟨hst0,bs0⟩
 have bW0:Below w3.heap.size w3 Ws0:=below_next (below_next HBW0.out.1 HBD0.out) bs0
 obtain ⟨v0',Y0,hrun0,hr0,hg0,hnil0,hat0⟩:=run_append_own_at (P:=Tryz.prog) (Ws0.alloc (.cells #[.slice p0s 1 c0s,.slice t0 1 u0] 40)) w.heap.size 41 41 40 i0 _ 2 48 Tryz.underlying41 hi hz0 hz1 hz2 rfl (by decide) (.slice none 0 0) 0 [] (World.ownsRow_nil _ _ _ _)
  ⟨Ws0.heap.size,0,none⟩ 1 1 [.slice p0s 1 c0s,.slice t0 1 u0] rfl (two_new Ws0 _ _ _) (by simp [Value.oneCell']) (by unfold maxLen;omega) (by omega) (by have h1:=bW0.size;have h2:=HB0.out.2.size;simp;omega)
 obtain ⟨q0,cc0,rfl⟩:=Sl.owns_form hr0
 have hb0:Below Ws0.heap.size Ws0 Y0:=(World.grownBy_alloc Ws0 (.cells #[.slice p0s 1 c0s,.slice t0 1 u0] 40) none |> fun ha => (⟨hg0.os,hg0.tape,hg0.output,by have:=hg0.size;simp at this;omega,fun r hr => (hg0.block r (by simp;omega) (by simp [Value.ownBlock])).trans (Below.heap_alloc _ _ _ hr)⟩:Below Ws0.heap.size Ws0 Y0))
 have hlo0:∀ g,(Value.slice q0 1 cc0).ownBlock = some g → Ws0.heap.size ≤ g:=fun g hg => by
  rcases hat0 with h | h
  ·rw [hg] at h;cases h
  ·rw [hg] at h
   have:=Option.some.inj h
   simp at this
   omega
 have HY0:Hid (Y0.ownsRow w.heap.size 40 2 (.slice q0 1 cc0) 1 [.slice p0s 1 c0s,.slice t0 1 u0] ∧ Below Ws0.heap.size Ws0 Y0 ∧ ∀ g,(Value.slice q0 1 cc0).ownBlock = some g → Ws0.heap.size ≤ g):=⟨hr0,hb0,hlo0⟩
 have HB1:Hid (Below w3.heap.size w3 Y0 ∧ Below w.heap.size w Y0):=by
  have h1:=below_next bW0 hb0
  exact ⟨h1,below_next HB0.out.2 h1⟩
 have hrun0':Hid (_ = _):=hrun0
 clear hr0 hg0 hnil0 hat0 hb0 hlo0 hst0 bs0 bW0 hrun0
 go_wp2_with (at_builtin;refine wpList_plain rfl fun K hK => ?_;refine opw_append_runS _ _ 41 rfl rfl rfl hrun0'.out (hK _ _ ?_))
 rw [rounds_succ]
 have HZ1:Hid (∀ Y,Below w3.heap.size w3 Y → Y.cell? ⟨g3,2,none⟩ = some (.slice fa2 1 ga2) ∧ Y.cell? ⟨g3,3,none⟩ = some (.slice fk2 3 gk2)):=fun Y hY => ⟨(hY.cell (p:=⟨g3,2,none⟩) n3).trans z2,(hY.cell (p:=⟨g3,3,none⟩) n3).trans z3⟩
 obtain ⟨y10,y11⟩:=HZ1.out Y0 HB1.out.1
 have hpa1:=one_rule Y0 (.slice fa2 1 ga2) (HE.out.2.2.1.next HB1.out.1)
 go_wp2_with fail
 refine hpa1.mono ?_
 clear hpa1 y10 y11
 rintro e Wp1 ⟨p1s,c1s,rfl,hsel1,bp1⟩
 have HSEL1:Hid (Sl.SelsAt 9 (fun b => Y0.heap.size < b) Wp1 (.slice p1s 1 c1s) [aSel]):=hsel1
 have bWp1:Below w3.heap.size w3 Wp1:=below_next HB1.out.1 bp1
 have yk1:=(HZ1.out Wp1 bWp1).2
 have hde1:=one_sets Wp1 (.slice fk2 3 gk2) (blkT 2000) _ _ css_decl2 css_set2 (by decide) (blk_small _) (px_small _) ⟨by decide +kernel,rfl⟩ (HE.out.2.2.2.next bWp1)
 have HBW1:Hid (Below w3.heap.size w3 Wp1 ∧ Below Y0.heap.size Y0 Wp1):=⟨bWp1,bp1⟩
 clear hsel1 bp1 bWp1
 go_wp2_with fail
 refine hde1.mono ?_
 clear hde1 yk1
 rintro e Wd1 ⟨vd1,rfl,bd1,hse1⟩
 have HBD1:Hid (Below Wp1.heap.size Wp1 Wd1):=bd1
 clear bd1
 go_wp2_with fail
 refine hse1.mono ?_
 clear hse1
 rintro e Ws1 ⟨t1,u1,rfl,hst1,bs1⟩
 have HST1:Hid (Vl.SetsIn Wd1.heap.size Ws1 (.slice t1 1 u1) _ ∧ Below Wd1.heap.size Wd1 Ws1):=⟨hst1,bs1⟩
 have bW1:Below Y0.heap.size Y0 Ws1:=below_next (below_next HBW1.out.2 HBD1.out) bs1
 obtain ⟨v1',Y1,hrun1,hr1,hg1,hnil1,hat1⟩:=run_append_own_at (P:=Tryz.prog) (Ws1.alloc (.cells #[.slice p1s 1 c1s,.slice t1 1 u1] 40)) w.heap.size 41 41 40 i0 _ 2 48 Tryz.underlying41 hi hz0 hz1 hz2 rfl (by decide) (.slice q0 1 cc0) 1 [.slice p0s 1 c0s,.slice t0 1 u0] (owns_same HY0.out.1 (fun g hg => ((Below.heap_alloc _ _ _ (by have h1:=(owns_lt HY0.out.1 hg).2;have h2:=bW1.size;omega)).trans (bW1.block g (owns_lt HY0.out.1 hg).2))))
  ⟨Ws1.heap.size,0,none⟩ 1 1 [.slice p1s 1 c1s,.slice t1 1 u1] rfl (two_new Ws1 _ _ _) (by simp [Value.oneCell']) (by unfold maxLen;omega) (by omega) (by have h1:=bW1.size;have h2:=HB1.out.2.size;simp;omega)
 obtain ⟨q1,cc1,rfl⟩:=Sl.owns_form hr1
 have hG:=HY0.out.2.2
 have hglt:∀ g,(Value.slice q0 1 cc0).ownBlock = some g → g < Y0.heap.size:=fun g hg => (owns_lt HY0.out.1 hg).2
 have s10:Y0.heap.size ≤ Ws1.heap.size:=bW1.size
 have gs1:=hg1.size
 simp only [World.size_alloc] at gs1
 have same1:∀ r,Y0.heap.size ≤ r → r < Ws1.heap.size → Y1.heap[r]? = Ws1.heap[r]?:=fun r h1 h2 => (hg1.block r (by simp;omega) (fun e => by have:=hglt r e.symm;omega)).trans (Below.heap_alloc _ _ _ h2)
 have same0:∀ r,r < Ws0.heap.size → Y1.heap[r]? = Ws0.heap[r]?:=fun r hr => by
  have h2:=HY0.out.2.1.size
  exact ((hg1.block r (by simp;omega) (fun e => by have:=hG r e.symm;omega)).trans (Below.heap_alloc _ _ _ (by omega))).trans ((bW1.block r (by omega)).trans (HY0.out.2.1.block r hr))
 have hbY1:Below w.heap.size w Y1:=by
  have h2:=HB1.out.2.size
  refine ⟨(hg1.os.trans bW1.os).trans HB1.out.2.os,(hg1.tape.trans bW1.tape).trans HB1.out.2.tape,(hg1.output.trans bW1.output).trans HB1.out.2.output,by omega,fun r hr => ?_⟩
  exact ((hg1.block r (by simp;omega) (fun e => by have:=(owns_lt HY0.out.1 e.symm).1;omega)).trans (Below.heap_alloc _ _ _ (by omega))).trans ((bW1.block r (by omega)).trans (HB1.out.2.block r hr))
 have sp0:=HBW0.out.1.size
 have sd0:=HBD0.out.size
 have ss0:=HST0.out.2.size
 have sp1:=HBW1.out.2.size
 have sd1:=HBD1.out.size
 have ss1:=HST1.out.2.size
 have szY:Ws0.heap.size ≤ Y1.heap.size:=by have:=HY0.out.2.1.size;omega
 have hq0:SelsR 9 Y1.heap.size Y1 (.slice p0s 1 c0s) [aSel]:=sel_keep HSEL0.out (by omega) (fun r h1 h2 => (same0 r (by omega)).trans (((HST0.out.2.block r (by omega))).trans (HBD0.out.block r h2)))
 have hq1:SelsR 9 Y1.heap.size Y1 (.slice p1s 1 c1s) [aSel]:=sel_keep HSEL1.out (by omega) (fun r h1 h2 => (same1 r (by omega) (by omega)).trans (((HST1.out.2.block r (by omega))).trans (HBD1.out.block r h2)))
 have ht0:StsT Y1.heap.size Y1 (.slice t0 1 u0) [stO (4,2,1000,false)]:=set_keep HST0.out.1 (fun r h1 h2 => same0 r h2)
 have ht1:StsT Y1.heap.size Y1 (.slice t1 1 u1) [stO (4,2,2000,false)]:=set_keep HST1.out.1 (fun r h1 h2 => same1 r (by omega) h2)
 have FIN:Hid (RulesV Y1 (.slice q1 2 cc1) [⟨p0s,c0s,t0,u0,R1⟩,⟨p1s,c1s,t1,u1,R2⟩] ∧ SelsR 9 Y1.heap.size Y1 (.slice p0s 1 c0s) [aSel] ∧ SelsR 9 Y1.heap.size Y1 (.slice p1s 1 c1s) [aSel] ∧ Below w.heap.size w Y1):=by
  refine ⟨?_,hq0,hq1,hbY1⟩
  obtain ⟨g,c,hv,m1,m2,_,m3,w0⟩:=row_at2 hr1 (by decide) (i:=0) (u:=.slice p0s 1 c0s) rfl
  obtain ⟨_,_,hv1,_,_,_,_,w1'⟩:=row_at2 hr1 (by decide) (i:=1) (u:=.slice t0 1 u0) rfl
  obtain ⟨_,_,hv2,_,_,_,_,w2'⟩:=row_at2 hr1 (by decide) (i:=2) (u:=.slice p1s 1 c1s) rfl
  obtain ⟨_,_,hv3,_,_,_,_,w3'⟩:=row_at2 hr1 (by decide) (i:=3) (u:=.slice t1 1 u1) rfl
  rw [hv] at hv1 hv2 hv3
  cases hv1
  cases hv2
  cases hv3
  refine .inr ⟨g,0,c,by cases hv;rfl,m1,m2,fun j x hj => ?_⟩
  match j,hj with
  | 0,hj =>
   obtain rfl:=Option.some.inj hj
   exact ⟨w0,w1',m3,ht0⟩
  | 1,hj =>
   obtain rfl:=Option.some.inj hj
   exact ⟨w2',w3',m3,ht1⟩
  | j + 2,hj => simp at hj
 have hrun1':Hid (_ = _):=hrun1
 clear hr1 hg1 hnil1 hat1 hst1 bs1 bW1 hrun1 hG hglt s10 gs1 same1 same0 hbY1 sp0 sd0 ss0 sp1 sd1 ss1 szY hq0 hq1 ht0 ht1
 go_wp2_with (at_builtin;refine wpList_plain rfl fun K hK => ?_;refine opw_append_runS _ _ 41 rfl rfl rfl hrun1'.out (hK _ _ ?_))
 rw [rounds_succ]
 go_wp2
 go_ret
 exact ⟨⟨p0s,c0s,t0,u0,R1⟩,⟨p1s,c1s,t1,u1,R2⟩,_,_,rfl,FIN.out.1,rfl,rfl,FIN.out.2.1,FIN.out.2.2.1,FIN.out.2.2.2⟩
end Go.Proofs.YtcmmdojlhfmddaaGreat.Co
