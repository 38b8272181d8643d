/- A rule of one set in a block of its own. -/
import Derived.Test.YtcmmdojlhfmddaaGreatCoSheet
import Derived.Test.YtcmmdojlhfmddaaGreatCoAsk
import Derived.Test.YtcmmdojlhfmddaaGreatCsAll
import Derived.Test.YtcmmdojlhfmddaaGreatDmBig
import Derived.Test.YtcmmdojlhfmddaaGreatRsAlive
import Derived.Test.YtcmmdojlhfmddaaGreatCoSels
import Derived.Test.YtcmmdojlhfmddaaGreatCoRgn
import Derived.Test.YtcmmdojlhfmddaaGreatCoArgs
import Derived.Deep.DeepCutAuto
namespace Go.Proofs.YtcmmdojlhfmddaaGreat.Co
open Go.Proofs.YtcmmdojlhfmddaaGreat.Tre
open Go Go.RowKit Sl Mt Wg Cs
abbrev setL (s:St):Array Value:=#[.int .i64 s.prop,.int .i64 s.kind,.int .i64 s.n,.bool s.imp]
def RuleBox (X:World) (B:Nat) (l:List Sel) (s:St):Prop:=
 ∃ (q:Option Addr) (c Bs:Nat),X.heap[B]? = some (.cells #[.slice q l.length c,.slice (some ⟨Bs,0,none⟩) 1 1] 40 (0,0)) ∧ X.heap[Bs]? = some (.cells (setL s) 25 (0,0)) ∧ SelsR 9 X.heap.size X (.slice q l.length c) l
theorem alloc_at {w X:World} {o:Obj} (h:w.alloc o = X):X.heap[w.heap.size]? = some o:=by rw [← h];exact World.alloc_heap_new w o
theorem alloc_keep {w X Z:World} {o:Obj} (h:w.alloc o = X) (hZ:Below X.heap.size X Z):Z.heap[w.heap.size]? = some o:=(hZ.block _ (Array.getElem?_eq_some_iff.1 (alloc_at h)).1).trans (alloc_at h)
theorem RuleBox.next {X Y:World} {B:Nat} {l:List Sel} {s:St} (h:RuleBox X B l s) (hb:Below X.heap.size X Y):RuleBox Y B l s:=by
 obtain ⟨q,c,Bs,h1,h2,h3⟩:=h
 exact ⟨q,c,Bs,(hb.block _ (Array.getElem?_eq_some_iff.1 h1).1).trans h1,(hb.block _ (Array.getElem?_eq_some_iff.1 h2).1).trans h2,sels_sees h3 (Nat.le_refl _) (Sees.of_below hb)⟩
theorem set2_at {F:World} {B:Nat} {x y u v:Value} {t:TypeId} (h:F.heap[B]? = some (.cells #[x,y] t (0,0))):((F.setCell ⟨B,0,none⟩ u).setCell ⟨B,1,none⟩ v).heap[B]? = some (.cells #[u,v] t (0,0)):=by
 simp [World.setCell,Array.getElem?_modify,h]
theorem set2_other {F:World} {B r:Nat} {u v:Value} (hr:r ≠ B):((F.setCell ⟨B,0,none⟩ u).setCell ⟨B,1,none⟩ v).heap[r]? = F.heap[r]?:=by
 simp [World.setCell,Array.getElem?_modify,hr.symm]
theorem set2_below {n:Nat} {w F:World} {B:Nat} {u v:Value} (h:Below n w F) (hB:n ≤ B):Below n w ((F.setCell ⟨B,0,none⟩ u).setCell ⟨B,1,none⟩ v):=
 ⟨h.os,h.tape,h.output,by simpa [World.setCell] using h.size,fun r hr => (set2_other (by omega)).trans (h.block r hr)⟩
theorem rule_box {Wc Wd F:World} {q:Option Addr} {c:Nat} {l:List Sel} {s:St} {Bs Bx:Nat} (hy:Sl.SelsAt 9 (fun b => Wc.heap.size < b) Wd (.slice q l.length c) l) (hd:Below Wd.heap.size Wd F)
  (hs:F.heap[Bs]? = some (.cells (setL s) 25 (0,0))) (hx:F.heap[Bx]? = some (.cells #[.slice none 0 0,.slice none 0 0] 40 (0,0))) (hB:Bx ≤ Wc.heap.size ∨ Wd.heap.size ≤ Bx) :
  RuleBox ((F.setCell ⟨Bx,0,none⟩ (.slice q l.length c)).setCell ⟨Bx,1,none⟩ (.slice (some ⟨Bs,0,none⟩) 1 1)) Bx l s:=by
 have hne:Bs ≠ Bx:=fun e => by rw [e,hx] at hs;cases hs
 refine ⟨q,c,Bs,set2_at hx,(set2_other hne).trans hs,?_⟩
 refine sel_keep hy (by simpa [World.setCell] using hd.size) (fun r h1 h2 => ?_)
 exact (set2_other (by omega)).trans (hd.block r h2)
end Go.Proofs.YtcmmdojlhfmddaaGreat.Co

/- The laws' own 'alive' of chapter 15: the later one of two rules; a tree of one node. -/
set_option maxRecDepth 100000
namespace Go.Proofs.YtcmmdojlhfmddaaGreat.Co
open Go.Proofs.YtcmmdojlhfmddaaGreat.Tre
open Go Go.RowKit Sl Mt Wg Cs
open Dm (Em El Nd Nv Tr TreeOk NdOk parentV newV lowN Made NodesAt nvCells)
def nodeA:Nv:=⟨⟨-1,⟨#[97]⟩,⟨#[]⟩,[],[]⟩,.slice none 0 0,.slice none 0 0⟩
def esA:List El:=[⟨lowN nodeA.nd,0,1,[]⟩]
theorem newA:newV ([nodeA].map Nv.nd) = .ok esA:=by rfl
theorem nodeA_ok:NdOk nodeA.nd:=⟨by decide,by decide,fun _ h => (by cases h),fun _ h => (by cases h),Nat.zero_le _,Nat.zero_le _⟩
theorem noatA:∀ e ∈ esA,e.nd.ats = []:=fun e he => by
 obtain rfl:=List.mem_singleton.1 he
 rfl
theorem shortA:∀ e ∈ esA,ShortN e.nd:=fun e he p hp => by
 obtain rfl:e = _:=List.mem_singleton.1 he
 cases hp
theorem okA:TreeOk esA:=(Dm.newV_ok newA).1
theorem ndsA:∀ e ∈ esA,NdOk e.nd:=newV_nds newA (fun n hn => by
 obtain rfl:n = _:=List.mem_singleton.1 hn
 exact nodeA_ok)
theorem winA4:winV (candsV (selectorV esA 0) [R1,R2]) 4 = (2,2000):=by decide +kernel
theorem few_a:FewT 10 aSel ∧ FewT 8 aSel ∧ SW 8 aSel ∧ cutS 8 aSel = aSel:=by
 refine ⟨?_,?_,?_,rfl⟩
 ·exact ⟨by decide,fun p hp => by
   obtain rfl:p = _:=List.mem_singleton.1 hp
   exact ⟨⟨by decide,by decide,by decide,by decide⟩,fun u hu => (by cases hu)⟩⟩
 ·exact ⟨by decide,fun p hp => by
   obtain rfl:p = _:=List.mem_singleton.1 hp
   exact ⟨⟨by decide,by decide,by decide,by decide⟩,fun u hu => (by cases hu)⟩⟩
 ·intro p hp
  obtain rfl:p = _:=List.mem_singleton.1 hp
  exact ⟨by unfold wfI;decide,⟨⟨by decide,fun a ha => (by cases ha),fun a ha => (by cases ha),fun a ha => (by cases ha)⟩,fun u hu => (by cases hu)⟩⟩
set_option maxHeartbeats 1000000 in
theorem live_any (w:World) (hM:ML w):Calls Tryz.prog 4 #[] w fun e w' => e = .returned (.bool true) ∧ Below w.heap.size w w':=by
 obtain ⟨W1,hW1⟩:∃ W1,w.alloc (.cells #[.int .u8 97,.int .u8 123,.int .u8 119,.int .u8 105,.int .u8 100,.int .u8 116,.int .u8 104,.int .u8 58,.int .u8 49,.int .u8 112,.int .u8 120,.int .u8 125,.int .u8 97,.int .u8 123,.int .u8 119,.int .u8 105,.int .u8 100,.int .u8 116,.int .u8 104,.int .u8 58,.int .u8 50,.int .u8 112,.int .u8 120,.int .u8 125] 5 (24,24 + 1)) = W1:=⟨_,rfl⟩
 have b1:Below w.heap.size w W1:=by rw [← hW1];exact (Below.refl _ _).alloc (Nat.le_refl _) _
 have s1:W1.heap.size = w.heap.size + 1:=by rw [← hW1];simp
 have hB1:BytesAt (w.heap.size + 1) W1 (.slice (some ⟨w.heap.size,0,none⟩) 24 24) cssB:=by rw [← hW1];exact bytes_new w cssB 5 (24,24 + 1) (by decide)
 have hcv:(convert 46 46 (.slice (some ⟨w.heap.size,0,none⟩) 24 24)).run Tryz.prog (w.alloc (.cells #[.int .u8 97,.int .u8 123,.int .u8 119,.int .u8 105,.int .u8 100,.int .u8 116,.int .u8 104,.int .u8 58,.int .u8 49,.int .u8 112,.int .u8 120,.int .u8 125,.int .u8 97,.int .u8 123,.int .u8 119,.int .u8 105,.int .u8 100,.int .u8 116,.int .u8 104,.int .u8 58,.int .u8 50,.int .u8 112,.int .u8 120,.int .u8 125] 5)) = .ok (.slice (some ⟨w.heap.size,0,none⟩) 24 24) W1:=by rw [← hW1];exact Lib.run_convert_bytes_const (P:=Tryz.prog) w 46 5 #[.int .u8 97,.int .u8 123,.int .u8 119,.int .u8 105,.int .u8 100,.int .u8 116,.int .u8 104,.int .u8 58,.int .u8 49,.int .u8 112,.int .u8 120,.int .u8 125,.int .u8 97,.int .u8 123,.int .u8 119,.int .u8 105,.int .u8 100,.int .u8 116,.int .u8 104,.int .u8 58,.int .u8 50,.int .u8 112,.int .u8 120,.int .u8 125] 24 24 Tryz.underlying46 Tryz.underlying5
 have hsh:=sheet_any (.slice (some ⟨w.heap.size,0,none⟩) 24 24) W1 (by rw [s1];exact hB1)
 have HB1:Hid (Below w.heap.size w W1 ∧ ML w):=⟨b1,hM⟩
 clear b1 hB1 hM
 go_enter Tryz.func4,Tryz.ntmps4
 go_wp2_with fail
 refine hsh.mono ?_
 clear hsh
 rintro e w2 ⟨x1,x2,p,c,rfl,hR,e1,e2,g1,g2,b2⟩
 clear hW1 hcv s1
 obtain ⟨W3,hW3⟩:∃ W3,w2.alloc (.cells #[.int .i64 (-1),.string ⟨#[97]⟩,.string ⟨#[]⟩,.slice none 0 0,.slice none 0 0] 30) = W3:=⟨_,rfl⟩
 have b3:Below w2.heap.size w2 W3:=by rw [← hW3];exact (Below.refl _ _).alloc (Nat.le_refl _) _
 have k3:Dm.Blk W3 w2.heap.size 30 ([nodeA].flatMap nvCells):=by rw [← hW3];exact Dm.Blk.new w2 30 ([nodeA].flatMap nvCells)
 have hN:=Dm.nodes_new k3 (by decide) (fun n h => by
  obtain rfl:n = _:=List.mem_singleton.1 h
  exact Dm.strs_nil _ _) (fun n h => by
  obtain rfl:n = _:=List.mem_singleton.1 h
  exact Dm.pairs_nil _ _)
 have h1:=Dm.new_any _ [nodeA] W3 hN (fun n hn => by
  obtain rfl:n = _:=List.mem_singleton.1 hn
  exact nodeA_ok)
 have H3:Hid (RulesV w2 (.slice p 2 c) [x1,x2] ∧ x1.r = R1 ∧ x2.r = R2 ∧ SelsR 9 w2.heap.size w2 x1.sv [aSel] ∧ SelsR 9 w2.heap.size w2 x2.sv [aSel] ∧ Below w.heap.size w w2 ∧ Below w2.heap.size w2 W3):=⟨hR,e1,e2,g1,g2,below_next HB1.out.1 b2,b3⟩
 clear hR e1 e2 g1 g2 b2 b3 hN k3
 go_wp2_with fail
 refine h1.mono ?_
 clear h1
 rintro e w4 ⟨hm,b4⟩
 unfold Made at hm
 rcases hm with ⟨tb,g,cap,qs,hV,rfl,hT⟩ | ⟨x,hV,_⟩
 ·have hV':qs.map Em.e = esA:=by have h:=newA;rw [hV] at h;exact Except.ok.inj h
  obtain ⟨hR,e1,e2,s1,s2,b02,b23⟩:=H3.out
  have b24:Below w2.heap.size w2 w4:=below_next b23 b4
  have hS:Sees w2 w4:=Sees.of_below b24
  have b04:=below_next b02 b24
  have hM4:ML w4:=ML.next HB1.out.2 b04
  have hG4:GoodM w4 tb esA:=⟨⟨_,g,cap,qs,hT,hV'⟩,okA,by decide,ndsA,shortA,hM4⟩
  have hA:RulesAsk 62 (.pointer (some ⟨tb,0,none⟩)) (selectorV esA) w4 [x1,x2]:=fun x hx => by
   simp only [List.mem_cons,List.not_mem_nil,or_false] at hx
   rcases hx with rfl | rfl
   ·have e3:x.r.1 = [aSel]:=by rw [e1];rfl
    have s1':SelsR 9 w2.heap.size w2 (.slice x.sp 1 x.sc) [aSel]:=by unfold Rv.sv at s1;rw [e3] at s1;exact s1
    rw [e3]
    exact ⟨ask_of hG4 noatA (sels_sees s1' (Nat.le_refl _) hS) (fun y hy => by rw [List.mem_singleton.1 hy];exact few_a),by decide⟩
   ·have e3:x.r.1 = [aSel]:=by rw [e2];rfl
    have s2':SelsR 9 w2.heap.size w2 (.slice x.sp 1 x.sc) [aSel]:=by unfold Rv.sv at s2;rw [e3] at s2;exact s2
    rw [e3]
    exact ⟨ask_of hG4 noatA (sels_sees s2' (Nat.le_refl _) hS) (fun y hy => by rw [List.mem_singleton.1 hy];exact few_a),by decide⟩
  have hwi:=winners_any tb 0 (selectorV esA) (.slice p 2 c) [x1,x2] w4 w4 (rules_sees hR hS) (Sees.refl _) hA (by simp)
  simp only [List.map_cons,List.map_nil,e1,e2] at hwi
  have HB4:Hid (Below w.heap.size w w4):=b04
  have hw4:winV (candsV (selectorV esA 0) [R1,R2]) 4 = (2,2000):=winA4
  generalize winV (candsV (selectorV esA 0) [R1,R2]) = V at *
  have v1:(V 4).1 = 2:=by rw [hw4]
  have v2:(V 4).2 = 2000:=by rw [hw4]
  clear hw4
  clear hR e1 e2 s1 s2 b02 b23 b24 hS b04 hM4 hG4 hA hV hV' hT b4 H3
  go_wp2_with fail
  refine hwi.mono ?_
  clear hwi
  rintro e w5 ⟨rfl,b5⟩
  have HB5:Hid (Below w.heap.size w w5):=below_next HB4.out b5
  go_wp2
  go_ret
  exact ⟨rfl,HB5.out.alloc HB5.out.size _⟩
 ·have h:=newA
  rw [hV] at h
  cases h
end Go.Proofs.YtcmmdojlhfmddaaGreat.Co

/- The node and the selectors of chapter 15's law on the order of two rules. -/
namespace Go.Proofs.YtcmmdojlhfmddaaGreat.Co
open Go.Proofs.YtcmmdojlhfmddaaGreat.Tre
open Go Go.RowKit Sl Mt Wg Cs
open Dm (Em El Nd Nv Tr TreeOk NdOk parentV newV lowN Made NodesAt nvCells)
def nodeX:Nv:=⟨⟨-1,⟨#[120]⟩,⟨#[105]⟩,[],[]⟩,.slice none 0 0,.slice none 0 0⟩
def esX:List El:=[⟨lowN nodeX.nd,0,1,[]⟩]
theorem newX:newV ([nodeX].map Nv.nd) = .ok esX:=by rfl
theorem nodeX_ok:NdOk nodeX.nd:=⟨by decide,by decide,fun _ h => (by cases h),fun _ h => (by cases h),Nat.zero_le _,Nat.zero_le _⟩
theorem noatX:∀ e ∈ esX,e.nd.ats = []:=fun e he => by
 obtain rfl:=List.mem_singleton.1 he
 rfl
theorem shortX:∀ e ∈ esX,ShortN e.nd:=fun e he p hp => by
 obtain rfl:e = _:=List.mem_singleton.1 he
 cases hp
theorem okX:TreeOk esX:=(Dm.newV_ok newX).1
theorem ndsX:∀ e ∈ esX,NdOk e.nd:=newV_nds newX (fun n hn => by
 obtain rfl:n = _:=List.mem_singleton.1 hn
 exact nodeX_ok)
def xSel:Sel:=[(0,⟨⟨#[120]⟩,[],[],[],[]⟩)]
def iSel:Sel:=[(0,⟨⟨#[]⟩,[⟨#[105]⟩],[],[],[]⟩)]
theorem par_x:parseV (Sl.tksB (⟨#[120]⟩:ByteArray).data.toList) = some [xSel]:=by rfl
theorem par_i:parseV (Sl.tksB (⟨#[35,105]⟩:ByteArray).data.toList) = some [iSel]:=by rfl
theorem few_x:FewT 10 xSel ∧ FewT 8 xSel ∧ SW 8 xSel ∧ cutS 8 xSel = xSel:=by
 refine ⟨?_,?_,?_,rfl⟩
 ·exact ⟨by decide,fun p hp => by
   obtain rfl:p = _:=List.mem_singleton.1 hp
   exact ⟨⟨by decide,by decide,by decide,by decide⟩,fun u hu => (by cases hu)⟩⟩
 ·exact ⟨by decide,fun p hp => by
   obtain rfl:p = _:=List.mem_singleton.1 hp
   exact ⟨⟨by decide,by decide,by decide,by decide⟩,fun u hu => (by cases hu)⟩⟩
 ·intro p hp
  obtain rfl:p = _:=List.mem_singleton.1 hp
  exact ⟨by unfold wfI;decide,⟨⟨by decide,fun a ha => (by cases ha),fun a ha => (by cases ha),fun a ha => (by cases ha)⟩,fun u hu => (by cases hu)⟩⟩
theorem few_i:FewT 10 iSel ∧ FewT 8 iSel ∧ SW 8 iSel ∧ cutS 8 iSel = iSel:=by
 refine ⟨?_,?_,?_,rfl⟩
 ·exact ⟨by decide,fun p hp => by
   obtain rfl:p = _:=List.mem_singleton.1 hp
   exact ⟨⟨by decide,by decide,by decide,by decide⟩,fun u hu => (by cases hu)⟩⟩
 ·exact ⟨by decide,fun p hp => by
   obtain rfl:p = _:=List.mem_singleton.1 hp
   exact ⟨⟨by decide,by decide,by decide,by decide⟩,fun u hu => (by cases hu)⟩⟩
 ·intro p hp
  obtain rfl:p = _:=List.mem_singleton.1 hp
  exact ⟨by unfold wfI;decide,⟨⟨by decide,fun a ha => (by obtain rfl:a = _:=List.mem_singleton.1 ha;decide),fun a ha => (by cases ha),fun a ha => (by cases ha)⟩,fun u hu => (by cases hu)⟩⟩
theorem best_x:bestW (selectorV esX 0) [xSel] = (1,true):=by decide +kernel
theorem best_i:bestW (selectorV esX 0) [iSel] = (65536,true):=by decide +kernel
theorem win2 (k1 k2:Nat) (s1 s2:St) (p:Nat) (h1:s1.prop = p) (h2:s2.prop = p):winV [(k1,[s1]),(k2,[s2])] p = if keyS k2 s2 < keyS k1 s1 then (s1.kind,s1.n) else (s2.kind,s2.n):=by
 by_cases h:keyS k2 s2 < keyS k1 s1 <;> simp [winV,itemsV,itemS,h1,h2,lastMax,stepM,h]
end Go.Proofs.YtcmmdojlhfmddaaGreat.Co

/- Two rules of one set each: what wins. -/
namespace Go.Proofs.YtcmmdojlhfmddaaGreat.Co
open Go.Proofs.YtcmmdojlhfmddaaGreat.Tre
open Go Go.RowKit Sl Mt Wg Cs
open Dm (Em El Nd Nv Tr TreeOk NdOk parentV newV lowN Made NodesAt nvCells)
theorem sets_one {X:World} {S:Nat} {s:St} (h:X.heap[S]? = some (.cells (setL s) 25 (0,0))):StsT X.heap.size X (.slice (some ⟨S,0,none⟩) 1 1) [s]:=by
 refine .inr ⟨S,0,1,rfl,Nat.le_refl _,by unfold maxLen;omega,(Array.getElem?_eq_some_iff.1 h).1,fun j x hx => ?_⟩
 cases j with
 | succ j => simp at hx
 | zero =>
  obtain rfl:=Option.some.inj hx
  refine ⟨_,rfl,rfl,fun i u hu => ?_⟩
  match i,hu with
  | 0,hu => cases hu;simp [World.cell?,h]
  | 1,hu => cases hu;simp [World.cell?,h]
  | 2,hu => cases hu;simp [World.cell?,h]
  | 3,hu => cases hu;simp [World.cell?,h]
  | i + 4,hu => simp at hu
theorem two_any {X:World} {tb G:Nat} {qa qb:Option Addr} {ca cb Sa Sb:Nat} {la lb:Sel} {sa sb:St} {ka kb:Nat} (hG:GoodM X tb esX)
  (h:X.heap[G]? = some (.cells #[.slice qa 1 ca,.slice (some ⟨Sa,0,none⟩) 1 1,.slice qb 1 cb,.slice (some ⟨Sb,0,none⟩) 1 1] 40 (0,0)))
  (hsa:X.heap[Sa]? = some (.cells (setL sa) 25 (0,0))) (hsb:X.heap[Sb]? = some (.cells (setL sb) 25 (0,0)))
  (ha:SelsR 9 X.heap.size X (.slice qa 1 ca) [la]) (hb:SelsR 9 X.heap.size X (.slice qb 1 cb) [lb])
  (fa:FewT 10 la ∧ FewT 8 la ∧ SW 8 la ∧ cutS 8 la = la) (fb:FewT 10 lb ∧ FewT 8 lb ∧ SW 8 lb ∧ cutS 8 lb = lb) (ba:bestW (selectorV esX 0) [la] = (ka,true)) (bb:bestW (selectorV esX 0) [lb] = (kb,true)) :
  Calls Tryz.prog 7 #[.pointer (some ⟨tb,0,none⟩),.int .i64 0,.slice (some ⟨G,0,none⟩) 2 2] X fun r w' => r = .returned (.agg (winL (winV [(ka,[sa]),(kb,[sb])])).toArray) ∧ Below X.heap.size X w':=by
 have hlt:G < X.heap.size:=(Array.getElem?_eq_some_iff.1 h).1
 have hR:RulesV X (.slice (some ⟨G,0,none⟩) 2 2) [⟨qa,ca,some ⟨Sa,0,none⟩,1,([la],[sa])⟩,⟨qb,cb,some ⟨Sb,0,none⟩,1,([lb],[sb])⟩]:=by
  refine .inr ⟨G,0,2,rfl,Nat.le_refl _,by unfold maxLen;omega,fun j x hx => ?_⟩
  match j,hx with
  | 0,hx => cases hx;exact ⟨by simp [World.cell?,h],by simp [World.cell?,h],hlt,sets_one hsa⟩
  | 1,hx => cases hx;exact ⟨by simp [World.cell?,h],by simp [World.cell?,h],hlt,sets_one hsb⟩
  | j + 2,hx => simp at hx
 have hA:RulesAsk 62 (.pointer (some ⟨tb,0,none⟩)) (selectorV esX) X [⟨qa,ca,some ⟨Sa,0,none⟩,1,([la],[sa])⟩,⟨qb,cb,some ⟨Sb,0,none⟩,1,([lb],[sb])⟩]:=fun x hx => by
  simp only [List.mem_cons,List.not_mem_nil,or_false] at hx
  rcases hx with rfl | rfl
  ·exact ⟨ask_of hG noatX ha (fun y hy => by rw [List.mem_singleton.1 hy];exact fa),by simp⟩
  ·exact ⟨ask_of hG noatX hb (fun y hy => by rw [List.mem_singleton.1 hy];exact fb),by simp⟩
 have hw:=winners_any tb 0 (selectorV esX) _ _ X X hR (Sees.refl _) hA (by simp)
 have hc:candsV (selectorV esX 0) (([⟨qa,ca,some ⟨Sa,0,none⟩,1,([la],[sa])⟩,⟨qb,cb,some ⟨Sb,0,none⟩,1,([lb],[sb])⟩]:List Rv).map (·.r)) = [(ka,[sa]),(kb,[sb])]:=by
  simp [candsV,candV,ba,bb]
 rw [hc] at hw
 exact hw
end Go.Proofs.YtcmmdojlhfmddaaGreat.Co

/- For every two sets and both orders of two rules: the law tapestrierlaw15.CascadeOrder answers true. -/
set_option maxRecDepth 100000
namespace Go.Proofs.YtcmmdojlhfmddaaGreat.Co
open Go.Proofs.YtcmmdojlhfmddaaGreat.Tre
open Go Go.RowKit Sl Mt Wg Cs
open Dm (Em El Nd Nv Tr TreeOk NdOk parentV newV lowN Made NodesAt nvCells)
def oneT (ids:Bool):ByteArray:=bif ids then ⟨#[35,105]⟩ else ⟨#[120]⟩
def selO (ids:Bool):Sel:=bif ids then iSel else xSel
def wO (ids:Bool):Nat:=bif ids then 65536 else 1
theorem few_o (ids:Bool):FewT 10 (selO ids) ∧ FewT 8 (selO ids) ∧ SW 8 (selO ids) ∧ cutS 8 (selO ids) = selO ids:=by cases ids;exact few_x;exact few_i
theorem best_o (ids:Bool):bestW (selectorV esX 0) [selO ids] = (wO ids,true):=by cases ids;exact best_x;exact best_i
abbrev SelsC (t:ByteArray) (l:Sel) (w:World):Prop:=Calls Tryz.prog 6 #[.string t] w fun e w' => ∃ (q:Option Addr) (c:Nat),e = .returned (.slice q 1 c) ∧ Hid (Sl.SelsAt 9 (fun b => w.heap.size < b) w' (.slice q 1 c) [l]) ∧ Below w.heap.size w w'
theorem sels_at {t:ByteArray} {l:Sel} (par:parseV (Sl.tksB t.data.toList) = some [l]) (hl:t.size ≤ 100000) (w:World):SelsC t l w:=by
 refine Calls.mono (sels_any t w hl) ?_
 rintro e w' ⟨l1,y,rfl,hy,b,hv⟩
 obtain rfl:l1 = [l]:=by
  rcases hv with h | ⟨h,_⟩
  ·rw [par] at h;exact (Option.some.inj h).symm
  ·rw [par] at h;cases h
 obtain ⟨q,c,rfl,_⟩:=hy.form
 exact ⟨q,c,rfl,hy,b⟩
theorem sels_x (w:World):SelsC ⟨#[120]⟩ xSel w:=sels_at par_x (by decide) w
theorem sels_o (ids:Bool) (w:World):SelsC (oneT ids) (selO ids) w:=sels_at (t:=oneT ids) (l:=selO ids) (by cases ids;exact par_x;exact par_i) (by cases ids <;> decide) w
theorem alloc_ex (w:World) (o:Obj):∃ Y,w.alloc o = Y ∧ Below w.heap.size w Y ∧ Hid (∀ Z,Below Y.heap.size Y Z → Z.heap[w.heap.size]? = some o):=⟨_,rfl,(Below.refl _ _).alloc (Nat.le_refl _) _,fun _ hZ => alloc_keep rfl hZ⟩
theorem rule_fin {W Wc Wd F:World} {q:Option Addr} {n c:Nat} {l:List Sel} {s:St} {Bs Bx:Nat} (hn:l.length = n) (hy:Sl.SelsAt 9 (fun b => Wc.heap.size < b) Wd (.slice q n c) l) (hd:Below Wd.heap.size Wd F)
  (hs:F.heap[Bs]? = some (.cells (setL s) 25 (0,0))) (hx:F.heap[Bx]? = some (.cells #[.slice none 0 0,.slice none 0 0] 40 (0,0))) (hB:Bx ≤ Wc.heap.size ∨ Wd.heap.size ≤ Bx) (hW:Below W.heap.size W F) (h0:W.heap.size ≤ Bx) :
  Hid (RuleBox ((F.setCell ⟨Bx,0,none⟩ (.slice q n c)).setCell ⟨Bx,1,none⟩ (.slice (some ⟨Bs,0,none⟩) 1 1)) Bx l s ∧ Below W.heap.size W ((F.setCell ⟨Bx,0,none⟩ (.slice q n c)).setCell ⟨Bx,1,none⟩ (.slice (some ⟨Bs,0,none⟩) 1 1))) ∧ F.cell? ⟨Bx,0,none⟩ = some (.slice none 0 0) ∧ F.cell? ⟨Bx,1,none⟩ = some (.slice none 0 0) ∧ F.frozen? ⟨Bx,0,none⟩ = false ∧ F.frozen? ⟨Bx,1,none⟩ = false:=by
 subst hn
 exact ⟨⟨rule_box hy hd hs hx hB,set2_below hW h0⟩,by simp [World.cell?,hx],by simp [World.cell?,hx],by simp [World.frozen?,hx],by simp [World.frozen?,hx]⟩
def rowO (t:Bool) (q1:Option Addr) (c1 S1:Nat) (q2:Option Addr) (c2 S2:Nat):Array Value:=bif t then #[.slice q2 1 c2,.slice (some ⟨S2,0,none⟩) 1 1,.slice q1 1 c1,.slice (some ⟨S1,0,none⟩) 1 1] else #[.slice q1 1 c1,.slice (some ⟨S1,0,none⟩) 1 1,.slice q2 1 c2,.slice (some ⟨S2,0,none⟩) 1 1]
def casesO (ids t:Bool) (x y:St):List (Nat × List St):=bif t then [(1,[y]),(wO ids,[x])] else [(wO ids,[x]),(1,[y])]
def pickO (ai bi ids t:Bool):Bool:=(ai && !bi) || (ai == bi && (ids || t))
theorem win_o (p:Nat) (ak an bk bn:Int) (ai bi ids t:Bool):winV (casesO ids t ⟨(p:Int),ak,an,ai⟩ ⟨(p:Int),bk,bn,bi⟩) p = bif pickO ai bi ids t then (ak,an) else (bk,bn):=by
 cases ids <;> cases t <;> (simp only [casesO,wO,cond_true,cond_false];rw [win2 _ _ _ _ p rfl rfl]) <;> cases ai <;> cases bi <;> simp [keyS,pickO]
theorem keep_o {w X:World} {c p:Nat} {V:Nat → Int × Int} {s:St} {bk bn:Int}
  (h:Below w.heap.size w X ∧ X.heap[w.heap.size]? = some (.cells (setL s) 25 (0,0)) ∧ X.heap[c]? = some (.cells (winL V).toArray 42 (0,0)) ∧ X.heap[c + 1]? = some (.cells #[.int .i64 bk,.int .i64 bn] 23 (0,0)) ∧ w.heap.size < c) (hv:V p = (bk,bn)) :
  X.heap[c + 1]? = some (.cells #[.int .i64 (V p).1,.int .i64 (V p).2] 23 (0,0)) ∧ X.heap[c]? = some (.cells (winL V).toArray 42 (0,0)) ∧ X.heap[w.heap.size]? = some (.cells (setL s) 25 (0,0)) ∧ Below w.heap.size w X:=by
 rw [hv]
 exact ⟨h.2.2.2.1,h.2.2.1,h.2.1,h.1⟩
theorem take_o {w X:World} {c p:Nat} {V:Nat → Int × Int} {s:St} {ak an bk bn:Int}
  (h:Below w.heap.size w X ∧ X.heap[w.heap.size]? = some (.cells (setL s) 25 (0,0)) ∧ X.heap[c]? = some (.cells (winL V).toArray 42 (0,0)) ∧ X.heap[c + 1]? = some (.cells #[.int .i64 bk,.int .i64 bn] 23 (0,0)) ∧ w.heap.size < c) (hv:V p = (ak,an)) :
  ((X.setCell ⟨c + 1,0,none⟩ (.int .i64 ak)).setCell ⟨c + 1,1,none⟩ (.int .i64 an)).heap[c + 1]? = some (.cells #[.int .i64 (V p).1,.int .i64 (V p).2] 23 (0,0)) ∧ ((X.setCell ⟨c + 1,0,none⟩ (.int .i64 ak)).setCell ⟨c + 1,1,none⟩ (.int .i64 an)).heap[c]? = some (.cells (winL V).toArray 42 (0,0)) ∧ ((X.setCell ⟨c + 1,0,none⟩ (.int .i64 ak)).setCell ⟨c + 1,1,none⟩ (.int .i64 an)).heap[w.heap.size]? = some (.cells (setL s) 25 (0,0)) ∧ Below w.heap.size w ((X.setCell ⟨c + 1,0,none⟩ (.int .i64 ak)).setCell ⟨c + 1,1,none⟩ (.int .i64 an)):=by
 rw [hv]
 obtain ⟨h1,h2,h3,h4,h5⟩:=h
 exact ⟨set2_at h4,(set2_other (by omega)).trans h3,(set2_other (by omega)).trans h2,set2_below h1 (by omega)⟩
set_option maxHeartbeats 8000000 in
theorem order_any (w:World) (hM:ML w) (ap ak an:Int) (ai:Bool) (bp bk bn:Int) (bi ids turned:Bool) :
  Calls Tryz.prog 3 #[setA ⟨ap,ak,an,ai⟩,setA ⟨bp,bk,bn,bi⟩,.bool ids,.bool turned] w fun e w' => e = .returned (.bool true) ∧ Below w.heap.size w w':=by
 unfold setA
 obtain ⟨W0,hW0⟩:∃ W0,(w.alloc (.cells #[.int .i64 ap,.int .i64 ak,.int .i64 an,.bool ai] 25)).alloc (.cells #[.int .i64 bp,.int .i64 bk,.int .i64 bn,.bool bi] 25) = W0:=⟨_,rfl⟩
 have ka:W0.heap[w.heap.size]? = some (.cells (setL ⟨ap,ak,an,ai⟩) 25 (0,0)):=by rw [← hW0];exact (Below.heap_alloc _ _ _ (by simp)).trans (World.alloc_heap_new w _)
 have kb:W0.heap[w.heap.size + 1]? = some (.cells (setL ⟨bp,bk,bn,bi⟩) 25 (0,0)):=by
  rw [← hW0]
  have:=World.alloc_heap_new (w.alloc (.cells #[.int .i64 ap,.int .i64 ak,.int .i64 an,.bool ai] 25)) (.cells #[.int .i64 bp,.int .i64 bk,.int .i64 bn,.bool bi] 25)
  rwa [World.size_alloc] at this
 have b0:Below w.heap.size w W0:=by rw [← hW0];exact ((Below.refl _ w).alloc (Nat.le_refl _) _).alloc (by simp) _
 have hlv:=live_any W0 (ML.next hM b0)
 have H0:Hid (W0.heap[w.heap.size]? = some (.cells (setL ⟨ap,ak,an,ai⟩) 25 (0,0)) ∧ W0.heap[w.heap.size + 1]? = some (.cells (setL ⟨bp,bk,bn,bi⟩) 25 (0,0)) ∧ Below w.heap.size w W0 ∧ ML w):=⟨ka,kb,b0,hM⟩
 clear ka kb b0 hM
 go_enter Tryz.func3,Tryz.ntmps3
 go_wp2_with fail
 refine hlv.mono ?_
 clear hlv hW0
 rintro e w1 ⟨rfl,b1⟩
 obtain ⟨ka,kb,b0,hM⟩:=H0.out
 have ka1:=(b1.block _ (Array.getElem?_eq_some_iff.1 ka).1).trans ka
 have kb1:=(b1.block _ (Array.getElem?_eq_some_iff.1 kb).1).trans kb
 have b01:=below_next b0 b1
 have a0:w1.cell? ⟨w.heap.size,0,none⟩ = some (.int .i64 ap):=by simp [World.cell?,ka1]
 have c0:w1.cell? ⟨w.heap.size + 1,0,none⟩ = some (.int .i64 bp):=by simp [World.cell?,kb1]
 have c1:w1.frozen? ⟨w.heap.size + 1,0,none⟩ = false:=by simp [World.frozen?,kb1]
 have s1:w.heap.size + 1 < w1.heap.size:=(Array.getElem?_eq_some_iff.1 kb1).1
 have H1:Hid (w1.heap[w.heap.size]? = some (.cells (setL ⟨ap,ak,an,ai⟩) 25 (0,0)) ∧ w1.heap[w.heap.size + 1]? = some (.cells (setL ⟨bp,bk,bn,bi⟩) 25 (0,0)) ∧ Below w.heap.size w w1 ∧ ML w ∧ w.heap.size + 1 < w1.heap.size):=⟨ka1,kb1,b01,hM,s1⟩
 clear ka kb b0 hM ka1 kb1 b01 b1 s1 H0
 by_cases g1:ap < 0
 ·have d1:decide (ap < 0) = true:=by simpa using g1
  clear g1
  go_wp2
  go_ret
  exact ⟨rfl,H1.out.2.2.1⟩
 have d1:decide (ap < 0) = false:=by simpa using g1
 by_cases g2:7 < ap
 ·have d2:decide (7 < ap) = true:=by simpa using g2
  clear g1 g2
  go_wp2
  go_ret
  exact ⟨rfl,H1.out.2.2.1⟩
 have d2:decide (7 < ap) = false:=by simpa using g2
 obtain ⟨p,rfl⟩:∃ p:Nat,ap = (p:Int):=⟨ap.toNat,by omega⟩
 have hp8:p < 8:=by omega
 have HP:Hid (p < 8):=hp8
 clear g1 g2 hp8
 obtain ⟨w2,hw2⟩:∃ w2,w1.setCell ⟨w.heap.size + 1,0,none⟩ (.int .i64 (p:Int)) = w2:=⟨_,rfl⟩
 go_upto_if 37 with fail
 go_cut [10] (fun x wx => x = .string (oneT ids) ∧ wx = w2)
 case first =>
  clear H1
  cases ids <;> (go_wp2;go_meet;exact ⟨rfl,rfl⟩)
 obtain ⟨rfl,h2⟩:=hcut
 obtain rfl:w2 = wc:=h2.symm
 clear h2
 obtain ⟨w3,hw3⟩:∃ w3,w2.alloc (.cells #[.int .i64 (-1),.string ⟨#[120]⟩,.string ⟨#[105]⟩,.slice none 0 0,.slice none 0 0] 30) = w3:=⟨_,rfl⟩
 have b12:Below w.heap.size w w2:=by
  rw [← hw2]
  exact H1.out.2.2.1.grown (grownBy_setCell' _ _ _) H1.out.2.2.1.size (fun r e => by cases e;omega)
 have s2:w2.heap.size = w1.heap.size:=by rw [← hw2];simp [World.setCell]
 have ka2:w2.heap[w.heap.size]? = some (.cells (setL ⟨(p:Int),ak,an,ai⟩) 25 (0,0)):=by
  rw [← hw2]
  exact ((grownBy_setCell' w1 (w.heap.size + 1) (.int .i64 (p:Int))).block _ (by have:=H1.out.2.2.2.2;omega) (by simp)).trans H1.out.1
 have kb2:w2.heap[w.heap.size + 1]? = some (.cells (setL ⟨(p:Int),bk,bn,bi⟩) 25 (0,0)):=by
  rw [← hw2]
  have h:=H1.out.2.1
  have hlt:=(Array.getElem?_eq_some_iff.1 h).1
  have hb:=(Array.getElem?_eq_some_iff.1 h).2
  simp [World.setCell,hlt,Array.getElem_modify,hb]
 have b23:Below w2.heap.size w2 w3:=by rw [← hw3];exact (Below.refl _ _).alloc (Nat.le_refl _) _
 have k3:Dm.Blk w3 w2.heap.size 30 ([nodeX].flatMap nvCells):=by rw [← hw3];exact Dm.Blk.new w2 30 ([nodeX].flatMap nvCells)
 have hN:=Dm.nodes_new k3 (by decide) (fun n h => by
  obtain rfl:n = _:=List.mem_singleton.1 h
  exact Dm.strs_nil _ _) (fun n h => by
  obtain rfl:n = _:=List.mem_singleton.1 h
  exact Dm.pairs_nil _ _)
 have h1:=Dm.new_any _ [nodeX] w3 hN (fun n hn => by
  obtain rfl:n = _:=List.mem_singleton.1 hn
  exact nodeX_ok)
 have H2:Hid (w2.heap[w.heap.size]? = some (.cells (setL ⟨(p:Int),ak,an,ai⟩) 25 (0,0)) ∧ w2.heap[w.heap.size + 1]? = some (.cells (setL ⟨(p:Int),bk,bn,bi⟩) 25 (0,0)) ∧ Below w.heap.size w w2 ∧ Below w2.heap.size w2 w3 ∧ ML w):=⟨ka2,kb2,b12,b23,H1.out.2.2.2.1⟩
 clear b12 s2 ka2 kb2 b23 k3 hN H1
 go_wp2_with fail
 refine h1.mono ?_
 clear h1 a0 c0 c1
 rintro e w4 ⟨hm,b4⟩
 unfold Made at hm
 rcases hm with ⟨tb,g,cap,qs,hV,rfl,hT⟩ | ⟨x,hV,_⟩
 rotate_left
 ·have h:=newX
  rw [hV] at h
  cases h
 have hV':qs.map Em.e = esX:=by have h:=newX;rw [hV] at h;exact Except.ok.inj h
 obtain ⟨ka2,kb2,b02,b23,hM⟩:=H2.out
 have b24:=below_next b23 b4
 have b04:=below_next b02 b24
 have HG:Hid (GoodM w4 tb esX):=⟨⟨_,g,cap,qs,hT,hV'⟩,okX,by decide,ndsX,shortX,ML.next hM b04⟩
 have HBOX:Hid (w4.heap[w.heap.size]? = some (.cells (setL ⟨(p:Int),ak,an,ai⟩) 25 (0,0))):=(b24.block _ (Array.getElem?_eq_some_iff.1 ka2).1).trans ka2
 have HBOXB:Hid (w4.heap[w.heap.size + 1]? = some (.cells (setL ⟨(p:Int),bk,bn,bi⟩) 25 (0,0))):=(b24.block _ (Array.getElem?_eq_some_iff.1 kb2).1).trans kb2
 have HB4:Hid (Below w.heap.size w w4):=b04
 clear hV hV' hT b4 ka2 kb2 b02 b23 hM b24 b04 H2 d1 d2 hw2 hw3
 go_upto_region 11 with fail
 go_cut [15] (fun x wx => ∃ Bx,x = .pointer (some ⟨Bx,0,none⟩) ∧ RuleBox wx Bx [selO ids] ⟨(p:Int),ak,an,ai⟩ ∧ Below w4.heap.size w4 wx)
 case first =>
  obtain ⟨S,hS⟩:∃ S,S = (fun Y:World => Y.cell? ⟨w.heap.size,0,none⟩ = some (.int .i64 (p:Int)) ∧ Y.cell? ⟨w.heap.size,1,none⟩ = some (.int .i64 ak) ∧ Y.cell? ⟨w.heap.size,2,none⟩ = some (.int .i64 an) ∧ Y.cell? ⟨w.heap.size,3,none⟩ = some (.bool ai)):=⟨_,rfl⟩
  have HH:Hid (∀ Y,Below w4.heap.size w4 Y → S Y):=fun Y hY => by
   have h:=(hY.block _ (Array.getElem?_eq_some_iff.1 HBOX.out).1).trans HBOX.out
   subst hS
   exact ⟨by simp [World.cell?,h],by simp [World.cell?,h],by simp [World.cell?,h],by simp [World.cell?,h]⟩
  obtain ⟨Y0,hY0⟩:∃ Y0,w4.drew = Y0:=⟨_,rfl⟩
  have b0:Below w4.heap.size w4 Y0:=by rw [← hY0];exact below_drew (Below.refl _ _)
  refine Rg.wpD_begin [0,1,2,3,5] S (by kernel_rfl) ?_
  rw [hY0]
  have HeldS:=HH.out Y0 b0
  subst hS
  refine Rg.ld 0 HeldS ?_
  simp only [Act.put,Rg.sA,Rg.sB,Rg.sC]
  refine Rg.ld 2 HeldS ?_
  simp only [Act.put,Rg.sA,Rg.sB,Rg.sC]
  clear HeldS hY0
  refine Rg.th 1 3 5 (fun K hK => ?_) (fun K hK => ?_) (fun K hK => ?_)
  ·skip
   go_simp
   refine (sels_o ids Y0).mono ?_
   rintro e Y1 ⟨q1,c1,rfl,HC,b1⟩
   have bb1:=below_next b0 b1
   refine hK _ _ (fun _ => HH.out _ bb1) ?_
   clear hK K
   refine Rg.tw 3 5 (fun K hK => ?_) (fun K hK => ?_)
   ·skip
    obtain ⟨Y2,hY,b2,HS⟩:=alloc_ex Y1 (.cells (setL ⟨(p:Int),ak,an,ai⟩) 25)
    go_simp
    have bb2:=below_next bb1 b2
    try rw [hY]
    refine hK _ _ (fun _ => HH.out _ bb2) ?_
    clear hK K hY
    refine Rg.pu 4 ?_
    simp only [Act.put,Rg.sA,Rg.sB,Rg.sC]
    refine Rg.dd 5 fun K hK => ?_
    obtain ⟨Y3,hY,b3,HX⟩:=alloc_ex Y2 (.cells #[.slice none 0 0,.slice none 0 0] 40)
    go_simp
    have bb3:=below_next bb2 b3
    try rw [hY]
    refine hK _ _ (fun _ => HH.out _ bb3) ?_
    clear hK K hY
    obtain ⟨FIN,x0,x1,x2,x3⟩:=rule_fin rfl HC.out (below_next b2 b3) (HS.out _ b3) (HX.out _ (Below.refl _ _)) (.inr b2.size) bb3 bb2.size
    refine Rg.dd 6 fun K hK => ?_
    go_simp
    refine hK _ _ (fun h => absurd h (by decide)) ?_
    clear hK K
    refine Rg.wpD_done (by kernel_rfl) ?_
    go_wp2
    go_meet
    exact ⟨_,rfl,FIN.out⟩
   ·skip
    obtain ⟨Y2,hY,b2,HX⟩:=alloc_ex Y1 (.cells #[.slice none 0 0,.slice none 0 0] 40)
    go_simp
    have bb2:=below_next bb1 b2
    try rw [hY]
    refine hK _ _ (fun _ => HH.out _ bb2) ?_
    clear hK K hY
    refine Rg.dd 3 fun K hK => ?_
    obtain ⟨Y3,hY,b3,HS⟩:=alloc_ex Y2 (.cells (setL ⟨(p:Int),ak,an,ai⟩) 25)
    go_simp
    have bb3:=below_next bb2 b3
    try rw [hY]
    refine hK _ _ (fun _ => HH.out _ bb3) ?_
    clear hK K hY
    refine Rg.pu 4 ?_
    simp only [Act.put,Rg.sA,Rg.sB,Rg.sC]
    obtain ⟨FIN,x0,x1,x2,x3⟩:=rule_fin rfl HC.out (below_next b2 b3) (HS.out _ (Below.refl _ _)) (HX.out _ b3) (.inr (Nat.le_refl _)) bb3 bb1.size
    refine Rg.dd 6 fun K hK => ?_
    go_simp
    refine hK _ _ (fun h => absurd h (by decide)) ?_
    clear hK K
    refine Rg.wpD_done (by kernel_rfl) ?_
    go_wp2
    go_meet
    exact ⟨_,rfl,FIN.out⟩
  ·skip
   obtain ⟨Y1,hY,b1,HS⟩:=alloc_ex Y0 (.cells (setL ⟨(p:Int),ak,an,ai⟩) 25)
   go_simp
   have bb1:=below_next b0 b1
   try rw [hY]
   refine hK _ _ (fun _ => HH.out _ bb1) ?_
   clear hK K hY
   refine Rg.tw 1 5 (fun K hK => ?_) (fun K hK => ?_)
   ·skip
    go_simp
    refine (sels_o ids Y1).mono ?_
    rintro e Y2 ⟨q1,c1,rfl,HC,b2⟩
    have bb2:=below_next bb1 b2
    refine hK _ _ (fun _ => HH.out _ bb2) ?_
    clear hK K
    refine Rg.pu 4 ?_
    simp only [Act.put,Rg.sA,Rg.sB,Rg.sC]
    refine Rg.dd 5 fun K hK => ?_
    obtain ⟨Y3,hY,b3,HX⟩:=alloc_ex Y2 (.cells #[.slice none 0 0,.slice none 0 0] 40)
    go_simp
    have bb3:=below_next bb2 b3
    try rw [hY]
    refine hK _ _ (fun _ => HH.out _ bb3) ?_
    clear hK K hY
    obtain ⟨FIN,x0,x1,x2,x3⟩:=rule_fin rfl HC.out b3 (HS.out _ (below_next b2 b3)) (HX.out _ (Below.refl _ _)) (.inr (Nat.le_refl _)) bb3 bb2.size
    refine Rg.dd 6 fun K hK => ?_
    go_simp
    refine hK _ _ (fun h => absurd h (by decide)) ?_
    clear hK K
    refine Rg.wpD_done (by kernel_rfl) ?_
    go_wp2
    go_meet
    exact ⟨_,rfl,FIN.out⟩
   ·skip
    obtain ⟨Y2,hY,b2,HX⟩:=alloc_ex Y1 (.cells #[.slice none 0 0,.slice none 0 0] 40)
    go_simp
    have bb2:=below_next bb1 b2
    try rw [hY]
    refine hK _ _ (fun _ => HH.out _ bb2) ?_
    clear hK K hY
    refine Rg.dd 1 fun K hK => ?_
    go_simp
    refine (sels_o ids Y2).mono ?_
    rintro e Y3 ⟨q1,c1,rfl,HC,b3⟩
    have bb3:=below_next bb2 b3
    refine hK _ _ (fun _ => HH.out _ bb3) ?_
    clear hK K
    refine Rg.pu 4 ?_
    simp only [Act.put,Rg.sA,Rg.sB,Rg.sC]
    obtain ⟨FIN,x0,x1,x2,x3⟩:=rule_fin rfl HC.out (Below.refl _ _) (HS.out _ (below_next b2 b3)) (HX.out _ b3) (.inl b2.size) bb3 bb1.size
    refine Rg.dd 6 fun K hK => ?_
    go_simp
    refine hK _ _ (fun h => absurd h (by decide)) ?_
    clear hK K
    refine Rg.wpD_done (by kernel_rfl) ?_
    go_wp2
    go_meet
    exact ⟨_,rfl,FIN.out⟩
  ·skip
   obtain ⟨Y1,hY,b1,HX⟩:=alloc_ex Y0 (.cells #[.slice none 0 0,.slice none 0 0] 40)
   go_simp
   have bb1:=below_next b0 b1
   try rw [hY]
   refine hK _ _ (fun _ => HH.out _ bb1) ?_
   clear hK K hY
   refine Rg.tw 1 3 (fun K hK => ?_) (fun K hK => ?_)
   ·skip
    go_simp
    refine (sels_o ids Y1).mono ?_
    rintro e Y2 ⟨q1,c1,rfl,HC,b2⟩
    have bb2:=below_next bb1 b2
    refine hK _ _ (fun _ => HH.out _ bb2) ?_
    clear hK K
    refine Rg.dd 3 fun K hK => ?_
    obtain ⟨Y3,hY,b3,HS⟩:=alloc_ex Y2 (.cells (setL ⟨(p:Int),ak,an,ai⟩) 25)
    go_simp
    have bb3:=below_next bb2 b3
    try rw [hY]
    refine hK _ _ (fun _ => HH.out _ bb3) ?_
    clear hK K hY
    refine Rg.pu 4 ?_
    simp only [Act.put,Rg.sA,Rg.sB,Rg.sC]
    obtain ⟨FIN,x0,x1,x2,x3⟩:=rule_fin rfl HC.out b3 (HS.out _ (Below.refl _ _)) (HX.out _ (below_next b2 b3)) (.inl b1.size) bb3 b0.size
    refine Rg.dd 6 fun K hK => ?_
    go_simp
    refine hK _ _ (fun h => absurd h (by decide)) ?_
    clear hK K
    refine Rg.wpD_done (by kernel_rfl) ?_
    go_wp2
    go_meet
    exact ⟨_,rfl,FIN.out⟩
   ·skip
    obtain ⟨Y2,hY,b2,HS⟩:=alloc_ex Y1 (.cells (setL ⟨(p:Int),ak,an,ai⟩) 25)
    go_simp
    have bb2:=below_next bb1 b2
    try rw [hY]
    refine hK _ _ (fun _ => HH.out _ bb2) ?_
    clear hK K hY
    refine Rg.dd 1 fun K hK => ?_
    go_simp
    refine (sels_o ids Y2).mono ?_
    rintro e Y3 ⟨q1,c1,rfl,HC,b3⟩
    have bb3:=below_next bb2 b3
    refine hK _ _ (fun _ => HH.out _ bb3) ?_
    clear hK K
    refine Rg.pu 4 ?_
    simp only [Act.put,Rg.sA,Rg.sB,Rg.sC]
    obtain ⟨FIN,x0,x1,x2,x3⟩:=rule_fin rfl HC.out (Below.refl _ _) (HS.out _ b3) (HX.out _ (below_next b2 b3)) (.inl (below_next b1 b2).size) bb3 b0.size
    refine Rg.dd 6 fun K hK => ?_
    go_simp
    refine hK _ _ (fun h => absurd h (by decide)) ?_
    clear hK K
    refine Rg.wpD_done (by kernel_rfl) ?_
    go_wp2
    go_meet
    exact ⟨_,rfl,FIN.out⟩
 obtain ⟨B1,rfl,hRB1,b45⟩:=hcut
 obtain ⟨w5,hw5⟩:∃ w5,w5 = wc:=⟨_,rfl⟩
 subst hw5
 have HA5:Hid (w5.heap[w.heap.size]? = some (.cells (setL ⟨(p:Int),ak,an,ai⟩) 25 (0,0))):=(b45.block _ (Array.getElem?_eq_some_iff.1 HBOX.out).1).trans HBOX.out
 have HG5:Hid (GoodM w5 tb esX):=HG.out.sees (Sees.of_below b45)
 have HB5:Hid (Below w.heap.size w w5):=below_next HB4.out b45
 have HR5:Hid (RuleBox w5 B1 [selO ids] ⟨(p:Int),ak,an,ai⟩):=hRB1
 replace HBOX:Hid (w5.heap[w.heap.size + 1]? = some (.cells (setL ⟨(p:Int),bk,bn,bi⟩) 25 (0,0))):=(b45.block _ (Array.getElem?_eq_some_iff.1 HBOXB.out).1).trans HBOXB.out
 clear hRB1 b45 HG HB4 HBOXB
 go_upto_region 12 with fail
 go_cut [16] (fun x wx => ∃ Bx,x = .pointer (some ⟨Bx,0,none⟩) ∧ RuleBox wx Bx [xSel] ⟨(p:Int),bk,bn,bi⟩ ∧ Below w5.heap.size w5 wx)
 case first =>
  obtain ⟨S,hS⟩:∃ S,S = (fun Y:World => Y.cell? ⟨w.heap.size + 1,0,none⟩ = some (.int .i64 (p:Int)) ∧ Y.cell? ⟨w.heap.size + 1,1,none⟩ = some (.int .i64 bk) ∧ Y.cell? ⟨w.heap.size + 1,2,none⟩ = some (.int .i64 bn) ∧ Y.cell? ⟨w.heap.size + 1,3,none⟩ = some (.bool bi)):=⟨_,rfl⟩
  have HH:Hid (∀ Y,Below w5.heap.size w5 Y → S Y):=fun Y hY => by
   have h:=(hY.block _ (Array.getElem?_eq_some_iff.1 HBOX.out).1).trans HBOX.out
   subst hS
   exact ⟨by simp [World.cell?,h],by simp [World.cell?,h],by simp [World.cell?,h],by simp [World.cell?,h]⟩
  obtain ⟨Y0,hY0⟩:∃ Y0,w5.drew = Y0:=⟨_,rfl⟩
  have b0:Below w5.heap.size w5 Y0:=by rw [← hY0];exact below_drew (Below.refl _ _)
  refine Rg.wpD_begin [0,1,2,3,5] S (by kernel_rfl) ?_
  rw [hY0]
  have HeldS:=HH.out Y0 b0
  subst hS
  refine Rg.ld 0 HeldS ?_
  simp only [Act.put,Rg.sA,Rg.sB,Rg.sC]
  refine Rg.ld 2 HeldS ?_
  simp only [Act.put,Rg.sA,Rg.sB,Rg.sC]
  clear HeldS hY0
  refine Rg.th 1 3 5 (fun K hK => ?_) (fun K hK => ?_) (fun K hK => ?_)
  ·skip
   go_simp
   refine (sels_x Y0).mono ?_
   rintro e Y1 ⟨q1,c1,rfl,HC,b1⟩
   have bb1:=below_next b0 b1
   refine hK _ _ (fun _ => HH.out _ bb1) ?_
   clear hK K
   refine Rg.tw 3 5 (fun K hK => ?_) (fun K hK => ?_)
   ·skip
    obtain ⟨Y2,hY,b2,HS⟩:=alloc_ex Y1 (.cells (setL ⟨(p:Int),bk,bn,bi⟩) 25)
    go_simp
    have bb2:=below_next bb1 b2
    try rw [hY]
    refine hK _ _ (fun _ => HH.out _ bb2) ?_
    clear hK K hY
    refine Rg.pu 4 ?_
    simp only [Act.put,Rg.sA,Rg.sB,Rg.sC]
    refine Rg.dd 5 fun K hK => ?_
    obtain ⟨Y3,hY,b3,HX⟩:=alloc_ex Y2 (.cells #[.slice none 0 0,.slice none 0 0] 40)
    go_simp
    have bb3:=below_next bb2 b3
    try rw [hY]
    refine hK _ _ (fun _ => HH.out _ bb3) ?_
    clear hK K hY
    obtain ⟨FIN,x0,x1,x2,x3⟩:=rule_fin rfl HC.out (below_next b2 b3) (HS.out _ b3) (HX.out _ (Below.refl _ _)) (.inr b2.size) bb3 bb2.size
    refine Rg.dd 6 fun K hK => ?_
    go_simp
    refine hK _ _ (fun h => absurd h (by decide)) ?_
    clear hK K
    refine Rg.wpD_done (by kernel_rfl) ?_
    go_wp2
    go_meet
    exact ⟨_,rfl,FIN.out⟩
   ·skip
    obtain ⟨Y2,hY,b2,HX⟩:=alloc_ex Y1 (.cells #[.slice none 0 0,.slice none 0 0] 40)
    go_simp
    have bb2:=below_next bb1 b2
    try rw [hY]
    refine hK _ _ (fun _ => HH.out _ bb2) ?_
    clear hK K hY
    refine Rg.dd 3 fun K hK => ?_
    obtain ⟨Y3,hY,b3,HS⟩:=alloc_ex Y2 (.cells (setL ⟨(p:Int),bk,bn,bi⟩) 25)
    go_simp
    have bb3:=below_next bb2 b3
    try rw [hY]
    refine hK _ _ (fun _ => HH.out _ bb3) ?_
    clear hK K hY
    refine Rg.pu 4 ?_
    simp only [Act.put,Rg.sA,Rg.sB,Rg.sC]
    obtain ⟨FIN,x0,x1,x2,x3⟩:=rule_fin rfl HC.out (below_next b2 b3) (HS.out _ (Below.refl _ _)) (HX.out _ b3) (.inr (Nat.le_refl _)) bb3 bb1.size
    refine Rg.dd 6 fun K hK => ?_
    go_simp
    refine hK _ _ (fun h => absurd h (by decide)) ?_
    clear hK K
    refine Rg.wpD_done (by kernel_rfl) ?_
    go_wp2
    go_meet
    exact ⟨_,rfl,FIN.out⟩
  ·skip
   obtain ⟨Y1,hY,b1,HS⟩:=alloc_ex Y0 (.cells (setL ⟨(p:Int),bk,bn,bi⟩) 25)
   go_simp
   have bb1:=below_next b0 b1
   try rw [hY]
   refine hK _ _ (fun _ => HH.out _ bb1) ?_
   clear hK K hY
   refine Rg.tw 1 5 (fun K hK => ?_) (fun K hK => ?_)
   ·skip
    go_simp
    refine (sels_x Y1).mono ?_
    rintro e Y2 ⟨q1,c1,rfl,HC,b2⟩
    have bb2:=below_next bb1 b2
    refine hK _ _ (fun _ => HH.out _ bb2) ?_
    clear hK K
    refine Rg.pu 4 ?_
    simp only [Act.put,Rg.sA,Rg.sB,Rg.sC]
    refine Rg.dd 5 fun K hK => ?_
    obtain ⟨Y3,hY,b3,HX⟩:=alloc_ex Y2 (.cells #[.slice none 0 0,.slice none 0 0] 40)
    go_simp
    have bb3:=below_next bb2 b3
    try rw [hY]
    refine hK _ _ (fun _ => HH.out _ bb3) ?_
    clear hK K hY
    obtain ⟨FIN,x0,x1,x2,x3⟩:=rule_fin rfl HC.out b3 (HS.out _ (below_next b2 b3)) (HX.out _ (Below.refl _ _)) (.inr (Nat.le_refl _)) bb3 bb2.size
    refine Rg.dd 6 fun K hK => ?_
    go_simp
    refine hK _ _ (fun h => absurd h (by decide)) ?_
    clear hK K
    refine Rg.wpD_done (by kernel_rfl) ?_
    go_wp2
    go_meet
    exact ⟨_,rfl,FIN.out⟩
   ·skip
    obtain ⟨Y2,hY,b2,HX⟩:=alloc_ex Y1 (.cells #[.slice none 0 0,.slice none 0 0] 40)
    go_simp
    have bb2:=below_next bb1 b2
    try rw [hY]
    refine hK _ _ (fun _ => HH.out _ bb2) ?_
    clear hK K hY
    refine Rg.dd 1 fun K hK => ?_
    go_simp
    refine (sels_x Y2).mono ?_
    rintro e Y3 ⟨q1,c1,rfl,HC,b3⟩
    have bb3:=below_next bb2 b3
    refine hK _ _ (fun _ => HH.out _ bb3) ?_
    clear hK K
    refine Rg.pu 4 ?_
    simp only [Act.put,Rg.sA,Rg.sB,Rg.sC]
    obtain ⟨FIN,x0,x1,x2,x3⟩:=rule_fin rfl HC.out (Below.refl _ _) (HS.out _ (below_next b2 b3)) (HX.out _ b3) (.inl b2.size) bb3 bb1.size
    refine Rg.dd 6 fun K hK => ?_
    go_simp
    refine hK _ _ (fun h => absurd h (by decide)) ?_
    clear hK K
    refine Rg.wpD_done (by kernel_rfl) ?_
    go_wp2
    go_meet
    exact ⟨_,rfl,FIN.out⟩
  ·skip
   obtain ⟨Y1,hY,b1,HX⟩:=alloc_ex Y0 (.cells #[.slice none 0 0,.slice none 0 0] 40)
   go_simp
   have bb1:=below_next b0 b1
   try rw [hY]
   refine hK _ _ (fun _ => HH.out _ bb1) ?_
   clear hK K hY
   refine Rg.tw 1 3 (fun K hK => ?_) (fun K hK => ?_)
   ·skip
    go_simp
    refine (sels_x Y1).mono ?_
    rintro e Y2 ⟨q1,c1,rfl,HC,b2⟩
    have bb2:=below_next bb1 b2
    refine hK _ _ (fun _ => HH.out _ bb2) ?_
    clear hK K
    refine Rg.dd 3 fun K hK => ?_
    obtain ⟨Y3,hY,b3,HS⟩:=alloc_ex Y2 (.cells (setL ⟨(p:Int),bk,bn,bi⟩) 25)
    go_simp
    have bb3:=below_next bb2 b3
    try rw [hY]
    refine hK _ _ (fun _ => HH.out _ bb3) ?_
    clear hK K hY
    refine Rg.pu 4 ?_
    simp only [Act.put,Rg.sA,Rg.sB,Rg.sC]
    obtain ⟨FIN,x0,x1,x2,x3⟩:=rule_fin rfl HC.out b3 (HS.out _ (Below.refl _ _)) (HX.out _ (below_next b2 b3)) (.inl b1.size) bb3 b0.size
    refine Rg.dd 6 fun K hK => ?_
    go_simp
    refine hK _ _ (fun h => absurd h (by decide)) ?_
    clear hK K
    refine Rg.wpD_done (by kernel_rfl) ?_
    go_wp2
    go_meet
    exact ⟨_,rfl,FIN.out⟩
   ·skip
    obtain ⟨Y2,hY,b2,HS⟩:=alloc_ex Y1 (.cells (setL ⟨(p:Int),bk,bn,bi⟩) 25)
    go_simp
    have bb2:=below_next bb1 b2
    try rw [hY]
    refine hK _ _ (fun _ => HH.out _ bb2) ?_
    clear hK K hY
    refine Rg.dd 1 fun K hK => ?_
    go_simp
    refine (sels_x Y2).mono ?_
    rintro e Y3 ⟨q1,c1,rfl,HC,b3⟩
    have bb3:=below_next bb2 b3
    refine hK _ _ (fun _ => HH.out _ bb3) ?_
    clear hK K
    refine Rg.pu 4 ?_
    simp only [Act.put,Rg.sA,Rg.sB,Rg.sC]
    obtain ⟨FIN,x0,x1,x2,x3⟩:=rule_fin rfl HC.out (Below.refl _ _) (HS.out _ b3) (HX.out _ (below_next b2 b3)) (.inl (below_next b1 b2).size) bb3 b0.size
    refine Rg.dd 6 fun K hK => ?_
    go_simp
    refine hK _ _ (fun h => absurd h (by decide)) ?_
    clear hK K
    refine Rg.wpD_done (by kernel_rfl) ?_
    go_wp2
    go_meet
    exact ⟨_,rfl,FIN.out⟩
 obtain ⟨B2,rfl,hRB2,b56⟩:=hcut
 obtain ⟨w6,hw6⟩:∃ w6,w6 = wc:=⟨_,rfl⟩
 subst hw6
 have HA6:Hid (w6.heap[w.heap.size]? = some (.cells (setL ⟨(p:Int),ak,an,ai⟩) 25 (0,0)) ∧ w6.heap[w.heap.size + 1]? = some (.cells (setL ⟨(p:Int),bk,bn,bi⟩) 25 (0,0))):=⟨(b56.block _ (Array.getElem?_eq_some_iff.1 HA5.out).1).trans HA5.out,(b56.block _ (Array.getElem?_eq_some_iff.1 HBOX.out).1).trans HBOX.out⟩
 have HG6:Hid (GoodM w6 tb esX):=HG5.out.sees (Sees.of_below b56)
 have HB6:Hid (Below w.heap.size w w6):=below_next HB5.out b56
 obtain ⟨q1,c1,S1,m1,m2,m3⟩:=HR5.out.next b56
 obtain ⟨q2,c2,S2,n1,n2,n3⟩:=hRB2
 have x0:w6.cell? ⟨B1,0,none⟩ = some (.slice q1 1 c1):=by simp [World.cell?,m1]
 have x1:w6.cell? ⟨B1,1,none⟩ = some (.slice (some ⟨S1,0,none⟩) 1 1):=by simp [World.cell?,m1]
 have x2:w6.cell? ⟨B2,0,none⟩ = some (.slice q2 1 c2):=by simp [World.cell?,n1]
 have x3:w6.cell? ⟨B2,1,none⟩ = some (.slice (some ⟨S2,0,none⟩) 1 1):=by simp [World.cell?,n1]
 have HM:Hid (w6.heap[S1]? = some (.cells (setL ⟨(p:Int),ak,an,ai⟩) 25 (0,0)) ∧ SelsR 9 w6.heap.size w6 (.slice q1 1 c1) [selO ids] ∧ w6.heap[S2]? = some (.cells (setL ⟨(p:Int),bk,bn,bi⟩) 25 (0,0)) ∧ SelsR 9 w6.heap.size w6 (.slice q2 1 c2) [xSel]):=⟨m2,m3,n2,n3⟩
 clear HA5 HG5 HB5 HR5 HBOX b56 m2 m3 n2 n3
 obtain ⟨w7,hw7⟩:∃ w7,w6.alloc (.cells (rowO false q1 c1 S1 q2 c2 S2) 40) = w7:=⟨_,rfl⟩
 have b67:Below w6.heap.size w6 w7:=by rw [← hw7];exact (Below.refl _ _).alloc (Nat.le_refl _) _
 have m1:=(b67.block _ (Array.getElem?_eq_some_iff.1 m1).1).trans m1
 have n1:=(b67.block _ (Array.getElem?_eq_some_iff.1 n1).1).trans n1
 have y0:w7.cell? ⟨B1,0,none⟩ = some (.slice q1 1 c1):=by simp [World.cell?,m1]
 have y1:w7.cell? ⟨B1,1,none⟩ = some (.slice (some ⟨S1,0,none⟩) 1 1):=by simp [World.cell?,m1]
 have y2:w7.cell? ⟨B2,0,none⟩ = some (.slice q2 1 c2):=by simp [World.cell?,n1]
 have y3:w7.cell? ⟨B2,1,none⟩ = some (.slice (some ⟨S2,0,none⟩) 1 1):=by simp [World.cell?,n1]
 have HR7:=alloc_at hw7
 clear m1 n1
 simp only [rowO,cond_false] at hw7
 go_upto_if 58 with fail
 go_cut [17] (fun x wx => ∃ G,x = .slice (some ⟨G,0,none⟩) 2 2 ∧ wx.heap[G]? = some (.cells (rowO turned q1 c1 S1 q2 c2 S2) 40 (0,0)) ∧ Below w6.heap.size w6 wx)
 case first =>
  cases turned
  ·go_wp2
   go_meet
   exact ⟨_,rfl,HR7,b67⟩
  ·obtain ⟨w8,hw8⟩:∃ w8,w7.alloc (.cells #[.slice q2 1 c2,.slice (some ⟨S2,0,none⟩) 1 1,.slice q1 1 c1,.slice (some ⟨S1,0,none⟩) 1 1] 40) = w8:=⟨_,rfl⟩
   go_wp2
   go_meet
   exact ⟨_,rfl,alloc_at hw8,below_next b67 (by rw [← hw8];exact (Below.refl _ _).alloc (Nat.le_refl _) _)⟩
 clear HR7 b67 hw7 y0 y1 y2 y3 x0 x1 x2 x3
 obtain ⟨G,rfl,hrow,b68⟩:=hcut
 obtain ⟨w8,hw8⟩:∃ w8,w8 = wc:=⟨_,rfl⟩
 subst hw8
 have hwi:Calls Tryz.prog 7 #[.pointer (some ⟨tb,0,none⟩),.int .i64 0,.slice (some ⟨G,0,none⟩) 2 2] w8 fun r w' => r = .returned (.agg (winL (winV (casesO ids turned ⟨(p:Int),ak,an,ai⟩ ⟨(p:Int),bk,bn,bi⟩))).toArray) ∧ Below w8.heap.size w8 w':=by
  obtain ⟨m2,m3,n2,n3⟩:=HM.out
  replace m2:=(b68.block _ (Array.getElem?_eq_some_iff.1 m2).1).trans m2
  replace n2:=(b68.block _ (Array.getElem?_eq_some_iff.1 n2).1).trans n2
  replace m3:=sels_sees m3 (Nat.le_refl _) (Sees.of_below b68)
  replace n3:=sels_sees n3 (Nat.le_refl _) (Sees.of_below b68)
  have g:=HG6.out.sees (Sees.of_below b68)
  cases turned
  ·exact two_any g hrow m2 n2 m3 n3 (few_o ids) few_x (best_o ids) best_x
  ·exact two_any g hrow n2 m2 n3 m3 few_x (few_o ids) best_x (best_o ids)
 have HA8:Hid (w8.heap[w.heap.size]? = some (.cells (setL ⟨(p:Int),ak,an,ai⟩) 25 (0,0)) ∧ w8.heap[w.heap.size + 1]? = some (.cells (setL ⟨(p:Int),bk,bn,bi⟩) 25 (0,0)) ∧ Below w.heap.size w w8):=⟨(b68.block _ (Array.getElem?_eq_some_iff.1 HA6.out.1).1).trans HA6.out.1,(b68.block _ (Array.getElem?_eq_some_iff.1 HA6.out.2).1).trans HA6.out.2,below_next HB6.out b68⟩
 obtain ⟨V,hV⟩:∃ V,winV (casesO ids turned ⟨(p:Int),ak,an,ai⟩ ⟨(p:Int),bk,bn,bi⟩) = V:=⟨_,rfl⟩
 rw [hV] at hwi
 have HV:Hid (V p = bif pickO ai bi ids turned then (ak,an) else (bk,bn)):=by rw [← hV];exact win_o p ak an bk bn ai bi ids turned
 clear hV HA6 HG6 HB6 HM hrow b68
 go_wp2_with fail
 refine hwi.mono ?_
 clear hwi
 rintro e w9 ⟨rfl,b9⟩
 obtain ⟨w10,hw10,b910,HW⟩:=alloc_ex w9 (.cells #[.int .i64 (V 0).1,.int .i64 (V 0).2,.int .i64 (V 1).1,.int .i64 (V 1).2,.int .i64 (V 2).1,.int .i64 (V 2).2,.int .i64 (V 3).1,.int .i64 (V 3).2,.int .i64 (V 4).1,.int .i64 (V 4).2,.int .i64 (V 5).1,.int .i64 (V 5).2,.int .i64 (V 6).1,.int .i64 (V 6).2,.int .i64 (V 7).1,.int .i64 (V 7).2] 42)
 obtain ⟨w11,hw11,b1011,HZ⟩:=alloc_ex w10 (.cells #[.int .i64 bk,.int .i64 bn] 23)
 have b911:=below_next b910 b1011
 have ha9:=(b9.block _ (Array.getElem?_eq_some_iff.1 HA8.out.1).1).trans HA8.out.1
 have hb9:=(b9.block _ (Array.getElem?_eq_some_iff.1 HA8.out.2.1).1).trans HA8.out.2.1
 have hb10:=(b910.block _ (Array.getElem?_eq_some_iff.1 hb9).1).trans hb9
 have ha11:=(b911.block _ (Array.getElem?_eq_some_iff.1 ha9).1).trans ha9
 have hb11:=(b911.block _ (Array.getElem?_eq_some_iff.1 hb9).1).trans hb9
 have s10:w10.heap.size = w9.heap.size + 1:=by rw [← hw10];simp
 have hZ11:=HZ.out _ (Below.refl _ _)
 have e1:w10.cell? ⟨w.heap.size + 1,1,none⟩ = some (.int .i64 bk):=by simp [World.cell?,hb10]
 have e2:w10.cell? ⟨w.heap.size + 1,2,none⟩ = some (.int .i64 bn):=by simp [World.cell?,hb10]
 have f0:w11.cell? ⟨w.heap.size,0,none⟩ = some (.int .i64 (p:Int)):=by simp [World.cell?,ha11]
 have f1:w11.cell? ⟨w.heap.size,1,none⟩ = some (.int .i64 ak):=by simp [World.cell?,ha11]
 have f2:w11.cell? ⟨w.heap.size,2,none⟩ = some (.int .i64 an):=by simp [World.cell?,ha11]
 have f3:w11.cell? ⟨w.heap.size,3,none⟩ = some (.bool ai):=by simp [World.cell?,ha11]
 have f4:w11.cell? ⟨w.heap.size + 1,3,none⟩ = some (.bool bi):=by simp [World.cell?,hb11]
 rw [s10] at hZ11
 have z0:w11.cell? ⟨w9.heap.size + 1,0,none⟩ = some (.int .i64 bk):=by simp [World.cell?,hZ11]
 have z1:w11.cell? ⟨w9.heap.size + 1,1,none⟩ = some (.int .i64 bn):=by simp [World.cell?,hZ11]
 have z2:w11.frozen? ⟨w9.heap.size + 1,0,none⟩ = false:=by simp [World.frozen?,hZ11]
 have z3:w11.frozen? ⟨w9.heap.size + 1,1,none⟩ = false:=by simp [World.frozen?,hZ11]
 have HF:Hid (Below w.heap.size w w11 ∧ w11.heap[w.heap.size]? = some (.cells (setL ⟨(p:Int),ak,an,ai⟩) 25 (0,0)) ∧ w11.heap[w9.heap.size]? = some (.cells (winL V).toArray 42 (0,0)) ∧ w11.heap[w9.heap.size + 1]? = some (.cells #[.int .i64 bk,.int .i64 bn] 23 (0,0)) ∧ w.heap.size < w9.heap.size):=⟨below_next (below_next HA8.out.2.2 b9) b911,ha11,HW.out _ b1011,hZ11,(Array.getElem?_eq_some_iff.1 ha9).1⟩
 clear ha9 hb9 b910 b1011 b911 hb10 ha11 hb11 HW HZ hZ11 b9 HA8
 have hp8:=HP.out
 have hpi:(p:Int) < 8:=by omega
 go_upto_block 0 with fail
 go_cut [] (fun wx => wx.heap[w9.heap.size + 1]? = some (.cells #[.int .i64 (V p).1,.int .i64 (V p).2] 23 (0,0)) ∧ wx.heap[w9.heap.size]? = some (.cells (winL V).toArray 42 (0,0)) ∧ wx.heap[w.heap.size]? = some (.cells (setL ⟨(p:Int),ak,an,ai⟩) 25 (0,0)) ∧ Below w.heap.size w wx)
 case first =>
  cases ai <;> cases bi <;> cases ids <;> cases turned <;> (go_wp2;go_meet;first | exact keep_o HF.out HV.out | exact take_o HF.out HV.out)
 clear hw10 hw11 s10 e1 e2 f0 f1 f2 f3 f4 z0 z1 z2 z3 HF HV
 obtain ⟨t0,t9,ta,tb⟩:=hcut
 have HB:Hid (Below w.heap.size w wc):=tb
 obtain ⟨u0,u1⟩:=WinAt.cell (show WinAt wc w9.heap.size V from t9) HP.out
 have HeldS:wc.drew.cell? ⟨w.heap.size,0,none⟩ = some (.int .i64 (p:Int)) ∧ wc.drew.cell? ⟨w9.heap.size,p * 2,none⟩ = some (.int .i64 (V p).1) ∧ wc.drew.cell? ⟨w9.heap.size,p * 2 + 1,none⟩ = some (.int .i64 (V p).2) ∧ wc.drew.cell? ⟨w9.heap.size + 1,0,none⟩ = some (.int .i64 (V p).1) ∧ wc.drew.cell? ⟨w9.heap.size + 1,1,none⟩ = some (.int .i64 (V p).2):=⟨show wc.cell? _ = _ by simp [World.cell?,ta],u0,u1,show wc.cell? _ = _ by simp [World.cell?,t0],show wc.cell? _ = _ by simp [World.cell?,t0]⟩
 clear t0 t9 ta tb u0 u1
 have hkk:((V p).1 == (V p).1) = true:=by simp
 have hnn:((V p).2 == (V p).2) = true:=by simp
 go_upto_region 21 with fail
 refine Rg.wpD_begin [0,1,2,3,4] (fun Y:World => Y.cell? ⟨w.heap.size,0,none⟩ = some (.int .i64 (p:Int)) ∧ Y.cell? ⟨w9.heap.size,p * 2,none⟩ = some (.int .i64 (V p).1) ∧ Y.cell? ⟨w9.heap.size,p * 2 + 1,none⟩ = some (.int .i64 (V p).2) ∧ Y.cell? ⟨w9.heap.size + 1,0,none⟩ = some (.int .i64 (V p).1) ∧ Y.cell? ⟨w9.heap.size + 1,1,none⟩ = some (.int .i64 (V p).2)) (by kernel_rfl) ?_
 refine Rg.ld 0 HeldS ?_
 simp only [Act.put,Rg.sA,Rg.sB,Rg.sC]
 refine Rg.ld 1 HeldS ?_
 simp only [Act.put,Rg.sA,Rg.sB,Rg.sC]
 refine Rg.ld 2 HeldS ?_
 simp only [Act.put,Rg.sA,Rg.sB,Rg.sC]
 refine Rg.ld 3 HeldS ?_
 simp only [Act.put,Rg.sA,Rg.sB,Rg.sC]
 refine Rg.ld 4 HeldS ?_
 simp only [Act.put,Rg.sA,Rg.sB,Rg.sC]
 refine Rg.pu 5 ?_
 simp only [Act.put,Rg.sA,Rg.sB,Rg.sC]
 refine Rg.pu 6 ?_
 simp only [Act.put,Rg.sA,Rg.sB,Rg.sC]
 refine Rg.wpD_done (by kernel_rfl) ?_
 clear HeldS
 go_wp2
 go_ret
 exact ⟨rfl,below_drew HB.out⟩
end Go.Proofs.YtcmmdojlhfmddaaGreat.Co
