/- Selectors read less deep; what they weigh then; how deep lists stand, in plain words. -/
import Derived.Test.YtcmmdojlhfmddaaGreatWgMem
import Derived.Test.YtcmmdojlhfmddaaGreatWgGr
import Derived.Test.YtcmmdojlhfmddaaGreatSlTok
import Derived.Test.YtcmmdojlhfmddaaGreatRgn
import Derived.Test.YtcmmdojlhfmddaaGreatSeqD
import Derived.Maps.OwnSet
import Derived.Lib.SlKeysI
import Derived.Laws.OwnMore
import Derived.Below
namespace Go.Proofs.YtcmmdojlhfmddaaGreat.Wg
open Go.Proofs.YtcmmdojlhfmddaaGreat.Tre
open Go Go.RowKit Sl
def cutL:Nat → List Sel → List Sel
 | 0,_ => []
 | d + 1,l => l.map (fun s => s.map (fun p => (p.1,Cp.mk p.2.tag p.2.ids p.2.classes p.2.attrs (p.2.pss.map (fun q => Ps.mk q.kind q.a q.b (cutL d q.list))))))
def cutP (d:Nat) (q:Ps):Ps:=.mk q.kind q.a q.b (cutL d q.list)
def cutC (d:Nat) (c:Cp):Cp:=.mk c.tag c.ids c.classes c.attrs (c.pss.map (cutP d))
def cutS (d:Nat) (s:Sel):Sel:=s.map (fun p => (p.1,cutC d p.2))
theorem cutL_succ (d:Nat) (l:List Sel):cutL (d + 1) l = l.map (cutS d):=rfl
theorem RowT.map {α β:Type} {sz:Nat} {T:List Value → α → Prop} {T':List Value → β → Prop} {n:Nat} {W:World} {v:Value} {l:List α} (h:RowT sz T n W v l) (f:α → β) (hT:∀ c x,T c x → T' c (f x)):RowT sz T' n W v (l.map f):=by
 rcases h with ⟨rfl,h⟩ | ⟨b,off,cap,rfl,h1,h2,h3,h4⟩
 ·exact .inl ⟨rfl,h⟩
 ·refine .inr ⟨b,off,cap,by rw [List.length_map],by rw [List.length_map];exact h1,h2,h3,fun j x hx => ?_⟩
  rw [List.getElem?_map] at hx
  obtain ⟨y,hy,rfl⟩:=Option.map_eq_some_iff.1 hx
  obtain ⟨c,hc,ht,hcell⟩:=h4 j y hy
  exact ⟨c,hc,hT _ _ ht,hcell⟩
/-! ### weights -/
theorem sums_cut {d:Nat} (G:List Sel → Sm) (hG:∀ l,G (cutL d l) = G l) (s:Sel):sumsV G (cutS d s) = sumsV G s:=by
 unfold sumsV cutS
 rw [List.foldl_map]
 congr 1
 funext o p
 show compS G o (cutC d p.2) = compS G o p.2
 unfold compS cutC
 simp only [Cp.pss]
 rw [List.foldl_map]
 have h1:(fun o q => withV o (psV G (cutP d q))) = (fun o q => withV o (psV G q)):=by
  funext o q
  have:psV G (cutP d q) = psV G q:=by
   show (if q.kind = 7 ∨ q.kind = 8 then G (cutL d q.list) else ⟨0,1,0⟩) = if q.kind = 7 ∨ q.kind = 8 then G q.list else ⟨0,1,0⟩
   rw [hG]
  rw [this]
 rw [h1]
 rfl
theorem great_cut:∀ (d:Nat) (l:List Sel),greatV d (cutL d l) = greatV d l
 | 0,_ => rfl
 | d + 1,l => by
  rw [cutL_succ]
  show (l.map (cutS d)).foldl _ _ = l.foldl _ _
  rw [List.foldl_map]
  congr 1
  funext o s
  rw [sums_cut (greatV d) (great_cut d)]
theorem sums8_cut (s:Sel):sumsV (greatV 8) (cutS 8 s) = sumsV (greatV 8) s:=sums_cut _ (great_cut 8) s
/-! ### how deep -/
end Go.Proofs.YtcmmdojlhfmddaaGreat.Wg

/- The laws' own Dear of selectors (tapestrierlaw10): whatever it tells, it comes back. -/
namespace Go.Proofs.YtcmmdojlhfmddaaGreat.Wg
open Go.Proofs.YtcmmdojlhfmddaaGreat.Tre
open Go Go.RowKit Sl
def FewC (c:Cp):Prop:=c.ids.length ≤ 5 ∧ c.classes.length ≤ 5 ∧ c.attrs.length ≤ 5 ∧ c.pss.length ≤ 5
def FewD:Nat → List Sel → Prop
 | 0,_ => False
 | d + 1,l => ∀ s ∈ l,s.length ≤ 60 ∧ ∀ p ∈ s,FewC p.2 ∧ ∀ u ∈ p.2.pss,FewD d u.list
def FewQ (d:Nat) (c:Cp):Prop:=FewC c ∧ ∀ u ∈ c.pss,FewD d u.list
def FewT (d:Nat) (s:Sel):Prop:=s.length ≤ 60 ∧ ∀ p ∈ s,FewQ d p.2
end Go.Proofs.YtcmmdojlhfmddaaGreat.Wg

/- What selectors weigh, uncut until the end: plain facts. -/
namespace Go.Proofs.YtcmmdojlhfmddaaGreat.Wg
open Go.Proofs.YtcmmdojlhfmddaaGreat.Tre
open Go Go.RowKit Sl
def addV (a b:Sm):Sm:=⟨a.i + b.i,a.c + b.c,a.t + b.t⟩
theorem weight_lt {s:Sm} (h:s.ok):weightV s < 16777216:=by
 obtain ⟨h1,h2,h3⟩:=h
 unfold weightV
 omega
def SmB (n:Nat) (s:Sm):Prop:=s.i ≤ n ∧ s.c ≤ n ∧ s.t ≤ n
theorem SmB.add {n m:Nat} {a b:Sm} (ha:SmB n a) (hb:SmB m b):SmB (n + m) (addV a b):=⟨Nat.add_le_add ha.1 hb.1,Nat.add_le_add ha.2.1 hb.2.1,Nat.add_le_add ha.2.2 hb.2.2⟩
end Go.Proofs.YtcmmdojlhfmddaaGreat.Wg

/- The greatest weight of those that match: weigh.Best at every list of selectors that are answered for. -/
set_option maxRecDepth 100000
namespace Go.Proofs.YtcmmdojlhfmddaaGreat.Mt
open Go.Proofs.YtcmmdojlhfmddaaGreat.Tre
open Go Go.RowKit Sl Go.Proofs.YtcmmdojlhfmddaaGreat.Wg
theorem takeFB {α β:Type} (f:β → α → β) (z:β) {l:List α} {k:Nat} {x:α} (h:l[k]? = some x):(l.take (k + 1)).foldl f z = f ((l.take k).foldl f z) x:=by
 rw [List.take_add_one,h]
 simp [List.foldl_append]
/-! ### the greatest weight of those that match -/
def stepW (f:Sel → Bool) (o:Nat × Bool) (s:Sel):Nat × Bool:=if f s then (max o.1 (ofV s),true) else o
def bestW (f:Sel → Bool) (l:List Sel):Nat × Bool:=l.foldl (stepW f) (0,false)
theorem bestW_next {f:Sel → Bool} {l:List Sel} {k:Nat} {s:Sel} (h:l[k]? = some s):bestW f (l.take (k + 1)) = stepW f (bestW f (l.take k)) s:=takeFB _ _ h
theorem ofV_lt (s:Sel):ofV s < 16777216:=weight_lt (sumsV_ok _ s)
theorem bestW_ok (f:Sel → Bool):∀ (l:List Sel) (o:Nat × Bool),(o.1 < 16777216 ∧ (o.2 = false → o.1 = 0)) → (l.foldl (stepW f) o).1 < 16777216 ∧ ((l.foldl (stepW f) o).2 = false → (l.foldl (stepW f) o).1 = 0)
 | [],_,h => h
 | s :: l,o,h => bestW_ok f l _ (by
  unfold stepW
  split
  ·have:=ofV_lt s
   exact ⟨Nat.max_lt.2 ⟨h.1,this⟩,fun e => by cases e⟩
  ·exact h)
theorem bestW_okk (f:Sel → Bool) (l:List Sel):(bestW f l).1 < 16777216 ∧ ((bestW f l).2 = false → (bestW f l).1 = 0):=bestW_ok f l _ ⟨by decide,fun _ => rfl⟩
structure Sees (w X:World):Prop where
 size:w.heap.size ≤ X.heap.size
 block:∀ r,r < w.heap.size → X.heap[r]? = w.heap[r]?
theorem Sees.refl (w:World):Sees w w:=⟨Nat.le_refl _,fun _ _ => rfl⟩
theorem Sees.next {w X Y:World} (h:Sees w X) (hb:Below X.heap.size X Y):Sees w Y:=⟨Nat.le_trans h.size hb.size,fun r hr => (hb.block r (Nat.lt_of_lt_of_le hr h.size)).trans (h.block r hr)⟩
theorem Sees.of_below {w X:World} (h:Below w.heap.size w X):Sees w X:=⟨h.size,fun r hr => h.block r hr⟩
theorem Sees.above {w X:World} (h:Sees w X):Below w.heap.size w { X with os:=w.os,tape:=w.tape,output:=w.output }:=⟨rfl,rfl,rfl,h.size,fun r hr => h.block r hr⟩
def AskOK (fid:Nat) (tp:Value) (f:Int → Sel → Bool) (w:World) (q:Option Addr) (c:Nat) (l:List Sel):Prop:=
 ∀ (k:Nat) (x:Sel),l[k]? = some x → ∃ (bk off:Nat) (xp:Option Addr) (xc:Nat),q = some ⟨bk,off,none⟩ ∧ l.length ≤ c ∧ c ≤ 9223372036854775807 ∧ (∀ X,Sees w X → X.cell? ⟨bk,off + k,none⟩ = some (.slice xp x.length xc)) ∧
  (∀ X,Sees w X → PartsR 8 X.heap.size X (.slice xp x.length xc) (cutS 8 x)) ∧ FewT 10 x ∧
  ∀ (e:Int) X,Sees w X → Calls Tryz.prog fid #[tp,.int .i64 e,.agg #[.slice xp x.length xc]] X fun r w' => r = .returned (.bool (f e x)) ∧ Below X.heap.size X w'
theorem ofV_cut (x:Sel):ofV (cutS 8 x) = ofV x:=by
 unfold ofV
 rw [sums8_cut]
set_option maxHeartbeats 4000000 in
theorem best_any (tp:Value) (f:Int → Sel → Bool) (w0 w:World) (q:Option Addr) (c:Nat) (l:List Sel) (e:Int) (_hl:l.length ≤ 9223372036854775807) (h:AskOK 62 tp f w0 q c l) (hS:Sees w0 w) :
  Calls Tryz.prog 37 #[tp,.int .i64 e,.slice q l.length c] w fun r w' => r = .returned (.tuple #[.int .i64 ((bestW (f e) l).1:Nat),.bool (bestW (f e) l).2]) ∧ Below w.heap.size w w':=by
 have HA:Hid (AskOK 62 tp f w0 q c l):=h
 have HSE:Hid (Sees w0 w):=hS
 clear h hS
 go_enter Tryz.func37,Tryz.ntmps37
 go_wp2
 go_loopw [8,9,14] (fun x y z wr => ∃ (b:Nat) (t:Bool) (k:Nat),x = .int .i64 b ∧ y = .bool t ∧ z = .int .i64 k ∧ k ≤ l.length ∧ Hid (bestW (f e) (l.take k) = (b,t)) ∧ Below w.heap.size w wr) (fun _ _ z _ => l.length - (RowKit.intOf z).toNat)
 case atStart => exact ⟨0,false,0,rfl,rfl,rfl,Nat.zero_le _,rfl,Below.refl _ _⟩
 case round =>
  obtain ⟨b,t,k,rfl,rfl,rfl,hk,HB,bw⟩:=hrel
  by_cases hlt:k < l.length
  ·have hki:(k:Int) < (l.length:Int):=by omega
   obtain ⟨x,hx⟩:∃ x,l[k]? = some x:=⟨_,List.getElem?_eq_getElem hlt⟩
   obtain ⟨bk,off,xp,xc,rfl,g1,g2,hc,hp,hf,hs⟩:=HA.out k x hx
   have HN:Hid (bestW (f e) (l.take (k + 1)) = stepW (f e) (b,t) x):=by
    show _ = _
    rw [bestW_next hx,HB.out]
   have y0:=hc wr (HSE.out.next bw)
   obtain ⟨W1,hW1⟩:∃ W1,wr.alloc (.cells #[.slice xp x.length xc] 117) = W1:=⟨_,rfl⟩
   have b1:Below wr.heap.size wr W1:=by rw [← hW1];exact (Below.refl _ _).alloc (Nat.le_refl _) _
   have k1:Blk W1 wr.heap.size 117 [.slice xp x.length xc]:=by rw [← hW1];exact Blk.new wr _ _
   have h1:=hs e W1 (HSE.out.next (below_next bw b1))
   have K1:Hid (Blk W1 wr.heap.size 117 [.slice xp x.length xc] ∧ Below w.heap.size w W1):=⟨k1,below_next bw b1⟩
   have HP:Hid (∀ X,Below w.heap.size w X → PartsR 8 X.heap.size X (.slice xp x.length xc) (cutS 8 x)):=fun X hX => hp X (HSE.out.next hX)
   obtain ⟨F,hF⟩:∃ F,f e x = F:=⟨_,rfl⟩
   rw [hF] at h1
   have HF:Hid (f e x = F):=hF
   obtain ⟨y1,_⟩:=blk1 k1
   clear hc hp hs hf hx b1 k1 bw hF
   go_wp2_with fail
   refine h1.mono ?_
   clear h1 hW1 y0 y1
   rintro r w2 ⟨rfl,b2⟩
   have B2:=below_next K1.out.2 b2
   cases F with
   | false =>
    have HS:Hid (stepW (f e) (b,t) x = (b,t)):=by
     show _ = _
     unfold stepW
     rw [HF.out]
     rfl
    go_wp2
    go_roundw
    case rel => exact ⟨b,t,k + 1,rfl,rfl,by go_num,by omega,by rw [← HS.out];exact HN,B2⟩
    case measure => simp [RowKit.intOf];omega
   | true =>
    have HS:Hid (stepW (f e) (b,t) x = (max b (ofV x),true)):=by
     show _ = _
     unfold stepW
     rw [HF.out]
     rfl
    obtain ⟨y2,_⟩:=blk1 (K1.out.1.below b2 K1.out.1.lt)
    have h3:=of_any (.slice xp x.length xc) (cutS 8 x) w2 (HP.out w2 B2)
    rw [ofV_cut] at h3
    obtain ⟨V,hV⟩:∃ V,ofV x = V:=⟨_,rfl⟩
    rw [hV] at h3 HS
    clear b2 hV
    go_wp2_with fail
    refine h3.mono ?_
    clear h3 y2
    rintro r w3 ⟨rfl,b3⟩
    have B3:=below_next B2 b3
    have HNX:Hid (bestW (f e) (l.take (k + 1)) = (max b V,true)):=by
     rw [← HS.out]
     exact HN
    go_wp2
    exact ⟨⟨max b V,true,k + 1,by rw [show ((max b V:Nat):Int) = max (b:Int) (V:Int) by omega],rfl,by go_num,by omega,HNX,B3⟩,by simp [RowKit.intOf];omega⟩
  ·have hki:¬ (k:Int) < (l.length:Int):=by omega
   have HE:Hid (bestW (f e) l = (b,t)):=by
    have h:=HB.out
    rwa [List.take_of_length_le (by omega)] at h
   go_wp2
   go_ret2
   exact ⟨by rw [HE.out];rfl,bw⟩
end Go.Proofs.YtcmmdojlhfmddaaGreat.Mt

/- What is set of an element, of candidates: plain; two passes over weights that rise, and the document's own loop. -/
namespace Go.Proofs.YtcmmdojlhfmddaaGreat.Cs
open Go.Proofs.YtcmmdojlhfmddaaGreat.Tre
open Go Go.RowKit Sl Mt Go.Proofs.YtcmmdojlhfmddaaGreat.Wg
structure St where
 prop:Int
 kind:Int
 n:Int
 imp:Bool
abbrev Cd:=Nat × List St
def stepM {α:Type} (o:Option (Nat × α)) (x:Nat × α):Option (Nat × α):=match o with
 | none => some x
 | some y => if x.1 < y.1 then some y else some x
def lastMax {α:Type} (l:List (Nat × α)):Option (Nat × α):=l.foldl stepM none
def keyS (w:Nat) (s:St):Nat:=if s.imp then w + 1073741824 else w
def itemS (p:Nat) (w:Nat) (s:St):Option (Nat × Int × Int):=if s.prop = p then some (keyS w s,s.kind,s.n) else none
def itemsV (p:Nat) (cs:List Cd):List (Nat × Int × Int):=cs.flatMap (fun c => c.2.filterMap (itemS p c.1))
def winV (cs:List Cd) (p:Nat):Int × Int:=match lastMax (itemsV p cs) with
 | some x => x.2
 | none => (0,0)
theorem foldM_some {α:Type}:∀ (l:List (Nat × α)) (y:Nat × α),∃ pre x post,y :: l = pre ++ x :: post ∧ l.foldl stepM (some y) = some x ∧ (∀ z ∈ pre,z.1 ≤ x.1) ∧ ∀ z ∈ post,z.1 < x.1
 | [],y => ⟨[],y,[],rfl,rfl,fun _ h => (by cases h),fun _ h => (by cases h)⟩
 | a :: l,y => by
  rw [List.foldl_cons]
  by_cases h:a.1 < y.1
  ·have hs:stepM (some y) a = some y:=if_pos h
   rw [hs]
   obtain ⟨pre,x,post,e,hf,h1,h2⟩:=foldM_some l y
   cases pre with
   | nil =>
    simp only [List.nil_append,List.cons.injEq] at e
    obtain ⟨rfl,rfl⟩:=e
    exact ⟨[],y,a :: l,rfl,hf,fun _ h => (by cases h),fun z hz => by
     rcases List.mem_cons.1 hz with rfl | hz
     ·exact h
     ·exact h2 z hz⟩
   | cons b pre =>
    simp only [List.cons_append,List.cons.injEq] at e
    obtain ⟨rfl,rfl⟩:=e
    have hy:=h1 y (List.mem_cons_self ..)
    exact ⟨y :: a :: pre,x,post,rfl,hf,fun z hz => by
     rcases List.mem_cons.1 hz with rfl | hz
     ·exact hy
     ·rcases List.mem_cons.1 hz with rfl | hz
      ·omega
      ·exact h1 z (List.mem_cons_of_mem _ hz),h2⟩
  ·have hs:stepM (some y) a = some a:=if_neg h
   rw [hs]
   obtain ⟨pre,x,post,e,hf,h1,h2⟩:=foldM_some l a
   refine ⟨y :: pre,x,post,by rw [e];rfl,hf,fun z hz => ?_,h2⟩
   rcases List.mem_cons.1 hz with rfl | hz
   ·have ha:a.1 ≤ x.1:=by
     cases pre with
     | nil =>
      simp only [List.nil_append,List.cons.injEq] at e
      rw [e.1]
      exact Nat.le_refl _
     | cons b pre =>
      simp only [List.cons_append,List.cons.injEq] at e
      exact h1 a (by rw [e.1];exact List.mem_cons_self ..)
    omega
   ·exact h1 z hz
theorem lastMax_of {α:Type} {l:List (Nat × α)} (hl:l ≠ []):∃ pre x post,l = pre ++ x :: post ∧ lastMax l = some x ∧ (∀ z ∈ pre,z.1 ≤ x.1) ∧ ∀ z ∈ post,z.1 < x.1:=by
 cases l with
 | nil => exact absurd rfl hl
 | cons a l => exact foldM_some l a
theorem last_sorted {α:Type} (l:List (Nat × α)):∀ (ks:List Nat),ks.Pairwise (· < ·) → (∀ x ∈ l,x.1 ∈ ks) → (ks.flatMap (fun k => l.filter (fun x => decide (x.1 = k)))).getLast? = lastMax l:=by
 intro ks hks hm
 by_cases hl:l = []
 ·subst hl
  have:ks.flatMap (fun k => ([]:List (Nat × α)).filter (fun x => decide (x.1 = k))) = []:=by simp
  rw [this]
  rfl
 ·obtain ⟨pre,x,post,e,hf,h1,h2⟩:=lastMax_of hl
  rw [hf]
  have hx:x.1 ∈ ks:=hm x (by rw [e];simp)
  obtain ⟨A,B,rfl⟩:=List.append_of_mem hx
  rw [List.flatMap_append,List.flatMap_cons]
  have hB:B.flatMap (fun k => l.filter (fun x => decide (x.1 = k))) = []:=by
   rw [List.flatMap_eq_nil_iff]
   intro k hk
   rw [List.filter_eq_nil_iff]
   intro z hz hzk
   have hzk:z.1 = k:=by simpa using hzk
   have hlt:x.1 < k:=by
    have:=List.pairwise_append.1 hks
    exact (List.pairwise_cons.1 this.2.1).1 k hk
   have:z.1 ≤ x.1:=by
    rw [e] at hz
    rcases List.mem_append.1 hz with hz | hz
    ·exact h1 z hz
    ·rcases List.mem_cons.1 hz with rfl | hz
     ·exact Nat.le_refl _
     ·exact Nat.le_of_lt (h2 z hz)
   omega
  rw [hB,List.append_nil]
  have hfil:l.filter (fun z => decide (z.1 = x.1)) = pre.filter (fun z => decide (z.1 = x.1)) ++ [x]:=by
   rw [e,List.filter_append,List.filter_cons_of_pos (by simp)]
   have:post.filter (fun z => decide (z.1 = x.1)) = []:=by
    rw [List.filter_eq_nil_iff]
    intro z hz hzk
    have:=h2 z hz
    have:z.1 = x.1:=by simpa using hzk
    omega
   rw [this]
  rw [hfil]
  simp [List.getLast?_append]
def passS (p:Nat) (b:Bool) (s:St):Option (Int × Int):=if s.imp = b ∧ s.prop = p then some (s.kind,s.n) else none
def putS (b:Bool) (o:Nat → Int × Int) (s:St):Nat → Int × Int:=if s.imp = b ∧ 0 ≤ s.prop ∧ s.prop < 8 then fun i => if (i:Int) = s.prop then (s.kind,s.n) else o i else o
def lastOr {α:Type} (l:List α) (d:α):α:=(l.getLast?).getD d
theorem lastOr_join {α:Type} (l m:List α) (d:α):lastOr (l ++ m) d = lastOr m (lastOr l d):=by
 unfold lastOr
 rw [List.getLast?_append]
 cases m.getLast? <;> simp
theorem putS_at {b:Bool} {o:Nat → Int × Int} {s:St} {p:Nat} (hp:p < 8):putS b o s p = lastOr ([s].filterMap (passS p b)) (o p):=by
 unfold putS passS
 by_cases h1:s.imp = b
 ·by_cases h2:s.prop = p
  ·rw [if_pos ⟨h1,by omega,by omega⟩]
   simp [h1,h2,lastOr]
  ·have h3:(p:Int) ≠ s.prop:=fun e => h2 e.symm
   have:(if s.imp = b ∧ 0 ≤ s.prop ∧ s.prop < 8 then fun i:Nat => if (i:Int) = s.prop then (s.kind,s.n) else o i else o) p = o p:=by
    split
    ·simp [h3]
    ·rfl
   rw [this]
   simp [h2,lastOr]
 ·rw [if_neg (fun h => h1 h.1)]
  simp [h1,lastOr]
theorem putAll_at {b:Bool} {p:Nat} (hp:p < 8):∀ (l:List St) (o:Nat → Int × Int),l.foldl (putS b) o p = lastOr (l.filterMap (passS p b)) (o p)
 | [],o => rfl
 | s :: l,o => by
  rw [List.foldl_cons,putAll_at hp l,putS_at hp,← lastOr_join,← List.filterMap_append]
  rfl
def byW (cs:List Cd) (w:Nat):List (List St):=(cs.filter (fun c => decide (c.1 = w))).map (·.2)
def risingV (cs:List Cd) (ks:List Nat):List (List St):=ks.flatMap (byW cs)
def passV (b:Bool) (o:Nat → Int × Int) (ls:List (List St)):Nat → Int × Int:=ls.foldl (fun o l => l.foldl (putS b) o) o
theorem pass_flat (b:Bool):∀ (ls:List (List St)) (o:Nat → Int × Int),passV b o ls = ls.flatten.foldl (putS b) o
 | [],_ => rfl
 | l :: ls,o => by
  show passV b _ ls = _
  rw [pass_flat b ls,List.flatten_cons,List.foldl_append]
theorem pass_items (cs:List Cd) (p:Nat) (b:Bool) (w:Nat) (hw:∀ c ∈ cs,c.1 < 1073741824) (hk:w < 1073741824) :
  (byW cs w).flatten.filterMap (passS p b) = ((itemsV p cs).filter (fun x => decide (x.1 = if b then w + 1073741824 else w))).map (·.2):=by
 unfold byW itemsV
 induction cs with
 | nil => rfl
 | cons c cs ih =>
  have ih:=ih (fun c hc => hw c (List.mem_cons_of_mem _ hc))
  have hc:=hw c (List.mem_cons_self ..)
  rw [List.flatMap_cons,List.filter_append,List.map_append,← ih]
  have one:∀ l:List St,((l.filterMap (itemS p c.1)).filter (fun x => decide (x.1 = if b then w + 1073741824 else w))).map (·.2) = if c.1 = w then l.filterMap (passS p b) else []:=by
   intro l
   induction l with
   | nil => simp
   | cons s l il =>
    by_cases h2:s.prop = p
    ·have e1:itemS p c.1 s = some (keyS c.1 s,s.kind,s.n):=if_pos h2
     rw [List.filterMap_cons_some e1]
     by_cases h3:c.1 = w
     ·rw [if_pos h3] at il ⊢
      by_cases h4:s.imp = b
      ·have e2:passS p b s = some (s.kind,s.n):=if_pos ⟨h4,h2⟩
       have e3:keyS c.1 s = if b then w + 1073741824 else w:=by
        unfold keyS
        rw [h4,h3]
       rw [List.filterMap_cons_some e2,List.filter_cons_of_pos (by simpa using e3),List.map_cons,il]
      ·have e2:passS p b s = none:=if_neg (fun h => h4 h.1)
       have e3:keyS c.1 s ≠ if b then w + 1073741824 else w:=by
        unfold keyS
        cases hb:b <;> cases hi:s.imp <;> simp_all
       rw [List.filterMap_cons_none e2,List.filter_cons_of_neg (by simpa using e3),il]
     ·rw [if_neg h3] at il ⊢
      have e3:keyS c.1 s ≠ if b then w + 1073741824 else w:=by
       unfold keyS
       cases hb:b <;> cases hi:s.imp <;> simp <;> omega
      rw [List.filter_cons_of_neg (by simpa using e3),il]
    ·have e1:itemS p c.1 s = none:=if_neg h2
     have e2:passS p b s = none:=if_neg (fun h => h2 h.2)
     rw [List.filterMap_cons_none e1,List.filterMap_cons_none e2]
     exact il
  rw [one]
  by_cases h3:c.1 = w
  ·rw [List.filter_cons_of_pos (by simpa using h3),List.map_cons,List.flatten_cons,List.filterMap_append,if_pos h3]
  ·rw [List.filter_cons_of_neg (by simpa using h3),if_neg h3]
   rfl
theorem flatten_fm {α β γ:Type} (f:α → List (List β)) (g:β → Option γ):∀ ks:List α,((ks.flatMap f).flatten).filterMap g = ks.flatMap (fun k => (f k).flatten.filterMap g)
 | [] => rfl
 | k :: ks => by rw [List.flatMap_cons,List.flatten_append,List.filterMap_append,flatten_fm f g ks,List.flatMap_cons]
theorem passes_win (cs:List Cd) (ks:List Nat) (hks:ks.Pairwise (· < ·)) (hm:∀ c ∈ cs,c.1 ∈ ks) (hk:∀ k ∈ ks,k < 1073741824) (p:Nat) (hp:p < 8) :
  passV true (passV false (fun _ => (0,0)) (risingV cs ks)) (risingV cs ks) p = winV cs p:=by
 have hw:∀ c ∈ cs,c.1 < 1073741824:=fun c hc => hk _ (hm c hc)
 rw [pass_flat,putAll_at hp,pass_flat,putAll_at hp,← lastOr_join]
 unfold risingV
 rw [flatten_fm,flatten_fm]
 have e1:∀ b:Bool,ks.flatMap (fun k => (byW cs k).flatten.filterMap (passS p b)) = ((ks.map (fun w => if b then w + 1073741824 else w)).flatMap (fun k => (itemsV p cs).filter (fun x => decide (x.1 = k)))).map (·.2):=by
  intro b
  have:∀ ks:List Nat,(∀ k ∈ ks,k < 1073741824) → ks.flatMap (fun k => (byW cs k).flatten.filterMap (passS p b)) = ((ks.map (fun w => if b then w + 1073741824 else w)).flatMap (fun k => (itemsV p cs).filter (fun x => decide (x.1 = k)))).map (·.2):=by
   intro ks
   induction ks with
   | nil => intro _;rfl
   | cons k ks ih =>
    intro hk
    rw [List.flatMap_cons,List.map_cons,List.flatMap_cons,List.map_append,← ih (fun k h => hk k (List.mem_cons_of_mem _ h)),pass_items cs p b k hw (hk k (List.mem_cons_self ..))]
  exact this ks hk
 rw [e1 false,e1 true,← List.map_append,← List.flatMap_append]
 have hs:=last_sorted (itemsV p cs) (ks.map (fun w => if false = true then w + 1073741824 else w) ++ ks.map (fun w => if true = true then w + 1073741824 else w)) (by
  rw [List.pairwise_append]
  refine ⟨?_,?_,?_⟩
  ·rw [List.pairwise_map]
   exact hks.imp (fun h => by simpa using h)
  ·rw [List.pairwise_map]
   exact hks.imp (fun h => by simpa using h)
  ·intro a ha b hb
   obtain ⟨x,hx,rfl⟩:=List.mem_map.1 ha
   obtain ⟨y,hy,rfl⟩:=List.mem_map.1 hb
   have:=hk x hx
   simp
   omega) (by
  intro x hx
  obtain ⟨c,hc,hx⟩:=List.mem_flatMap.1 hx
  obtain ⟨s,hs,hx⟩:=List.mem_filterMap.1 hx
  unfold itemS at hx
  split at hx
  ·cases hx
   rw [List.mem_append]
   unfold keyS
   cases hi:s.imp
   ·exact .inl (List.mem_map.2 ⟨c.1,hm c hc,by simp⟩)
   ·exact .inr (List.mem_map.2 ⟨c.1,hm c hc,by simp⟩)
  ·cases hx)
 unfold winV lastOr
 rw [List.getLast?_map,hs]
 cases lastMax (itemsV p cs) <;> rfl
abbrev Rs:=List Sel × List St
def candV (f:Sel → Bool) (r:Rs):Option Cd:=if (bestW f r.1).2 then some ((bestW f r.1).1,r.2) else none
def candsV (f:Sel → Bool) (l:List Rs):List Cd:=l.filterMap (candV f)
end Go.Proofs.YtcmmdojlhfmddaaGreat.Cs

/- package cascade: a map of lists of sets in memory. -/
namespace Go.Proofs.YtcmmdojlhfmddaaGreat.Cs
open Go.Proofs.YtcmmdojlhfmddaaGreat.Tre
open Go Go.RowKit Sl Wg
/-! ### sets, candidates -/
def StC (c:List Value) (s:St):Prop:=c = [.int .i64 s.prop,.int .i64 s.kind,.int .i64 s.n,.bool s.imp]
def StsT (n:Nat) (W:World) (v:Value) (l:List St):Prop:=RowT 4 StC n W v l
structure Lv where
 p:Option Addr
 c:Nat
 l:List St
abbrev Lv.v (x:Lv):Value:=.slice x.p x.l.length x.c
def lvs (l:List Lv):List Value:=l.map Lv.v
/-! ### keys -/
def heldS (v:Value):Option (DataW Value × List MemPlace):=some (.held v,[])
def keyN (k:Nat):Lit:=.int .i64 (k:Int)
def OkN (k:Nat):Prop:=k < 1073741824
theorem intKeyed:Maps.Keyed Tryz.prog 3:=Maps.int_keyed Tryz.underlying3
theorem zeroRowS (w:World):(zeroValue 124).run Tryz.prog w = .ok (.slice none 0 0) w:=by kernel_rfl
theorem keyN_of {k:Nat} (hk:OkN k):keyOf Tryz.prog 3 (.int .i64 (k:Int)) = some (keyN k):=Maps.keyOf_int_mk Tryz.underlying3 (WalkArith.wf_i64 (by unfold OkN at hk;omega))
theorem keyN_inj {b c:Nat} (h:keyN b = keyN c):b = c:=by
 unfold keyN at h
 simp only [Lit.int.injEq,true_and] at h
 omega
theorem keyN_lit {k:Nat} (hk:OkN k):WideAt.IsKeyLit (keyN k):=intKeyed.key (keyN_of hk)
/-! ### the map -/
abbrev Fn:=Nat → List Lv
abbrev Gn:=Nat → Option Nat
def CellN (n₀:Nat) (γ:Gn) (W:World) (D:DataW Value) (F:Fn) (b:Nat):Prop:=
 (F b = [] ∧ Maps.has D (keyN b) = false) ∨ ∃ v B,F b ≠ [] ∧ D.atKey (keyN b) (.held (.slice none 0 0)) = .held v ∧ v.ownBlock = some B ∧ γ B = some b ∧ W.ownsRow n₀ 38 1 v (F b).length (lvs (F b))
structure Tm (n₀:Nat) (γ:Gn) (W:World) (M cnt:Nat) (F:Fn):Prop where
 d:∃ D,W.ownsMap Tryz.prog 3 heldS M cnt D ∧ (∀ b,OkN b → CellN n₀ γ W D F b) ∧ ∀ x:Int,Maps.has D (.int .i64 x) = true → ∃ k:Nat,x = (k:Int) ∧ OkN k
 lo:n₀ ≤ M
 no:γ M = none
 gl:∀ B b,γ B = some b → n₀ ≤ B ∧ B < W.heap.size
 few:∀ b,(F b).length ≤ cnt
theorem Tm.lt {n₀:Nat} {γ:Gn} {W:World} {M cnt:Nat} {F:Fn} (h:Tm n₀ γ W M cnt F):M < W.heap.size:=by
 obtain ⟨D,hD,_⟩:=h.d
 exact hD.lt
theorem owns_atN {W X:World} {M n:Nat} {D:DataW Value} (h:W.ownsMap Tryz.prog 3 heldS M n D) (e:X.heap[M]? = W.heap[M]?):X.ownsMap Tryz.prog 3 heldS M n D:=by
 obtain ⟨es,clock,h0,h1⟩:=h
 exact ⟨es,clock,e.trans h0,h1⟩
theorem Tm.kept {n₀:Nat} {γ:Gn} {W X:World} {M cnt:Nat} {F:Fn} (h:Tm n₀ γ W M cnt F) (hs:W.heap.size ≤ X.heap.size) (hM:X.heap[M]? = W.heap[M]?) (hB:∀ B b,γ B = some b → X.heap[B]? = W.heap[B]?):Tm n₀ γ X M cnt F:=by
 obtain ⟨D,hD,hc,hx⟩:=h.d
 refine ⟨⟨D,owns_atN hD hM,fun b hb => ?_,hx⟩,h.lo,h.no,fun B b hb => ⟨(h.gl B b hb).1,Nat.lt_of_lt_of_le (h.gl B b hb).2 hs⟩,h.few⟩
 rcases hc b hb with h1 | ⟨v,B,h1,h2,h3,h4,h5⟩
 ·exact .inl h1
 ·exact .inr ⟨v,B,h1,h2,h3,h4,owns_same h5 (fun g hg => by rw [h3] at hg;cases hg;exact hB _ _ h4)⟩
theorem Tm.next {n₀:Nat} {γ:Gn} {W X:World} {M cnt:Nat} {F:Fn} (h:Tm n₀ γ W M cnt F) (hb:Below W.heap.size W X):Tm n₀ γ X M cnt F:=
 h.kept hb.size (hb.block M h.lt) (fun B b e => hb.block B (h.gl B b e).2)
theorem Tm.made (W:World):Tm W.heap.size (fun _ => none) (W.alloc (.map #[] 0)) W.heap.size 0 (fun _ => []):=
 ⟨⟨_,World.ownsMap_made W Tryz.prog 3 heldS,fun b _ => .inl ⟨rfl,by simp [Maps.has]⟩,fun x h => by simp [Maps.has] at h⟩,Nat.le_refl _,rfl,fun _ _ h => (by cases h),fun _ => Nat.le_refl _⟩
theorem Tm.look {n₀:Nat} {γ:Gn} {W:World} {M cnt:Nat} {F:Fn} (h:Tm n₀ γ W M cnt F) (b:Nat) (hb:OkN b) :
  ∃ v,(∀ n,(Instr.lookup 89 (.map (some M)) (.int .i64 (b:Int)) false).run Tryz.prog (W.drewN n) = .ok v (W.drewN n)) ∧ W.ownsRow n₀ 38 1 v (F b).length (lvs (F b)) ∧ (∀ B,v.ownBlock = some B → γ B = some b) ∧ (F b = [] → v = .slice none 0 0):=by
 obtain ⟨D,hD,hc,_⟩:=h.d
 have run:∀ n,∃ v ps,(Instr.lookup 89 (.map (some M)) (.int .i64 (b:Int)) false).run Tryz.prog (W.drewN n) = .ok v (W.drewN n) ∧ heldS v = some (D.atKey (keyN b) (.held (.slice none 0 0)),ps):=fun n =>
  World.ownsMap.lookup (owns_atN hD (X:=W.drewN n) rfl) intKeyed Tryz.underlying89 (zeroRowS _) (zd:=.held (.slice none 0 0)) (zp:=[]) rfl (keyN_of hb)
 have hk2:∀ {v ps d},heldS v = some (d,ps) → d = .held v:=fun h => by
  unfold heldS at h
  simp at h
  exact h.1.symm
 rcases hc b hb with ⟨h1,h2⟩ | ⟨v,B,h1,h2,h3,h4,h5⟩
 ·refine ⟨.slice none 0 0,fun n => ?_,by rw [h1];exact World.ownsRow_nil W n₀ 38 1,fun B e => by simp [Value.ownBlock] at e,fun _ => rfl⟩
  obtain ⟨v,ps,hr,hv⟩:=run n
  have e:=hk2 hv
  rw [Maps.atKey_of_not_has h2] at e
  have e2:Value.slice none 0 0 = v:=DataW.held.inj e
  rw [e2];exact hr
 ·refine ⟨v,fun n => ?_,h5,fun B' e => by rw [h3] at e;cases e;exact h4,fun e => absurd e h1⟩
  obtain ⟨v',ps,hr,hv⟩:=run n
  have e:=hk2 hv
  rw [h2] at e
  have e2:v = v':=DataW.held.inj e
  rw [e2];exact hr
theorem has_put {D:DataW Value} {k x:Lit} {d:DataW Value} (h:Maps.has (D.put k d) x = true):x = k ∨ Maps.has D x = true:=by
 by_cases e:x = k
 ·exact .inl e
 ·exact .inr (by rwa [Maps.has_put_other e] at h)
theorem Tm.put {n₀:Nat} {γ:Gn} {W X:World} {M cnt:Nat} {F:Fn} (h:Tm n₀ γ W M cnt F) (b:Nat) (hb:OkN b) (hcnt:cnt < maxLen) (hs:W.heap.size ≤ X.heap.size) (hM:X.heap[M]? = W.heap[M]?) (hO:∀ B b',γ B = some b' → b' ≠ b → X.heap[B]? = W.heap[B]?)
  {v:Value} {B:Nat} {l:List Lv} (hl:l ≠ []) (hll:l.length ≤ cnt + 1) (hv:v.ownBlock = some B) (hB:γ B = some b ∨ W.heap.size ≤ B) (hBM:B ≠ M) (hrow:X.ownsRow n₀ 38 1 v l.length (lvs l)) :
  ∃ X',(Instr.mapUpdate 89 (.map (some M)) (.int .i64 (b:Int)) v).run Tryz.prog X = .ok () X' ∧ X.grownBy X' (some M) ∧ Tm n₀ (fun k => if k = B then some b else γ k) X' M (cnt + 1) (fun b' => if b' = b then l else F b'):=by
 obtain ⟨D,hD,hc,hx⟩:=h.d
 obtain ⟨X',hrun,hown,hg⟩:=(owns_atN hD hM).update intKeyed Tryz.underlying89 hcnt (keyN_of hb) (d:=.held v) (ps:=[]) rfl
 have hBlt:=(owns_lt hrow hv).2
 refine ⟨X',hrun,hg,⟨_,hown,fun b' hb' => ?_,fun x h => ?_⟩,h.lo,?_,fun B' b' e => ?_,fun b' => ?_⟩
 ·by_cases e:b' = b
  ·subst e
   refine .inr ⟨v,B,by show (if b' = b' then l else F b') ≠ [];rw [if_pos rfl];exact hl,Maps.atKey_put_same (owns_atN hD hM).isMap (keyN_lit hb) _ _,hv,if_pos rfl,?_⟩
   show X'.ownsRow n₀ 38 1 v (if b' = b' then l else F b').length (lvs (if b' = b' then l else F b'))
   rw [if_pos rfl]
   exact owns_same hrow (fun g hg' => by rw [hv] at hg';cases hg';exact hg.block _ hBlt (fun e => hBM (by cases e;rfl)))
  ·have hk:keyN b' ≠ keyN b:=fun e' => e (keyN_inj e')
   have ef:(fun b' => if b' = b then l else F b') b' = F b':=if_neg e
   unfold CellN
   rw [ef]
   rcases hc b' hb' with ⟨h1,h2⟩ | ⟨v',B',h1,h2,h3,h4,h5⟩
   ·exact .inl ⟨h1,by rw [Maps.has_put_other hk];exact h2⟩
   ·have hBB:B' ≠ B:=fun e' => by
     subst e'
     rcases hB with hB | hB
     ·rw [hB] at h4;cases h4;exact e rfl
     ·have:=(h.gl _ _ h4).2;omega
    refine .inr ⟨v',B',h1,by rw [Maps.atKey_put_other hk];exact h2,h3,(if_neg hBB).trans h4,owns_same h5 (fun g hg' => ?_)⟩
    rw [h3] at hg'
    cases hg'
    have hne:B' ≠ M:=fun e' => by subst e';rw [h.no] at h4;cases h4
    exact (hg.block _ (Nat.lt_of_lt_of_le (h.gl _ _ h4).2 hs) (fun e' => hne (by cases e';rfl))).trans (hO _ _ h4 e)
 ·rcases has_put h with e | e
  ·unfold keyN at e
   simp only [Lit.int.injEq,true_and] at e
   exact ⟨b,e,hb⟩
  ·exact hx x e
 ·show (if M = B then some b else γ M) = none
  rw [if_neg (fun e => hBM e.symm)]
  exact h.no
 ·have hsz:=hg.size
  by_cases e':B' = B
  ·subst e'
   have:=(owns_lt hrow hv).1
   exact ⟨this,by omega⟩
  ·rw [if_neg e'] at e
   have:=h.gl _ _ e
   exact ⟨this.1,by omega⟩
 ·show (if b' = b then l else F b').length ≤ cnt + 1
  split
  ·exact hll
  ·have:=h.few b';omega
end Go.Proofs.YtcmmdojlhfmddaaGreat.Cs

/- package cascade: tiers.add. -/
set_option maxRecDepth 100000
namespace Go.Proofs.YtcmmdojlhfmddaaGreat.Cs
open Go.Proofs.YtcmmdojlhfmddaaGreat.Tre
open Go Go.RowKit Sl Wg
theorem infoL:(Tryz.prog.info? 38).map (fun i => (i.zero,i.size,i.bytes)) = some (some (.slice none 0 0),1,24):=by kernel_rfl
theorem info_ofL:∃ i,Tryz.prog.info? 38 = some i ∧ i.zero = some (.slice none 0 0) ∧ i.size = 1 ∧ i.bytes = 24:=by
 have h:=infoL
 cases hi:Tryz.prog.info? 38 with
 | none => rw [hi] at h;cases h
 | some i => rw [hi] at h;simp at h;exact ⟨i,rfl,h⟩
theorem lvs_app (l:List Lv) (x:Lv):lvs l ++ [x.v] = lvs (l ++ [x]):=by simp [lvs]
theorem cell_one_newL (w:World) (t:TypeId) (v:Value):∀ j u,[v][j]? = some u → (w.alloc (.cells #[v] t)).cell? ((⟨w.heap.size,0,none⟩:Addr).add j) = some u:=by
 intro j u hj
 cases j with
 | zero => simp at hj;subst hj;exact (Boxed.new w t v).cell
 | succ j => simp at hj
def addFn (F:Fn) (b:Nat) (x:Lv):Fn:=fun b' => if b' = b then F b ++ [x] else F b'
def AddedN (n₀:Nat) (γ:Gn) (W:World) (M cnt:Nat) (F:Fn) (W':World):Prop:=
 ∃ γ',Tm n₀ γ' W' M (cnt + 1) F ∧ Kept (fun k => k ≠ M ∧ γ k = none) W W' ∧ ∀ k,γ' k ≠ none → γ k ≠ none ∨ W.heap.size ≤ k
theorem addTm {n₀:Nat} {γ:Gn} {W:World} {M cnt:Nat} {F:Fn} (h:Tm n₀ γ W M cnt F) (b:Nat) (hb:OkN b) (x:Lv) (hcnt:cnt ≤ 1099511627776) (hn:n₀ ≤ W.heap.size) {v:Value}
  (hrow:W.ownsRow n₀ 38 1 v (F b).length (lvs (F b))) (hγ:∀ B,v.ownBlock = some B → γ B = some b) :
  ∃ v' X3 X4,(Builtin.append_ #[124,124] 124 #[v,.slice (some ⟨W.heap.size,0,none⟩) 1 1]).run Tryz.prog (W.alloc (.cells #[x.v] 38)) = .ok v' X3 ∧
   (Instr.mapUpdate 89 (.map (some M)) (.int .i64 (b:Int)) v').run Tryz.prog X3 = .ok () X4 ∧ AddedN n₀ γ W M cnt (addFn F b x) X4:=by
 obtain ⟨i0,hi,hz0,hz1,hz2⟩:=info_ofL
 have hfew:=h.few b
 have ha:=(World.grownBy_alloc W (.cells #[x.v] 38) none)
 have hrow2:=owns_same hrow (W':=W.alloc (.cells #[x.v] 38)) (fun g hg => ha.block g (owns_lt hrow hg).2 (by simp))
 have hsz2:(W.alloc (.cells #[x.v] 38)).heap.size = W.heap.size + 1:=World.size_alloc _ _
 obtain ⟨v',X3,hrun,hr3,hg3,hnil,hat⟩:=run_append_own_at (P:=Tryz.prog) (W.alloc (.cells #[x.v] 38)) n₀ 124 124 38 i0 (.slice none 0 0) 1 24 Tryz.underlying124 hi hz0 hz1 hz2 rfl (by decide) v (F b).length (lvs (F b)) hrow2
  ⟨W.heap.size,0,none⟩ 1 1 [x.v] rfl (cell_one_newL _ _ _) (by simp [Value.oneCell']) (by unfold maxLen;omega) (by omega) (by omega)
 rw [lvs_app,show (F b).length + 1 = (F b ++ [x]).length by simp] at hr3
 have hs3:W.heap.size ≤ X3.heap.size:=by have:=hg3.size;omega
 have old:∀ k,k < W.heap.size → some k ≠ v.ownBlock → X3.heap[k]? = W.heap[k]?:=fun k hk hne => (hg3.block k (by omega) hne).trans (ha.block k hk (by simp))
 have hMne:some M ≠ v.ownBlock:=fun e => by have:=hγ M e.symm;rw [h.no] at this;cases this
 have hob:∃ B,v'.ownBlock = some B ∧ (γ B = some b ∨ W.heap.size ≤ B):=by
  rcases hat with e | e
  ·have hvn:v' ≠ .slice none 0 0:=fun e' => by have:=(hnil.1 e').2;omega
   obtain ⟨_,h4⟩:=hr3
   rcases h4 with ⟨h4,_⟩ | ⟨g,cap,cur,h4,_⟩
   ·exact absurd h4 hvn
   ·subst h4
    exact ⟨g,rfl,.inl (hγ g e.symm)⟩
  ·exact ⟨_,e,.inr (by omega)⟩
 obtain ⟨B,hB,hBγ⟩:=hob
 have hBM:B ≠ M:=fun e => by
  subst e
  rcases hBγ with e | e
  ·rw [h.no] at e;cases e
  ·have:=h.lt;omega
 obtain ⟨X4,hrun4,hg4,hM4⟩:=h.put b hb (by unfold maxLen;omega) hs3 (old M h.lt hMne) (fun B' b' hB' hb' => old B' (h.gl _ _ hB').2 (fun e => by have:=hγ B' e.symm;rw [hB'] at this;cases this;exact hb' rfl))
  (v:=v') (B:=B) (l:=F b ++ [x]) (by simp) (by simp;omega) hB hBγ hBM hr3
 have k3:Kept (fun k => k ≠ M ∧ γ k = none) W X3:=⟨hg3.os,hg3.tape,hg3.output,hs3,fun i hi hk => old i hi (fun e => by have:=hγ i e.symm;rw [hk.2] at this;cases this)⟩
 refine ⟨v',X3,X4,hrun,hrun4,_,hM4,k3.grown hg4 (fun k e => .inr (fun hk => hk.1 (by cases e;rfl))),fun k hk => ?_⟩
 by_cases hkB:k = B
 ·subst hkB
  exact hBγ.imp (fun e => by rw [e];simp) id
 ·exact .inl (by rwa [show (if k = B then some b else γ k) = γ k from if_neg hkB] at hk)
theorem opw_append_runS {P:Program} {Q:Exit → Act → World → Prop} {o:Oper} {a:Act} {w w':World} {K:Act → World → Prop} (s x:Operand) (t:TypeId)
  (ho:o.op = .call { callee:=.builtin .append,args:=#[s,x],argTypes:=#[t,t] }) {v xv v':Value} (hs:a.eval s = v) (hx:a.eval x = xv) (hrun:(Builtin.append_ #[t,t] o.type #[v,xv]).run P w = .ok v' w')
  (h:K (a.put o.dst v') w'):Oper.wp P o a w K Q:=by
 unfold Oper.wp
 simp [execOp,ho,resolve,invoke,builtin,hs,hx,hrun,Result.andThen]
 exact h
set_option maxHeartbeats 1000000 in
theorem tiersAdd_any (n₀:Nat) (γ:Gn) (W:World) (M cnt:Nat) (F:Fn) (h:Tm n₀ γ W M cnt F) (b:Nat) (hb:OkN b) (x:Lv) (hcnt:cnt ≤ 1099511627776) (hn:n₀ ≤ W.heap.size) :
  Calls Tryz.prog 33 #[.map (some M),.int .i64 (b:Int),.slice x.p x.l.length x.c] W fun e W' => e = .returned (.tuple #[]) ∧ AddedN n₀ γ W M cnt (addFn F b x) W':=by
 obtain ⟨v,hlook,hrow,hγ,hnil⟩:=h.look b hb
 have hl0:(Instr.lookup 89 (.map (some M)) (.int .i64 (b:Int)) false).run Tryz.prog W = .ok v W:=hlook 0
 obtain ⟨v',X3,X4,g1,g2,g3⟩:=addTm h b hb x hcnt hn hrow hγ
 have FIN:Hid (AddedN n₀ γ W M cnt (addFn F b x) X4):=g3
 obtain ⟨q,cap,rfl⟩:=Sl.owns_form hrow
 generalize (F b).length = N at *
 clear h g3 hrow hγ hnil
 go_enter Tryz.func33,Tryz.ntmps33
 go_wp2_with (at_builtin;refine wpList_plain rfl fun K hK => ?_;refine opw_append_runS _ _ 124 rfl rfl rfl g1 (hK _ _ ?_))
 go_end0
 exact ⟨rfl,FIN.out⟩
end Go.Proofs.YtcmmdojlhfmddaaGreat.Cs

/- package cascade: slices.Values over rules, and candidates: iterators told by footprints. -/
set_option maxRecDepth 100000
namespace Go.Proofs.YtcmmdojlhfmddaaGreat.Cs
open Go.Proofs.YtcmmdojlhfmddaaGreat.Tre
open Go Go.RowKit Sl Mt Wg
attribute [local go_sem] Oper.semAt_some
structure Rv where
 sp:Option Addr
 sc:Nat
 tp:Option Addr
 tc:Nat
 r:Rs
abbrev Rv.sv (x:Rv):Value:=.slice x.sp x.r.1.length x.sc
abbrev Rv.tv (x:Rv):Value:=.slice x.tp x.r.2.length x.tc
abbrev rvV (x:Rv):Value:=.agg #[.slice x.sp x.r.1.length x.sc,.slice x.tp x.r.2.length x.tc]
def RuleAt (w:World) (bk off:Nat) (x:Rv):Prop:=w.cell? ⟨bk,off,none⟩ = some x.sv ∧ w.cell? ⟨bk,off + 1,none⟩ = some x.tv ∧ bk < w.heap.size ∧ StsT w.heap.size w x.tv x.r.2
def RulesV (w:World) (v:Value) (l:List Rv):Prop:=(l = [] ∧ ∃ p c,v = .slice p 0 c) ∨ ∃ bk off c,v = .slice (some ⟨bk,off,none⟩) l.length c ∧ l.length ≤ c ∧ c ≤ maxLen ∧ ∀ (j:Nat) (x:Rv),l[j]? = some x → RuleAt w bk (off + j * 2) x
theorem RulesV.len {w:World} {v:Value} {l:List Rv} (h:RulesV w v l):∃ p c,v = .slice p l.length c:=by
 rcases h with ⟨rfl,p,c,rfl⟩ | ⟨bk,off,c,rfl,_⟩
 ·exact ⟨p,c,rfl⟩
 ·exact ⟨_,_,rfl⟩
theorem RulesV.short {w:World} {v:Value} {l:List Rv} (h:RulesV w v l):l.length ≤ maxLen:=by
 rcases h with ⟨rfl,_⟩ | ⟨bk,off,c,rfl,h1,h2,_⟩
 ·exact Nat.zero_le _
 ·omega
theorem egValues:∀ args w,(callFunc 38 args).run Tryz.prog w = .ok (.enter 38 args) w:=enters_of Tryz.func38 (by kernel_rfl) rfl
set_option maxHeartbeats 1000000 in
theorem values_seq (n nb:Nat) (Bv:Nat) (v:Value) (l:List Rv) (w:World) (hBv:Bv < nb) (_hnb:nb ≤ w.heap.size) (cv:w.cell? ⟨Bv,0,none⟩ = some v) (w0:World) (h0:RulesV w0 v l) (hw0:w0.heap.size ≤ nb) (hb0:Sees w0 w) :
  SeqD Fence.wide n Tryz.prog 38 #[.pointer (some ⟨Bv,0,none⟩)] (fun x:Rv => #[rvV x]) (fun r => r < nb) l w:=by
 intro L J Jx D W hR hs hRD hD hJ hJx hY hJ0
 have dv:W.cell? ⟨Bv,0,none⟩ = some v:=(World.cell?_of_block (a:=⟨Bv,0,none⟩) (hR Bv hBv)).trans cv
 obtain ⟨p,c,rfl⟩:=h0.len
 have hsh:=h0.short
 unfold maxLen at hsh
 have HY:Hid (∀ pre x post D1 W1,l = pre ++ x :: post → J pre D1 W1 → Fr D D1 W W1 → YieldAt Fence.wide (n - 1) Tryz.prog L #[rvV x] W1 fun e W' =>
   (e = .returned (.bool true) ∧ ∃ D',J (pre ++ [x]) D' W' ∧ Fr D1 D' W1 W') ∨ (e = .returned (.bool false) ∧ ∃ D',Jx (pre ++ [x]) D' W' ∧ Fr D1 D' W1 W')):=hY
 have HD:Hid (∀ r,D r → r < W.heap.size):=hD
 have HC:Hid (∀ X E,Fr D E W X → ∀ (a:Addr) u,a.block < w0.heap.size → w0.cell? a = some u → X.cell? a = some u):=fun X E fr a u ha hu => by
  have h1:w.cell? a = some u:=(World.cell?_of_block (hb0.block a.block ha)).trans hu
  have h2:W.cell? a = some u:=(World.cell?_of_block (hR a.block (by omega))).trans h1
  exact fr.keep (fun hd => hRD a.block (by omega) hd) h2
 have H0:Hid (RulesV w0 (.slice p l.length c) l):=h0
 clear hY hD hRD h0 cv hR hb0
 refine callsIn_of_wp Tryz.func38 rfl trivial ?_ rfl
 simp only [Tryz.ntmps38,List.size_toArray,List.length_cons,List.length_nil,Nat.reduceAdd,Nat.reduceSub,Array.replicate_succ,Array.replicate_zero,List.push_toArray,List.append_toArray,List.nil_append,List.cons_append]
 gi_wp2_with fail
 gi_loopw [7] (fun x wr => ∃ (k:Nat) (E:Nat → Prop),x = .int .i64 k ∧ k ≤ l.length ∧ J (l.take k) E wr ∧ Fr D E W wr) (fun x _ => l.length - (RowKit.intOf x).toNat)
 case atStart => exact ⟨0,D,rfl,Nat.zero_le _,(by rw [List.take_zero];exact hJ0),Fr.refl HD.out⟩
 case round =>
  obtain ⟨k,E,rfl,hk,hJk,frk⟩:=hrel
  by_cases hkl:k < l.length
  ·obtain ⟨x,hx⟩:∃ x,l[k]? = some x:=⟨_,List.getElem?_eq_getElem hkl⟩
   rcases H0.out with ⟨e,_⟩ | ⟨bk,off,c',e,h1,h2,h3⟩
   ·rw [e] at hkl
    exact absurd hkl (by simp)
   cases e
   obtain ⟨g1,g2,g3,g5⟩:RuleAt w0 bk (off + k * 2) x:=h3 k _ hx
   unfold Rv.sv at g1
   unfold Rv.tv at g2
   have hki:(k:Int) < (l.length:Int):=by omega
   have htk:l.take (k + 1) = l.take k ++ [x]:=by rw [List.take_add_one,hx];rfl
   have HT:Hid (_ = _):=htk
   have HE:Hid (∃ post,l = l.take k ++ x :: post):=⟨l.drop (k + 1),by
    have:=List.take_append_drop (k + 1) l
    rw [htk,List.append_assoc,List.singleton_append] at this
    exact this.symm⟩
   have HFk:Hid (Fr D E W wr):=frk
   have HN:Hid (∀ X,wr.alloc (.cells #[.slice x.sp x.r.1.length x.sc,.slice x.tp x.r.2.length x.tc] 40) = X → Fr D E W X ∧ Fr E E wr X ∧ J (l.take k) E X):=fun X e => by
    subst e
    refine ⟨frk.alloc _,(Fr.refl frk.lt).alloc _,?_⟩
    exact hJ _ _ _ _ hJk ((Kd.refl _ _).alloc _ frk.lt)
   have x0:=HC.out wr E frk ⟨bk,off + k * 2,none⟩ _ g3 g1
   have x1:=HC.out wr E frk ⟨bk,off + k * 2 + 1,none⟩ _ g3 g2
   obtain ⟨f1,f2,f3⟩:=HN.out _ rfl
   obtain ⟨post,hpost⟩:=HE.out
   have hyl:=HY.out (l.take k) x post E _ hpost f3 f1
   unfold rvV at hyl
   obtain ⟨fn,tmps,assign,body,hy,hRo⟩:=hyl
   have HP:Hid (_ = _):=hpost
   have HF1:Hid (Fr D E W _):=f1
   clear hx htk g1 g2 g3 g5 frk f1 f2 f3 hpost
   gi_wp2_with fail
   refine ⟨fun h => (by cases h),hRo.mono ?_⟩
   clear hRo hy x0 x1
   rintro e w3 (⟨rfl,E',hJ',fr'⟩ | ⟨rfl,E',hJ',fr'⟩)
   ·gi_wp2
    go_roundw
    case rel => exact ⟨k + 1,E',by go_num,by omega,(by rw [HT.out];exact hJ'),HF1.out.trans fr'⟩
    case measure => simp [RowKit.intOf] <;> omega
   ·gi_wp2
    refine bodyPost_ret (results_none rfl _ _ _) rfl ?_
    exact ⟨⟨_,rfl⟩,E',HF1.out.trans fr',.inr ⟨_,_,_,HP.out,hJ'⟩⟩
  ·obtain rfl:k = l.length:=by omega
   have hki:¬ ((l.length:Int) < (l.length:Int)):=by omega
   rw [List.take_length] at hJk
   gi_wp2
   go_end0
   exact ⟨⟨_,rfl⟩,E,frk,.inl hJk⟩
theorem values_any (p:Option Addr) (m c:Nat) (w:World) :
  Calls Tryz.prog 15 #[.slice p m c] w fun e w' => e = .returned (.func (.func 38) #[] #[.pointer (some ⟨w.heap.size,0,none⟩)]) ∧ w' = w.alloc (.cells #[.slice p m c] 41):=by
 go_enter Tryz.func15,Tryz.ntmps15
 go_wp2
 go_ret
 exact ⟨rfl,rfl⟩
theorem roundAnyC {n m l' l:Nat} {f:FuncId} {tmps:Array Value} {assign body:Code} {w:World} {R:Ending → World → Prop} (h:RoundIn Fence.wide n Tryz.prog l f tmps assign body w R) :
  RoundIn (Fence.wide.inRound l') m Tryz.prog l f tmps assign body w R:=⟨h.1,fun c cs _ => h.2 c cs (fun d hd => by cases hd)⟩
theorem egCands:∀ args w,(callFunc 36 args).run Tryz.prog w = .ok (.enter 36 args) w:=enters_of Tryz.func36 (by kernel_rfl) rfl
structure Cv where
 wt:Nat
 tp:Option Addr
 tc:Nat
 sets:List St
abbrev cvV (x:Cv):Value:=.agg #[.int .i64 (x.wt:Int),.slice x.tp x.sets.length x.tc]
def candOf (f:Sel → Bool) (x:Rv):Option Cv:=if (bestW f x.r.1).2 then some ⟨(bestW f x.r.1).1,x.tp,x.tc,x.r.2⟩ else none
def candsOf (f:Sel → Bool) (l:List Rv):List Cv:=l.filterMap (candOf f)
theorem candsOf_plain (f:Sel → Bool):∀ l:List Rv,(candsOf f l).map (fun c => (c.wt,c.sets)) = candsV f (l.map (·.r))
 | [] => rfl
 | x :: l => by
  have ih:=candsOf_plain f l
  unfold candsOf candsV at ih ⊢
  rw [List.map_cons]
  by_cases h:(bestW f x.r.1).2 = true
  ·have e1:candOf f x = some ⟨(bestW f x.r.1).1,x.tp,x.tc,x.r.2⟩:=if_pos h
   have e2:candV f x.r = some ((bestW f x.r.1).1,x.r.2):=if_pos h
   rw [List.filterMap_cons_some e1,List.filterMap_cons_some e2,List.map_cons,ih]
  ·have e1:candOf f x = none:=if_neg h
   have e2:candV f x.r = none:=if_neg h
   rw [List.filterMap_cons_none e1,List.filterMap_cons_none e2,ih]
theorem candsOf_app (f:Sel → Bool) (l:List Rv) (x:Rv):candsOf f (l ++ [x]) = candsOf f l ++ (candOf f x).toList:=by
 unfold candsOf
 rw [List.filterMap_append]
 cases h:candOf f x <;> simp [h]
def RulesAsk (fid:Nat) (tp:Value) (f:Int → Sel → Bool) (w:World) (l:List Rv):Prop:=
 ∀ x ∈ l,AskOK fid tp f w x.sp x.sc x.r.1 ∧ x.r.1.length ≤ 9223372036854775807
set_option maxHeartbeats 1000000 in
theorem cands_seq (n nb Bt Be Br Bv:Nat) (tp:Value) (e:Int) (f:Int → Sel → Bool) (v:Value) (l:List Rv) (w:World) (hBt:Bt < nb) (hBe:Be < nb) (hBr:Br < nb) (hBv:Bv < nb) (hnb:nb ≤ w.heap.size)
  (ct:w.cell? ⟨Bt,0,none⟩ = some tp) (ce:w.cell? ⟨Be,0,none⟩ = some (.int .i64 e)) (cr:w.cell? ⟨Br,0,none⟩ = some (.func (.func 38) #[] #[.pointer (some ⟨Bv,0,none⟩)])) (cv:w.cell? ⟨Bv,0,none⟩ = some v)
  (w0:World) (h0:RulesV w0 v l) (hw0:w0.heap.size ≤ nb) (hb0:Sees w0 w) (hA:RulesAsk 62 tp f w0 l) :
  SeqD Fence.wide (n + 1) Tryz.prog 36 #[.pointer (some ⟨Br,0,none⟩),.pointer (some ⟨Bt,0,none⟩),.pointer (some ⟨Be,0,none⟩)] (fun x:Cv => #[cvV x]) (fun r => r < nb) (candsOf (f e) l) w:=by
 intro L J Jx D W hR hs hRD hD hJ hJx hY hJ0
 have dt:W.cell? ⟨Bt,0,none⟩ = some tp:=(World.cell?_of_block (a:=⟨Bt,0,none⟩) (hR Bt hBt)).trans ct
 have de:W.cell? ⟨Be,0,none⟩ = some (.int .i64 e):=(World.cell?_of_block (a:=⟨Be,0,none⟩) (hR Be hBe)).trans ce
 have dr:=(World.cell?_of_block (a:=⟨Br,0,none⟩) (hR Br hBr)).trans cr
 have bt:=World.block_lt_of_cell? W ⟨Bt,0,none⟩ dt
 have be:=World.block_lt_of_cell? W ⟨Be,0,none⟩ de
 have br:=World.block_lt_of_cell? W ⟨Br,0,none⟩ dr
 simp only at bt be br
 obtain ⟨W2,hW2⟩:∃ W2,W.alloc (.cells #[.func (.yield L) #[] #[]] 99) = W2:=⟨_,rfl⟩
 have b2:Below W.heap.size W W2:=by rw [← hW2];exact (Below.refl _ W).alloc (Nat.le_refl _) _
 have s2:W2.heap.size = W.heap.size + 1:=by rw [← hW2];simp
 have cY:W2.cell? ⟨W.heap.size,0,none⟩ = some (.func (.yield L) #[] #[]):=by rw [← hW2];exact (Boxed.new W _ _).cell
 have F2:Fr D D W W2:=by rw [← hW2];exact (Fr.refl hD).alloc _
 have hJ2:J [] D W2:=hJ _ _ _ _ hJ0 (Kd.below b2 hD)
 have et:=(b2.cell (p:=⟨Bt,0,none⟩) bt).trans dt
 have ee:=(b2.cell (p:=⟨Be,0,none⟩) be).trans de
 have er:=(b2.cell (p:=⟨Br,0,none⟩) br).trans dr
 have nt:¬ D Bt:=hRD _ hBt
 have ne:¬ D Be:=hRD _ hBe
 have hR2:∀ r,r < nb → W2.heap[r]? = w.heap[r]?:=fun r hr => (b2.block r (by omega)).trans (hR r hr)
 have hv:SeqD Fence.wide n Tryz.prog 38 #[.pointer (some ⟨Bv,0,none⟩)] (fun x:Rv => #[rvV x]) (fun r => r < nb) l W2:=(values_seq n nb Bv v l w hBv hnb cv w0 h0 hw0 hb0).later (by omega) hR2
 have HB:Hid (∀ X E,Fr D E W2 X → Sees w0 X):=fun X E fr =>
  ⟨by have:=fr.size;omega,fun r hr => (fr.block r (by omega) (hRD r (by omega))).trans ((hR2 r (by omega)).trans (hb0.block r hr))⟩
 have HY:Hid (∀ pre x post D1 W1,candsOf (f e) l = pre ++ x :: post → J pre D1 W1 → Fr D D1 W W1 → YieldAt Fence.wide n Tryz.prog L #[cvV x] W1 fun e W' =>
   (e = .returned (.bool true) ∧ ∃ D',J (pre ++ [x]) D' W' ∧ Fr D1 D' W1 W') ∨ (e = .returned (.bool false) ∧ ∃ D',Jx (pre ++ [x]) D' W' ∧ Fr D1 D' W1 W')):=hY
 have HD:Hid (∀ r,D r → r < W.heap.size):=hD
 have HRD:Hid (∀ r,r < nb → ¬ D r):=hRD
 have HA:Hid (RulesAsk 62 tp f w0 l ∧ RulesV w0 v l):=⟨hA,h0⟩
 have HJ:Hid (AbD J ∧ AbD Jx):=⟨hJ,hJx⟩
 have HF:Hid (Fr D D W W2):=F2
 have HC:Hid (W2.cell? ⟨W.heap.size,0,none⟩ = some (.func (.yield L) #[] #[]) ∧ W2.cell? ⟨Bt,0,none⟩ = some tp ∧ W2.cell? ⟨Be,0,none⟩ = some (.int .i64 e)):=⟨cY,et,ee⟩
 have HS:Hid (W2.heap.size = W.heap.size + 1 ∧ nb ≤ W.heap.size):=⟨s2,by omega⟩
 clear hD hA h0 hY hR hR2 dt de dr ct ce cr cv hb0 b2 F2 cY et ee
 refine callsIn_of_wp_marks Tryz.func36 rfl trivial ?_ rfl
 simp only [Tryz.ntmps36,List.size_toArray,List.length_cons,List.length_nil,Nat.reduceAdd,Nat.reduceSub,Array.replicate_succ,Array.replicate_zero,List.push_toArray,List.append_toArray,List.nil_append,List.cons_append]
 gi_wp2_with fail
 clear hW2
 refine wpIn_rangeFunc_D rfl (by omega) (gf:=38) (lb:=#[.pointer (some ⟨Bv,0,none⟩)]) rfl trivial egValues hv (fun _ => rfl)
  (fun pre E X => J (candsOf (f e) pre) E X) (fun c _ E X => c = .ret ∧ ∃ pre x post,candsOf (f e) l = pre ++ x :: post ∧ Jx (pre ++ [x]) E X)
  (fun t E X Y hi hk => hJ _ _ _ _ hi hk) (fun c t E X Y hi hk => ⟨hi.1,by obtain ⟨p1,x1,q1,e1,j1⟩:=hi.2;exact ⟨p1,x1,q1,e1,hJx _ _ _ _ j1 hk⟩⟩) D (fun r e => by have:=HD.out r e;omega)
  hRD (fun r hr => ⟨by omega,rfl⟩) (Nat.le_refl _) hJ2
  (fun pre x E2 a' X => ∃ B2 E1,(∀ r,E2 r ↔ E1 r ∨ r = B2) ∧ ¬ E1 B2 ∧ J (candsOf (f e) pre) E1 X ∧ Blk X B2 40 [.slice x.sp x.r.1.length x.sc,.slice x.tp x.r.2.length x.tc] ∧
   a' = { tmps:=#[.func (.yield L) #[] #[],.pointer (some ⟨Br,0,none⟩),.pointer (some ⟨Bt,0,none⟩),.pointer (some ⟨Be,0,none⟩),.pointer (some ⟨W.heap.size,0,none⟩),.pointer (some ⟨B2,0,none⟩),undef,undef,.func (.func 38) #[] #[.pointer (some ⟨Bv,0,none⟩)],.agg #[.slice x.sp x.r.1.length x.sc,.slice x.tp x.r.2.length x.tc],undef,undef,undef,undef,undef,undef,undef,undef,undef,undef,undef,undef,undef,undef,undef,undef,undef,undef],defers:=[] })
  ?hAx ?assign ?body ?done ?stop
 case hAx =>
  rintro t x a' _ E2 X Y ⟨B2,E1,e1,e2,e3,e4,e5⟩ hk
  exact ⟨B2,E1,e1,e2,hJ _ _ _ _ e3 ⟨hk.os,hk.tape,hk.output,hk.size,fun r hr => hk.same r ((e1 r).2 (.inl hr))⟩,(hk.same B2 ((e1 B2).2 (.inr rfl))).trans e4,e5⟩
 case assign =>
  intro l' pre x D1 Wx K hi hfr hK
  have HK:Hid (∀ a' D2 W',Fr D1 D2 Wx W' → _ → K a' W'):=hK
  have hlt:=hfr.lt
  clear hK
  unfold rvV
  gi_wp2
  refine HK.out _ (fun r => D1 r ∨ r = Wx.heap.size) _ ?_ ⟨Wx.heap.size,D1,fun _ => Iff.rfl,fun e => by have:=hlt _ e;omega,hJ _ _ _ _ hi ((Kd.refl _ _).alloc _ hlt),Blk.new Wx _ _,rfl⟩
  exact ((Fr.refl hlt).alloc _).names (fun _ h => h) (fun r hr => by
   rcases hr with hr | rfl
   ·exact ⟨.inl hr,by simp;have:=hlt r hr;omega⟩
   ·exact ⟨.inr (.inr (Nat.le_refl _)),by simp⟩)
 case body =>
  rintro l' pre x post D2 a' X heq ⟨B2,E1,hE,hnB,hJ1,hb,rfl⟩ hfr ⟨r0,hl0⟩ hnl hlw
  obtain ⟨hask,hml⟩:=HA.out.1 x (by rw [heq];simp)
  have hE1:Fr D E1 W2 X:=hfr.names (fun _ h => h) (fun r hr => ⟨.inl ((hE r).2 (.inl hr)),hfr.lt r ((hE r).2 (.inl hr))⟩)
  have hsee:=HB.out X E1 hE1
  have hbest:=best_any tp f w0 X x.sp x.sc x.r.1 e hml hask hsee
  have cY:=hE1.keep (p:=⟨W.heap.size,0,none⟩) (fun h => by have:=HD.out _ h;simp at this) HC.out.1
  have ct:=hE1.keep (p:=⟨Bt,0,none⟩) nt HC.out.2.1
  have ce:=hE1.keep (p:=⟨Be,0,none⟩) ne HC.out.2.2
  obtain ⟨⟨c0,c1⟩,_⟩:=blk2 hb
  have hbB:=hb.lt
  have lt1:=World.block_lt_of_cell? X _ cY
  simp only at lt1
  obtain ⟨N,hN⟩:∃ N,bestW (f e) x.r.1 = N:=⟨_,rfl⟩
  obtain ⟨N1,N2⟩:=N
  rw [hN] at hbest
  have HN:Hid (bestW (f e) x.r.1 = (N1,N2)):=hN
  have HE:Hid (∀ r,D2 r ↔ E1 r ∨ r = B2):=hE
  have HFR:Hid (Fr D E1 W2 X):=hE1
  have HQ:Hid (l = pre ++ x :: post):=heq
  have HK2:Hid (∀ Y,Below X.heap.size X Y → Y.cell? ⟨W.heap.size,0,none⟩ = some (.func (.yield L) #[] #[]) ∧ Y.cell? ⟨B2,1,none⟩ = some (.slice x.tp x.r.2.length x.tc)):=fun Y hY => ⟨(hY.cell (p:=⟨W.heap.size,0,none⟩) lt1).trans cY,(hY.cell (p:=⟨B2,1,none⟩) hbB).trans c1⟩
  clear heq hE hE1 hfr hsee hask hN hb hl0
  gi_wp2_with fail
  refine ⟨trivial,fun h => (by cases h),?_⟩
  refine (CallsIn.inRound l' (callsIn_wide.2 hbest)).mono ?_
  clear hbest
  rintro e2 X3 ⟨rfl,bb⟩
  obtain ⟨cY3,c3⟩:=HK2.out X3 bb
  have hJ3:J (candsOf (f e) pre) E1 X3:=hJ _ _ _ _ hJ1 (Kd.below bb HFR.out.lt)
  have fr3:Fr D E1 W2 X3:=HFR.out.next bb
  have HF3:Hid (_ ∧ _ ∧ Below X.heap.size X X3):=⟨hJ3,fr3,bb⟩
  clear hJ1 cY ct ce c0 c1 bb hJ3 fr3
  have HOUT:Hid (∀ E' Y,Fr E1 E' X3 Y → Fr D2 E' X Y):=fun E' Y fr =>
   ((Fr.of_below (D:=E1) HF3.out.2.2 HFR.out.lt).trans fr).names (fun r hr => (HE.out r).2 (.inl hr)) (fun r hr => ⟨.inl hr,fr.lt r hr⟩)
  cases N2 with
  | false =>
   have HN0:Hid (candsOf (f e) (pre ++ [x]) = candsOf (f e) pre):=by
    show _ = _
    rw [candsOf_app]
    unfold candOf
    rw [HN.out]
    simp
   gi_wp2_with fail
   refine ⟨fun _ h => (by cases h),?_⟩
   gi_wp2_with fail
   exact ⟨E1,(by show J (candsOf (f e) (pre ++ [x])) E1 X3;rw [HN0.out];exact HF3.out.1),HOUT.out _ _ (Fr.refl HF3.out.2.1.lt)⟩
  | true =>
   have hc:candOf (f e) x = some ⟨N1,x.tp,x.tc,x.r.2⟩:=by unfold candOf;rw [HN.out];rfl
   have HN1:Hid (candsOf (f e) (pre ++ [x]) = candsOf (f e) pre ++ [⟨N1,x.tp,x.tc,x.r.2⟩]):=by
    show _ = _
    rw [candsOf_app,hc]
    rfl
   have HP:Hid (candsOf (f e) l = candsOf (f e) pre ++ ⟨N1,x.tp,x.tc,x.r.2⟩ :: candsOf (f e) post):=by
    show _ = _
    rw [HQ.out]
    unfold candsOf
    rw [List.filterMap_append,List.filterMap_cons_some hc]
   obtain ⟨fn,tmps,assign,body,hy,hRo⟩:=HY.out (candsOf (f e) pre) ⟨N1,x.tp,x.tc,x.r.2⟩ (candsOf (f e) post) E1 X3 HP.out HF3.out.1 (HF.out.trans HF3.out.2.1)
   unfold cvV at hy
   clear hc
   gi_wp2_with fail
   refine ⟨fun h => (by cases h),(roundAnyC hRo).mono ?_⟩
   clear hRo hy
   rintro e3 w3 (⟨rfl,D',hJ',fr⟩ | ⟨rfl,D',hJ',fr⟩)
   ·gi_wp2
    exact ⟨D',(by show J (candsOf (f e) (pre ++ [x])) D' w3;rw [HN1.out];exact hJ'),HOUT.out _ _ fr⟩
   ·gi_wp2
    exact ⟨D',⟨rfl,_,_,_,HP.out,hJ'⟩,HOUT.out _ _ fr⟩
 case done =>
  intro E X hi hfr hK hnE
  gi_wp2
  refine ⟨by simp,.inl ⟨_,_,rfl,run_takeDeferred hK,?_⟩⟩
  exact ⟨_,results_none rfl _ _ _,⟨_,rfl⟩,E,(HF.out.trans hfr).put _ (.inr (by omega)),.inl (hJ _ _ _ _ hi ((Kd.refl _ _).put _ hnE))⟩
 case stop =>
  rintro c pre x post E X heq ⟨rfl,p1,x1,q1,e1,j1⟩ hfr hK hnE
  gi_wp2
  refine ⟨by simp,.inl ⟨_,_,rfl,run_takeDeferred hK,?_⟩⟩
  exact ⟨_,results_none rfl _ _ _,⟨_,rfl⟩,E,(HF.out.trans hfr).put _ (.inr (by omega)),.inr ⟨p1,x1,q1,e1,hJx _ _ _ _ j1 ((Kd.refl _ _).put _ hnE)⟩⟩
end Go.Proofs.YtcmmdojlhfmddaaGreat.Cs
