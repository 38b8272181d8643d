/- not and is of a list: plain facts. -/
import Derived.Test.YtnemagmakgiheaaGreatMtSame
import Derived.Test.YtnemagmakgiheaaGreatMtGh
import Derived.Test.YtnemagmakgiheaaGreatMtLoose
namespace Go.Proofs.YtnemagmakgiheaaGreat.Mt
open Go.Proofs.YtnemagmakgiheaaGreat.Tre
open Go Go.RowKit Dm Go.Proofs.YtnemagmakgiheaaGreat.Wg
theorem listed_mem {s:Sel} {p:Pt} {q:Ps} (hp:p ∈ s) (hq:q ∈ p.2.pss) (h:listed q = true):q.list ∈ listsV s:=
 List.mem_flatMap.2 ⟨p,hp,List.mem_map.2 ⟨q,List.mem_filter.2 ⟨hq,h⟩,rfl⟩⟩
theorem comp_same {Q Q':Any} (es:List El) {s:Sel} (h:∀ l ∈ listsV s,∀ e,Q l e = Q' l e) (k e:Nat):compV Q es (partAt s k).2 e = compV Q' es (partAt s k).2 e:=by
 by_cases hk:k < s.length
 ·have hm:partAt s k ∈ s:=by rw [partAt_eq (List.getElem?_eq_getElem hk)];exact List.getElem_mem hk
  have key:∀ q ∈ (partAt s k).2.pss,pseudoV Q es q e = pseudoV Q' es q e:=fun q hq => by
   unfold pseudoV
   by_cases h7:q.kind = 7
   ·rw [if_pos h7,if_pos h7,h _ (listed_mem hm hq (by simp [listed,h7])) e]
   ·rw [if_neg h7,if_neg h7]
    by_cases h8:q.kind = 8
    ·rw [if_pos h8,if_pos h8,h _ (listed_mem hm hq (by simp [listed,h8])) e]
    ·rw [if_neg h8,if_neg h8]
  unfold compV
  congr 1
  rw [Bool.eq_iff_iff,List.all_eq_true,List.all_eq_true]
  exact ⟨fun g q hq => by rw [← key q hq];exact g q hq,fun g q hq => by rw [key q hq];exact g q hq⟩
 ·have hz:partAt s k = (0,zeroCp):=by simp [partAt,List.getD,List.getElem?_eq_none (Nat.le_of_not_lt hk)]
  rw [hz]
  rfl
theorem upto_same {Q Q':Any} (es:List El) {s:Sel} (h:∀ l ∈ listsV s,∀ e,Q l e = Q' l e):∀ k e,uptoV Q es s k e = uptoV Q' es s k e
 | 0,e => by
  unfold uptoV
  exact comp_same es h 0 e
 | k + 1,e => by
  unfold uptoV
  rw [comp_same es h (k + 1) e,funext (upto_same es h k)]
theorem sel_same {Q Q':Any} (es:List El) {s:Sel} (h:∀ l ∈ listsV s,∀ e,Q l e = Q' l e) (e:Nat):selV Q es s e = selV Q' es s e:=by
 unfold selV
 rw [upto_same es h]
theorem fits_up:∀ (d:Nat) (s:Sel),fitsV d s = true → fitsV (d + 1) s = true
 | 0,s,h => by
  unfold fitsV at h ⊢
  rw [Bool.and_eq_true] at h ⊢
  refine ⟨h.1,List.all_eq_true.2 fun l hl => ?_⟩
  exact absurd (List.all_eq_true.1 h.2 l hl) (by simp)
 | d + 1,s,h => by
  unfold fitsV at h ⊢
  rw [Bool.and_eq_true] at h ⊢
  exact ⟨h.1,List.all_eq_true.2 fun l hl => List.all_eq_true.2 fun x hx => fits_up d x (List.all_eq_true.1 (List.all_eq_true.1 h.2 l hl) x hx)⟩
theorem any_more (es:List El):∀ (d:Nat) (s:Sel),fitsV d s = true → ∀ e,selV (anyV es d) es s e = selV (anyV es (d + 1)) es s e
 | 0,s,h,e => sel_same es (fun l hl => by
  unfold fitsV at h
  rw [Bool.and_eq_true] at h
  exact absurd (List.all_eq_true.1 h.2 l hl) (by simp)) e
 | d + 1,s,h,e => sel_same es (fun l hl e' => by
  unfold fitsV at h
  rw [Bool.and_eq_true] at h
  have h2:=List.all_eq_true.1 (List.all_eq_true.1 h.2 l hl)
  show l.any (fun s => selV (anyV es d) es s e') = l.any (fun s => selV (anyV es (d + 1)) es s e')
  rw [Bool.eq_iff_iff,List.any_eq_true,List.any_eq_true]
  exact ⟨fun ⟨x,hx,g⟩ => ⟨x,hx,by rw [← any_more es d x (h2 x hx)];exact g⟩,fun ⟨x,hx,g⟩ => ⟨x,hx,by rw [any_more es d x (h2 x hx)];exact g⟩⟩) e
def isC (kind:Int) (m:List Sel):Cp:=psCp (.mk kind 0 0 m)
theorem isC_fits {kind:Int} (hk:kind = 7 ∨ kind = 8) (m:List Sel):fitsV 8 [(0,isC kind m)] = m.all (fitsV 7):=by
 have hl:listsV [((0:Int),isC kind m)] = [m]:=by rcases hk with rfl | rfl <;> rfl
 unfold fitsV
 rw [hl]
 simp
theorem isC_comp {es:List El} {k:Nat} (hk:k < es.length) {kind:Int} (hkd:kind = 7 ∨ kind = 8) {m:List Sel} (hm:m.all (fitsV 7) = true):compoundV es (k:Int) (isC kind m) = if kind = 7 then !givenV es (k:Int) m else givenV es (k:Int) m:=by
 have hg:givenV es (k:Int) m = anyV es 8 m k:=by
  show m.any (selectorV es (k:Int)) = m.any (fun s => selV (anyV es 7) es s k)
  rw [Bool.eq_iff_iff,List.any_eq_true,List.any_eq_true]
  have hs:∀ x ∈ m,selectorV es (k:Int) x = selV (anyV es 7) es x k:=fun x hx => by
   have hf:=List.all_eq_true.1 hm x hx
   unfold selectorV
   rw [any_more es 7 x hf,fits_up 7 x hf,decide_eq_true (⟨Int.natCast_nonneg _,by omega⟩:(0:Int) ≤ (k:Int) ∧ (k:Int) < (es.length:Int)),Int.toNat_natCast]
   rfl
  exact ⟨fun ⟨x,hx,g⟩ => ⟨x,hx,by rw [← hs x hx];exact g⟩,fun ⟨x,hx,g⟩ => ⟨x,hx,by rw [hs x hx];exact g⟩⟩
 rw [hg]
 unfold compoundV selectorV
 rw [isC_fits hkd,hm,decide_eq_true (⟨Int.natCast_nonneg _,by omega⟩:(0:Int) ≤ (k:Int) ∧ (k:Int) < (es.length:Int)),Int.toNat_natCast]
 show compV (anyV es 8) es (isC kind m) k = _
 unfold compV isC psCp namedV
 rcases hkd with rfl | rfl
 ·simp [Cp.tag,Cp.ids,Cp.classes,Cp.attrs,Cp.pss,pseudoV,Ps.kind,Ps.list]
 ·simp [Cp.tag,Cp.ids,Cp.classes,Cp.attrs,Cp.pss,pseudoV,Ps.kind,Ps.list]
theorem given_app (es:List El) (e:Int) (x y:List Sel):givenV es e (x ++ y) = (givenV es e x || givenV es e y):=List.any_append
theorem isC_good {m:List Sel} (h:deepS 8 [((0:Int),isC 8 m)] = false):m.all (fitsV 7) = true:=by
 have h2:=fits_deep 8 [((0:Int),isC 8 m)]
 rw [h,isC_fits (.inr rfl)] at h2
 exact h2
/-! ### two lists in one -/
theorem infoSlN:(Tryz.prog.info? 36).map (fun i => (i.zero,i.size,i.bytes)) = some (some (.agg #[.slice none 0 0]),1,24):=by kernel_rfl
abbrev SlT (n:Nat) (W:World) (c:List Value) (s:Sel):Prop:=∃ x,c = [x] ∧ PtsR (SelsR 10 n W) n W x s
theorem slT_one {n:Nat} {W:World} (c:List Value) (s:Sel) (h:SlT n W c s):∀ u ∈ c,u.oneCell' = true:=by
 obtain ⟨x,rfl,hx⟩:=h
 obtain ⟨p,cap,rfl⟩:=Wg.RowT.len hx
 intro u hu
 rw [List.mem_singleton] at hu
 rw [hu]
 rfl
theorem app_sels {w:World} {x y:Value} {l m:List Sel} (hx:SelsR 11 w.heap.size w x l) (hy:SelsR 11 w.heap.size w y m) (hl:l.length ≤ 2000) (hm:m.length ≤ 2000) :
  ∃ v1 W1 v2 W2,(Builtin.append_ #[28,28] 28 #[.slice none 0 0,x]).run Tryz.prog w = .ok v1 W1 ∧ (Builtin.append_ #[28,28] 28 #[v1,y]).run Tryz.prog W1 = .ok v2 W2 ∧ SelsR 11 W2.heap.size W2 v2 (l ++ m) ∧ Below w.heap.size w W2:=by
 obtain ⟨i,hi,hz0,hz1,hz2⟩:=info_parts infoSlN
 obtain ⟨v1,W1,r1,o1,g1,_⟩:=OwnT.app (W:=w) (base:=w.heap.size) Tryz.underlying28 hi hz0 hz1 hz2 rfl (by decide) (slT_one (n:=w.heap.size) (W:=w)) (OwnT.nil _ _ _ _ _) hx (by unfold maxLen;simp;omega) (by simp;omega) (Nat.le_refl _)
 have b1:Below w.heap.size w W1:=(Below.refl _ _).grown g1 (Nat.le_refl _) (fun r e => by cases e)
 rw [List.nil_append] at o1
 obtain ⟨v2,W2,r2,o2,g2,_⟩:=OwnT.app (W:=W1) (base:=w.heap.size) Tryz.underlying28 hi hz0 hz1 hz2 rfl (by decide) (slT_one (n:=w.heap.size) (W:=w)) o1 (Wg.RowT.below hy b1 (fun _ _ h => h)) (by unfold maxLen;omega) (by omega) b1.size
 have b2:Below w.heap.size w W2:=b1.grown g2 b1.size (fun r e => (o1.lt e).1)
 exact ⟨v1,W1,v2,W2,r1,r2,(o2.row (by decide)).mono (Nat.le_refl _) (fun _ _ ⟨z,e,hz⟩ => ⟨z,e,(hz.below b2 (fun _ _ h => h.below 10 b2)).mono b2.size (fun _ _ h => h.mono 10 b2.size)⟩),b2⟩
theorem cp_psR {d:Nat} {W:World} {B:Nat} {q:Ps} {x:Value} (k:Blk W B 40 [.int .i64 q.kind,.int .i64 q.a,.int .i64 q.b,x]) (hQ:SelsR d W.heap.size W x q.list):CpC (SelsR d W.heap.size W) W.heap.size W [.string ⟨#[]⟩,.slice none 0 0,.slice none 0 0,.slice none 0 0,.slice (some ⟨B,0,none⟩) 1 1] (psCp q):=
 ⟨_,_,_,_,rfl,.inl ⟨rfl,_,_,rfl⟩,.inl ⟨rfl,_,_,rfl⟩,.inl ⟨rfl,_,_,rfl⟩,row_blk k rfl ⟨x,rfl,hQ⟩⟩
structure Nots (W:World) (v:Value) (m:List Sel) (P1 I1 P2 I2:Nat):Prop where
 p1:Blk W P1 40 [.int .i64 8,.int .i64 0,.int .i64 0,v]
 i1:Blk W I1 45 [.string ⟨#[]⟩,.slice none 0 0,.slice none 0 0,.slice none 0 0,.slice (some ⟨P1,0,none⟩) 1 1]
 p2:Blk W P2 40 [.int .i64 7,.int .i64 0,.int .i64 0,v]
 i2:Blk W I2 45 [.string ⟨#[]⟩,.slice none 0 0,.slice none 0 0,.slice none 0 0,.slice (some ⟨P2,0,none⟩) 1 1]
 sr:SelsR 11 W.heap.size W v m
theorem Nots.next {W X:World} {v:Value} {m:List Sel} {P1 I1 P2 I2:Nat} (h:Nots W v m P1 I1 P2 I2) (hb:Below W.heap.size W X):Nots X v m P1 I1 P2 I2:=⟨h.p1.next hb,h.i1.next hb,h.p2.next hb,h.i2.next hb,h.sr.next hb⟩
end Go.Proofs.YtnemagmakgiheaaGreat.Mt
