/- What is a child is within, and what is next is after: plain facts. -/
import Derived.Test.YtnemagmakgiheaaGreatMtSame
import Derived.Test.YtnemagmakgiheaaGreatMtGe
import Derived.Test.YtnemagmakgiheaaGreatRowApp
namespace Go.Proofs.YtnemagmakgiheaaGreat.Mt
open Go.Proofs.YtnemagmakgiheaaGreat.Tre
open Go Go.RowKit Dm Go.Proofs.YtnemagmakgiheaaGreat.Wg
def looseK (c:Int):Int:=if c = 2 then 1 else if c = 3 then 4 else c
def looseP (p:Pt):Pt:=(looseK p.1,p.2)
def looseS (s:Sel):Sel:=s.map looseP
theorem loose_at (s:Sel) (k:Nat):partAt (looseS s) k = looseP (partAt s k):=by
 simp only [partAt,looseS,List.getD,List.getElem?_map]
 cases s[k]? <;> rfl
theorem loose_ahead {es:List El} (hO:TreeOk es) {e:Nat} (he:e < es.length) (c:Int):∀ x ∈ aheadV es c e,x ∈ aheadV es (looseK c) e:=by
 intro x hx
 have key:∀ c',nextV es c' (e:Int) = nextV es c (e:Int) → farV c = false → x ∈ aheadV es c' e:=fun c' hn hf => by
  rw [ahead_next hO he] at hx ⊢
  rw [hn]
  rw [hf] at hx
  split at hx
  ·simp at hx
  ·rename_i h
   rw [if_neg h]
   simp only [Bool.false_eq_true,if_false,List.mem_singleton] at hx
   rw [hx]
   exact List.mem_cons_self ..
 unfold looseK
 split
 ·rename_i h
  subst h
  exact key 1 rfl rfl
 ·split
  ·rename_i h
   subst h
   exact key 4 rfl rfl
  ·exact hx
theorem ahead_low {es:List El} (hO:TreeOk es) (c:Int):∀ (m e:Nat),e < m → e < es.length → ∀ x ∈ aheadV es c e,x < es.length
 | 0,_,h,_ => absurd h (Nat.not_lt_zero _)
 | m + 1,e,hm,he => fun x hx => by
  rw [ahead_next hO he] at hx
  rcases nextV_lt hO he c with hn | ⟨j,hn,hj⟩
  ·rw [hn,if_pos rfl] at hx
   cases hx
  ·rw [hn,if_neg (show ¬ ((j:Int) = -1) by omega),Int.toNat_natCast] at hx
   rcases List.mem_cons.1 hx with rfl | hx
   ·omega
   ·split at hx
    ·exact ahead_low hO c m j (by omega) (by omega) x hx
    ·cases hx
theorem loose_upto {es:List El} (hO:TreeOk es) (Q:Any) (s:Sel):∀ (k e:Nat),e < es.length → uptoV Q es s k e = true → uptoV Q es (looseS s) k e = true
 | 0,e,_,h => by
  unfold uptoV at h ⊢
  rw [loose_at]
  exact h
 | k + 1,e,he,h => by
  unfold uptoV at h ⊢
  rw [loose_at]
  rw [Bool.and_eq_true] at h ⊢
  refine ⟨h.1,?_⟩
  obtain ⟨x,hx,hu⟩:=List.any_eq_true.1 h.2
  have hxl:=ahead_low hO _ (e + 1) e (by omega) he x hx
  exact List.any_eq_true.2 ⟨x,loose_ahead hO he _ x hx,loose_upto hO Q s k x hxl hu⟩
theorem loose_lists (s:Sel):listsV (looseS s) = listsV s:=by
 unfold listsV looseS
 rw [List.flatMap_map]
 rfl
theorem loose_fits:∀ (d:Nat) (s:Sel),fitsV d (looseS s) = fitsV d s
 | 0,s => by
  unfold fitsV
  rw [loose_lists,show (looseS s).length = s.length from List.length_map ..]
 | d + 1,s => by
  unfold fitsV
  rw [loose_lists,show (looseS s).length = s.length from List.length_map ..]
theorem loose_sel {es:List El} (hO:TreeOk es) (e:Int) (s:Sel) (h:selectorV es e s = true):selectorV es e (looseS s) = true:=by
 unfold selectorV at h ⊢
 simp only [Bool.and_eq_true,decide_eq_true_eq] at h ⊢
 obtain ⟨h1,h2,h3⟩:=h
 refine ⟨h1,by rw [loose_fits];exact h2,?_⟩
 unfold selV at h3 ⊢
 rw [show (looseS s).length = s.length from List.length_map ..]
 simp only [Bool.and_eq_true,decide_eq_true_eq] at h3 ⊢
 exact ⟨h3.1,loose_upto hO _ s _ _ (by omega) h3.2⟩
theorem loose_few {d:Nat} {s:Sel} (h:FewT d s):FewT d (looseS s):=
 ⟨by rw [show (looseS s).length = s.length from List.length_map ..];exact h.1,fun p hp => by
  obtain ⟨q,hq,rfl⟩:=List.mem_map.1 hp
  exact h.2 q hq⟩
theorem loose_wd {d:Nat} {s:Sel} (h:SW d s):SW d (looseS s):=fun p hp => by
 obtain ⟨q,hq,rfl⟩:=List.mem_map.1 hp
 refine ⟨?_,(h q hq).2⟩
 have:=(h q hq).1
 unfold looseP looseK
 dsimp only
 split
 ·show (Lit.int .i64 1).wf = true
  decide
 ·split
  ·show (Lit.int .i64 4).wf = true
   decide
  ·exact this
/-! ### the parts that the call puts one behind the other -/
theorem infoPtL:(Tryz.prog.info? 48).map (fun i => (i.zero,i.size,i.bytes)) = some (some (.agg #[.int .i64 0,.string ⟨#[]⟩,.slice none 0 0,.slice none 0 0,.slice none 0 0,.slice none 0 0]),6,120):=by kernel_rfl
theorem ptC_one {d n:Nat} {W:World} (c:List Value) (x:Pt) (h:PtC (SelsR d n W) n W c x):∀ u ∈ c,u.oneCell' = true:=by
 obtain ⟨_,rfl,i,k,a,p,rfl,h1,h2,h3,h4⟩:=h
 obtain ⟨_,_,rfl⟩:=h1.len
 obtain ⟨_,_,rfl⟩:=h2.len
 obtain ⟨_,_,rfl⟩:=h3.len
 obtain ⟨_,_,rfl⟩:=h4.len
 intro u hu
 simp only [List.mem_cons,List.not_mem_nil,or_false] at hu
 rcases hu with rfl | rfl | rfl | rfl | rfl | rfl <;> rfl
theorem row_blk {α:Type} {sz:Nat} {T:List Value → α → Prop} {W:World} {B:Nat} {t:TypeId} {cs:List Value} {x:α} (k:Blk W B t cs) (hl:cs.length = sz) (hx:T cs x):Wg.RowT sz T W.heap.size W (.slice (some ⟨B,0,none⟩) 1 1) [x]:=by
 refine .inr ⟨B,0,1,rfl,Nat.le_refl _,by unfold maxLen;omega,k.lt,fun j y hy => ?_⟩
 have hj:j = 0:=by have:=(List.getElem?_eq_some_iff.1 hy).1;simpa using this
 subst hj
 obtain rfl:x = y:=by simpa using hy
 refine ⟨cs,hl,hx,fun i u hu => ?_⟩
 rw [cell_of_block (show W.heap[B]? = _ from k)]
 simpa using hu
theorem blk6L {W:World} {B:Nat} {t:TypeId} {a b c d e f:Value} (h:Blk W B t [a,b,c,d,e,f]):(W.cell? ⟨B,0,none⟩ = some a ∧ W.cell? ⟨B,1,none⟩ = some b ∧ W.cell? ⟨B,2,none⟩ = some c ∧ W.cell? ⟨B,3,none⟩ = some d ∧ W.cell? ⟨B,4,none⟩ = some e ∧ W.cell? ⟨B,5,none⟩ = some f) ∧ W.frozen? ⟨B,0,none⟩ = false:=by
 simp [World.cell?,World.frozen?,show W.heap[B]? = _ from h]
structure Ls (u w W:World) (v:Value) (l:Sel):Prop where
 blk:Blk W w.heap.size 36 [v]
 own:OwnT (w.heap.size + 1) 48 6 (PtC (SelsR 10 u.heap.size u) u.heap.size u) W v l
 low:Below w.heap.size w W
theorem Ls.new (u w:World):Ls u w (w.alloc (.cells #[.slice none 0 0] 36)) (.slice none 0 0) []:=⟨Blk.new w _ _,OwnT.nil _ _ _ _ _,(Below.refl _ _).alloc (Nat.le_refl _) _⟩
theorem Ls.app {u w W X:World} {v:Value} {l:Sel} {A:Nat} {cs:List Value} {q:Pt} (h:Ls u w W v l) (hb:Below W.heap.size W X) (k:Blk X A 48 cs) (hl:cs.length = 6) (hx:PtC (SelsR 10 u.heap.size u) u.heap.size u cs q) (hn:l.length ≤ 1000) :
  ∃ v' Y,(Builtin.append_ #[34,34] 34 #[v,.slice (some ⟨A,0,none⟩) 1 1]).run Tryz.prog X = .ok v' Y ∧ Blk Y w.heap.size 36 [v] ∧ Ls u w (Y.setCell ⟨w.heap.size,0,none⟩ v') v' (l ++ [q]):=by
 obtain ⟨i0,hi,hz0,hz1,hz2⟩:=info_parts infoPtL
 have hO:=h.own.next hb
 have hbl:=h.blk.lt
 obtain ⟨v',Y,hr,hO2,hg,_⟩:=OwnT.app (W:=X) (base:=w.heap.size + 1) Tryz.underlying34 hi hz0 hz1 hz2 rfl (by decide) ptC_one hO (row_blk k hl hx) (by unfold maxLen;simp;omega) (by simp;omega) (Nat.le_trans hbl hb.size)
 have kX:=h.blk.next hb
 have ne:some w.heap.size ≠ v.ownBlock:=fun e => by have:=(hO.lt e.symm).1;omega
 have kY:=kX.kept hg ne
 have bX:=below_next h.low hb
 have bY:Below w.heap.size w Y:=bX.grown hg bX.size (fun r e => by have:=(hO.lt e).1;omega)
 have g2:=grown_set Y w.heap.size 0 v'
 refine ⟨v',Y,hr,kY,blk_put kY 0 v',hO2.same (fun g hg' => g2.block g (hO2.lt hg').2 (fun e => by have:=(hO2.lt hg').1;cases e;omega)) (fun _ _ h => h),Dm.below_grown bY g2 bY.size (Nat.le_refl _)⟩
theorem Ls.parts {u w W:World} {v:Value} {l:Sel} (h:Ls u w W v l) (hu:Below u.heap.size u W):PartsR 10 W.heap.size W v l:=
 (h.own.row (by decide)).mono (Nat.le_refl _) (fun _ _ ⟨c',e,hc⟩ => ⟨c',e,CpC.mono (CpC.below hc hu (fun _ _ h => h.below 10 hu)) hu.size (fun _ _ h => h.mono 10 hu.size)⟩)
end Go.Proofs.YtnemagmakgiheaaGreat.Mt
