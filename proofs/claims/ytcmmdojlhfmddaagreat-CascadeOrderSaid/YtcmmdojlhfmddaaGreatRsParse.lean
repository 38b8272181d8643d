/- rules.things as an iterator, rules.upTo at every place of a slice of tokens that is not too long. -/
import Derived.Test.YtcmmdojlhfmddaaGreatRsSkip
import Derived.Test.YtcmmdojlhfmddaaGreatSeqZ
import Derived.Test.YtcmmdojlhfmddaaGreatSame
import Derived.Test.YtcmmdojlhfmddaaGreatAppSrc
import Derived.RangeFuncBox
import Derived.Shelf.RegionOpen
import Derived.Deep.AppendLies
import Derived.Deep.RegionLaw
namespace Go.Proofs.YtcmmdojlhfmddaaGreat
open Go Go.RowKit Go.Shelf
attribute [local go_sem] Oper.semAt_some
/-! ### where things begin -/
theorem run_drop_pos {ks:List Int} {i:Nat} (h:i < ks.length):0 < run [] (ks.drop i):=by
 rw [List.drop_eq_getElem_cons h]
 exact run_pos _ _ _
theorem run_drop_le (ks:List Int) (i:Nat):run [] (ks.drop i) ≤ ks.length - i:=by
 have:=run_le [] (ks.drop i)
 rwa [List.length_drop] at this
/-! ### the iterator -/
theorem grown_of_below' {w w':World} (h:Below w.heap.size w w') (row:Option Nat):w.grownBy w' row:=⟨h.os,h.tape,h.output,h.size,fun i hi _ => h.block i hi⟩
/-! ### is a kind among those that are looked for? -/
end Go.Proofs.YtcmmdojlhfmddaaGreat

/- rules.upTo at every place of a slice of tokens that is not too long. -/
namespace Go.Proofs.YtcmmdojlhfmddaaGreat
open Go Go.RowKit Go.Shelf
attribute [local go_sem] Oper.semAt_some
theorem below_drew {n₀:Nat} {a b:World} (h:Below n₀ a b):Below n₀ a b.drew:=⟨h.os,h.tape,h.output,h.size,h.block⟩
end Go.Proofs.YtcmmdojlhfmddaaGreat

/- The rules of tokens, in plain words; slices of rules in memory; rules.copied. -/
namespace Go.Proofs.YtcmmdojlhfmddaaGreat
open Go Go.RowKit Go.Shelf
/-! ### plain -/
def isStop (k:Int):Bool:=[12,14].contains k
def is14 (k:Int):Bool:=[14].contains k
def is15' (k:Int):Bool:=[15].contains k
abbrev Rw:=List Bt × List Bt
def rulesF:Nat → List Bt → List Rw
 | 0,_ => []
 | _ + 1,[] => []
 | f + 1,t :: r =>
  if t.kind = 9 then rulesF f r
  else if t.kind = 2 then rulesF f (r.drop (upto isStop (kds r) + run [] ((kds r).drop (upto isStop (kds r)))))
  else if upto is14 (kds (t :: r)) = (t :: r).length then []
  else ((t :: r).take (upto is14 (kds (t :: r))),((t :: r).drop (upto is14 (kds (t :: r)) + 1)).take (upto is15' (kds ((t :: r).drop (upto is14 (kds (t :: r)) + 1))))) :: rulesF f ((t :: r).drop (upto is14 (kds (t :: r)) + 1 + (upto is15' (kds ((t :: r).drop (upto is14 (kds (t :: r)) + 1))) + 1)))
def rules (ts:List Bt):List Rw:=rulesF ts.length ts
theorem rulesF_more:∀ (f g:Nat) (l:List Bt),l.length ≤ f → l.length ≤ g → rulesF f l = rulesF g l
 | 0,0,_,_,_ => rfl
 | 0,g + 1,l,hf,_ => by
  have:l = []:=List.length_eq_zero_iff.1 (by omega)
  subst this
  rfl
 | f + 1,0,l,_,hg => by
  have:l = []:=List.length_eq_zero_iff.1 (by omega)
  subst this
  rfl
 | f + 1,g + 1,[],_,_ => rfl
 | f + 1,g + 1,t :: r,hf,hg => by
  rw [List.length_cons] at hf hg
  have h1:=rulesF_more f g r (by omega) (by omega)
  have h2:=rulesF_more f g (r.drop (upto isStop (kds r) + run [] ((kds r).drop (upto isStop (kds r))))) (by rw [List.length_drop];omega) (by rw [List.length_drop];omega)
  have h3:=rulesF_more f g ((t :: r).drop (upto is14 (kds (t :: r)) + 1 + (upto is15' (kds ((t :: r).drop (upto is14 (kds (t :: r)) + 1))) + 1))) (by rw [List.length_drop,List.length_cons];omega) (by rw [List.length_drop,List.length_cons];omega)
  simp only [rulesF,h1,h2,h3]
theorem rules_nil:rules [] = []:=rfl
theorem rules_white {t:Bt} {r:List Bt} (h:t.kind = 9):rules (t :: r) = rules r:=by
 unfold rules
 rw [List.length_cons,rulesF,if_pos h]
theorem rules_at {t:Bt} {r:List Bt} (h:t.kind = 2):rules (t :: r) = rules (r.drop (upto isStop (kds r) + run [] ((kds r).drop (upto isStop (kds r))))):=by
 unfold rules
 rw [List.length_cons,rulesF,if_neg (by omega),if_pos h]
 exact rulesF_more _ _ _ (by rw [List.length_drop];omega) (Nat.le_refl _)
theorem rules_none {t:Bt} {r:List Bt} (h9:t.kind ≠ 9) (h2:t.kind ≠ 2) (h:upto is14 (kds (t :: r)) = (t :: r).length):rules (t :: r) = []:=by
 unfold rules
 rw [List.length_cons,rulesF,if_neg h9,if_neg h2,if_pos h]
theorem rules_one {t:Bt} {r:List Bt} (h9:t.kind ≠ 9) (h2:t.kind ≠ 2) (h:upto is14 (kds (t :: r)) ≠ (t :: r).length) :
  rules (t :: r) = ((t :: r).take (upto is14 (kds (t :: r))),((t :: r).drop (upto is14 (kds (t :: r)) + 1)).take (upto is15' (kds ((t :: r).drop (upto is14 (kds (t :: r)) + 1))))) :: rules ((t :: r).drop (upto is14 (kds (t :: r)) + 1 + (upto is15' (kds ((t :: r).drop (upto is14 (kds (t :: r)) + 1))) + 1))):=by
 unfold rules
 rw [List.length_cons,rulesF,if_neg h9,if_neg h2,if_neg h]
 congr 1
 exact rulesF_more _ _ _ (by rw [List.length_drop,List.length_cons];omega) (Nat.le_refl _)
/-! ### in memory -/
theorem infoTk5:(Tryz.prog.info? 85).map (fun i => (i.zero,i.size,i.bytes)) = some (some (.agg #[.int .i64 0,.string ⟨#[]⟩,.int .i64 0,.bool false,.int .i64 0]),5,48):=by kernel_rfl
theorem infoRaw:(Tryz.prog.info? 67).map (fun i => (i.zero,i.size,i.bytes)) = some (some (.agg #[.slice none 0 0,.slice none 0 0]),2,48):=by kernel_rfl
theorem btsCells_cell {ts:List Bt} {j:Nat} {u:Value} (h:(btsCells ts)[j]? = some u):∃ t,ts[j / 5]? = some t ∧ (btCells t)[j % 5]? = some u:=by
 have hlt:j < (btsCells ts).length:=(List.getElem?_eq_some_iff.1 h).1
 rw [btsCells_length] at hlt
 have hq:j / 5 < ts.length:=by omega
 refine ⟨ts[j / 5],List.getElem?_eq_getElem hq,?_⟩
 rw [← btsCells_at ts (j / 5) _ (List.getElem?_eq_getElem hq) (j % 5) (by omega),show j / 5 * 5 + j % 5 = j by omega]
 exact h
theorem BtAt.cells {W:World} {bk o:Nat} {t:Bt} (h:BtAt W bk o t) {i:Nat} {u:Value} (hi:(btCells t)[i]? = some u):W.cell? ⟨bk,o + i,none⟩ = some u:=by
 obtain ⟨h0,h1,h2,h3,h4⟩:=h
 have:i = 0 ∨ i = 1 ∨ i = 2 ∨ i = 3 ∨ i = 4:=by
  have:=(List.getElem?_eq_some_iff.1 hi).1
  simp [btCells] at this
  omega
 rcases this with rfl | rfl | rfl | rfl | rfl <;> (simp [btCells] at hi;subst hi;assumption)
theorem BtsAt.src {n₀:Nat} {X:World} {v:Value} {ts:List Bt} (h:BtsAt n₀ X v ts) :
  (v = .slice none 0 0 ∧ ts.length = 0) ∨ ∃ ad c,v = .slice (some ad) ts.length c ∧ ∀ j u,(btsCells ts)[j]? = some u → X.cell? (ad.add j) = some u:=by
 rcases h with ⟨rfl,rfl | ⟨x,cap,rfl,_⟩⟩ | ⟨bk,off,cap,rfl,_,_,_,hc⟩
 ·exact .inl ⟨rfl,rfl⟩
 ·exact .inr ⟨x,cap,rfl,fun j u hj => by simp [btsCells] at hj⟩
 ·refine .inr ⟨_,cap,rfl,fun j u hj => ?_⟩
  obtain ⟨t,ht,hi⟩:=btsCells_cell hj
  have:=(hc _ t ht).cells hi
  rw [addr_add,show off + j = off + j / 5 * 5 + j % 5 by omega]
  exact this
structure RawsAt (b:Nat) (W:World) (v:Value) (rs:List Rw) (vs:List (Value × Value)):Prop where
 row:W.ownsRow b 67 2 v rs.length (vs.flatMap fun p => [p.1,p.2])
 len:vs.length = rs.length
 each:∀ (j:Nat) (p:Value × Value) (r:Rw),vs[j]? = some p → rs[j]? = some r → W.ownsRow b 85 5 p.1 r.1.length (btsCells r.1) ∧ W.ownsRow b 85 5 p.2 r.2.length (btsCells r.2)
theorem RawsAt.nil (b:Nat) (W:World):RawsAt b W (.slice none 0 0) [] []:=⟨World.ownsRow_nil _ _ _ _,rfl,fun j p r h _ => by simp at h⟩
theorem rows_apart {W:World} {b b':Nat} {e e':TypeId} (hne:e ≠ e') {s s':Nat} {v v':Value} {n n':Nat} {xs xs':List Value} (h:W.ownsRow b e s v n xs) (h':W.ownsRow b' e' s' v' n' xs'):v.ownBlock = none ∨ v.ownBlock ≠ v'.ownBlock:=by
 rcases h.2 with ⟨rfl,_⟩ | ⟨g,cap,cur,rfl,_,hb,_⟩
 ·exact .inl rfl
 ·right
  rcases h'.2 with ⟨rfl,_⟩ | ⟨g',cap',cur',rfl,_,hb',_⟩
  ·simp [Value.ownBlock]
  ·intro e2
   simp [Value.ownBlock] at e2
   subst e2
   rw [hb] at hb'
   injection hb' with hb'
   injection hb' with _ h2
   exact hne h2
theorem RawsAt.kept {b:Nat} {W W':World} {v:Value} {rs:List Rw} {vs:List (Value × Value)} (h:RawsAt b W v rs vs) (g:W.grownBy W' none):RawsAt b W' v rs vs:=by
 have no:∀ x:Value,x.ownBlock = none ∨ x.ownBlock ≠ none:=fun x => by
  cases x.ownBlock with
  | none => exact .inl rfl
  | some j => exact .inr (by simp)
 exact ⟨h.row.kept g (no _),h.len,fun j p r h1 h2 => ⟨(h.each j p r h1 h2).1.kept g (no _),(h.each j p r h1 h2).2.kept g (no _)⟩⟩
theorem RawsAt.push {b:Nat} {W W':World} {v v':Value} {rs:List Rw} {vs:List (Value × Value)} {o:Obj} {p:Value × Value} {r:Rw} (h:RawsAt b W v rs vs)
  (h1:W.ownsRow b 85 5 p.1 r.1.length (btsCells r.1)) (h2:W.ownsRow b 85 5 p.2 r.2.length (btsCells r.2))
  (hg:(W.alloc o).grownBy W' v.ownBlock) (hr:W'.ownsRow b 67 2 v' (rs.length + 1) ((vs.flatMap fun p => [p.1,p.2]) ++ [p.1,p.2])):RawsAt b W' v' (rs ++ [r]) (vs ++ [p]):=by
 have keep:∀ {x:Value} {n:Nat} {xs:List Value},W.ownsRow b 85 5 x n xs → W'.ownsRow b 85 5 x n xs:=fun hx =>
  (hx.alloc o).kept hg (rows_apart (e:=85) (e':=67) (by decide) (hx.alloc o) (h.row.alloc o))
 refine ⟨?_,by simp [h.len],fun j q s hq hs => ?_⟩
 ·rw [List.length_append,List.flatMap_append]
  simpa using hr
 ·by_cases hj:j < vs.length
  ·rw [List.getElem?_append_left hj] at hq
   rw [List.getElem?_append_left (by rw [← h.len];exact hj)] at hs
   exact ⟨keep (h.each j q s hq hs).1,keep (h.each j q s hq hs).2⟩
  ·have hj':j = vs.length:=by
    have:=(List.getElem?_eq_some_iff.1 hq).1
    simp at this
    omega
   subst hj'
   rw [List.getElem?_append_right (Nat.le_refl _)] at hq
   rw [h.len,List.getElem?_append_right (Nat.le_refl _)] at hs
   obtain rfl:p = q:=by simpa using hq
   obtain rfl:r = s:=by simpa using hs
   exact ⟨keep h1,keep h2⟩
end Go.Proofs.YtcmmdojlhfmddaaGreat

/- rules.Parse at every slice of tokens that is not too long. -/
namespace Go.Proofs.YtcmmdojlhfmddaaGreat
open Go Go.RowKit Go.Shelf
theorem BtsAt.some {n₀:Nat} {X:World} {p:Option Addr} {n cap:Nat} {l:List Bt} (h:BtsAt n₀ X (.slice p n cap) l) (hk:0 < l.length):∃ bk off,p = some ⟨bk,off,none⟩ ∧ l.length ≤ cap ∧ cap ≤ maxLen:=by
 obtain ⟨bk,off,h1,_,h2,h3,_⟩:=h.get (List.getElem?_eq_getElem hk)
 exact ⟨bk,off,h1,h2,h3⟩
theorem below_next {w W W':World} (h:Below w.heap.size w W) (hb:Below W.heap.size W W'):Below w.heap.size w W':=h.trans (hb.mono h.size)
theorem Stk_form {X:World} {b:Nat} {e:TypeId} {size:Nat} {v:Value} {m:Nat} {xs:List Value} (h:X.ownsRow b e size v m xs):∃ q c,v = .slice q m c:=by
 rcases h.2 with ⟨rfl,h0⟩ | ⟨g,cap,cur,rfl,_⟩
 ·exact ⟨none,0,by rw [h0]⟩
 ·exact ⟨_,_,rfl⟩
theorem upto_le' (p:Int → Bool) (ts:List Bt):upto p (kds ts) ≤ ts.length:=by
 have:=upto_le p _ (kds ts) (Nat.le_refl _)
 rwa [kds_length] at this
end Go.Proofs.YtcmmdojlhfmddaaGreat
