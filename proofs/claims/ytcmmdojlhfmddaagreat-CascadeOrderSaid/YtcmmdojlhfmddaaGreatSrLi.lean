/- The document's own reader of selectors: a selector under way; the plain side, by places. -/
import Derived.Test.YtcmmdojlhfmddaaGreatSrCo
namespace Go.Proofs.YtcmmdojlhfmddaaGreat.Sr
open Go.Proofs.YtcmmdojlhfmddaaGreat.Tre
open Go Go.RowKit Sl
theorem infoSe:(Tryz.prog.info? 117).map (·.size) = some 1:=by kernel_rfl
theorem infoPt3:(Tryz.prog.info? 143).map (fun i => (i.zero,i.size,i.bytes)) = some (some (.agg #[.int .i64 0,.string ⟨#[]⟩,.slice none 0 0,.slice none 0 0,.slice none 0 0,.slice none 0 0]),6,120):=by kernel_rfl
theorem load_se {w:World} {g:Nat} {a:Value} (h:Blk w g 117 [a]):(loadVar 117 ⟨g,0,none⟩).run Tryz.prog w = .ok (.agg #[a]) w:=
 run_loadVar_row w g _ 117 #[a] (0,0) _ h Tryz.underlying117 rfl infoSe
def PtTd (d:Nat) (P:Nat → Prop) (W:World) (c:List Value) (q:Pt):Prop:=PtT (SelsAt d P W) P W c q
theorem ptT_stays (d:Nat):Stays (PtTd d):=fun _ _ _ _ _ _ ⟨c',e,h⟩ f => ⟨c',e,h.fr f (fun _ _ hq => SelsAt.fr d hq f)⟩
def OffS (n Q:Nat) (y:Value) (b:Nat):Prop:=n ≤ b ∧ b ≠ Q ∧ y.ownBlock ≠ some b
structure SeSt (n₀ R:Nat) (v:Value) (ts:List Bt) (d:Nat) (w:World) (s:Sel) (y:Value) (b:Nat) (bad:Bool) (W:World):Prop where
 z:Blk W w.heap.size 117 [nilS]
 q:Blk W (w.heap.size + 1) 117 [y]
 r:UndRow 143 6 (PtTd d) (w.heap.size + 1) (OffS (w.heap.size + 1) (w.heap.size + 1) y) W y s
 pk:Pk n₀ W R v ts b bad (8 - (d:Int))
 but:But R w W
 hR:R < w.heap.size
section
variable {n₀ R:Nat} {v:Value} {ts:List Bt} {d:Nat} {w:World} {s:Sel} {y:Value} {b:Nat} {bad:Bool} {W W':World}
theorem SeSt.go (h:SeSt n₀ R v ts d w s y b bad W) {b':Nat} {bad':Bool} (hP:Pk n₀ W' R v ts b' bad' (8 - (d:Int))) (hb:But R W W'):SeSt n₀ R v ts d w s y b' bad' W':=by
 have h1:=h.hR
 exact ⟨hb.blk h.z (by omega),hb.blk h.q (by omega),h.r.kept (ptT_stays d) (Fr.of_kept hb (fun b hb _ => ⟨by have:=hb.1;omega,hb⟩)) (fun g hg => hb.block g (h.r.lt hg).2 (by have:=(h.r.lt hg).1;omega)),hP,h.but.trans hb,h.hR⟩
theorem SeSt.below (h:SeSt n₀ R v ts d w s y b bad W) (hb:Below W.heap.size W W'):SeSt n₀ R v ts d w s y b bad W':=h.go (h.pk.below hb) (But.of_below hb)
theorem SeSt.at (h:SeSt n₀ R v ts d w s y b bad W) {b':Nat} (hb:b' ≤ ts.length + 10):SeSt n₀ R v ts d w s y b' bad (W.setCell ⟨R,1,none⟩ (.int .i64 b')):=h.go (h.pk.set hb) (But.set R W 1 _)
theorem SeSt.spoil (h:SeSt n₀ R v ts d w s y b bad W) (q:Bool):SeSt n₀ R v ts d w s y b q (W.setCell ⟨R,2,none⟩ (.bool q)):=h.go (h.pk.spoil q) (But.set R W 2 _)
theorem SeSt.push (h:SeSt n₀ R v ts d w s y b bad W) {X Y:World} (hX:Below W.heap.size W X) {css:List (List Value)} (h2:css.length = s.length) (h3:∀ c ∈ css,c.length = 6) (h4:∀ (j:Nat) (c:List Value) (x:Pt),css[j]? = some c → s[j]? = some x → PtTd d (OffS (w.heap.size + 1) (w.heap.size + 1) y) W c x)
  {comb:Int} {c:Cp} {cells:List Value} (hl:cells.length = 5) {m:Nat} (hc:CpT (SelsAt d (fun b => m ≤ b) X) (fun b => m ≤ b) X cells c) (hm:w.heap.size + 1 < m) (hmy:∀ g,y.ownBlock = some g → g < m)
  {v':Value} (hr:Y.ownsRow (w.heap.size + 1) 143 6 v' (s.length + 1) (css.flatten ++ (.int .i64 comb :: cells))) (hg:X.grownBy Y y.ownBlock) (hat:∀ g,v'.ownBlock = some g → y.ownBlock = some g ∨ X.heap.size ≤ g) :
  SeSt n₀ R v ts d w (s ++ [(comb,c)]) v' b bad (Y.setCell ⟨w.heap.size + 1,0,none⟩ v'):=by
 have h1:=h.hR
 have hS:=h.below hX
 have hlow:=h.pk.low
 have oQ:y.ownBlock ≠ some (w.heap.size + 1):=hS.r.off hS.q (by decide)
 have hQX:w.heap.size + 1 < X.heap.size:=hS.q.lt
 have hvQ:v'.ownBlock ≠ some (w.heap.size + 1):=fun e => (hat _ e).elim oQ (fun h => by omega)
 have keep:∀ b,b < X.heap.size → b ≠ w.heap.size + 1 → y.ownBlock ≠ some b → (Y.setCell ⟨w.heap.size + 1,0,none⟩ v').heap[b]? = X.heap[b]?:=fun b hb h1 h2 =>
  (Below.heap_setCell _ _ _ _ (fun e => h1 (by simpa using e))).trans (hg.block b hb (fun e => h2 e.symm))
 have hsz:X.heap.size ≤ (Y.setCell ⟨w.heap.size + 1,0,none⟩ v').heap.size:=by rw [World.size_setCell];exact hg.size
 have f:Fr (OffS (w.heap.size + 1) (w.heap.size + 1) y) (OffS (w.heap.size + 1) (w.heap.size + 1) v') X (Y.setCell ⟨w.heap.size + 1,0,none⟩ v'):=⟨hsz,fun b hb hl => ⟨keep b hl.lt hb.2.1 hb.2.2,hb.1,hb.2.1,fun e => (hat b e).elim hb.2.2 (fun h => by have:=hl.lt;omega)⟩⟩
 have f2:Fr (fun b => m ≤ b) (OffS (w.heap.size + 1) (w.heap.size + 1) v') X (Y.setCell ⟨w.heap.size + 1,0,none⟩ v'):=⟨hsz,fun b hb hl => by
  have hne:y.ownBlock ≠ some b:=fun e => by have:=hmy b e;omega
  exact ⟨keep b hl.lt (by omega) hne,by omega,by omega,fun e => (hat b e).elim hne (fun h => by have:=hl.lt;omega)⟩⟩
 have f0:Fr (OffS (w.heap.size + 1) (w.heap.size + 1) y) (OffS (w.heap.size + 1) (w.heap.size + 1) y) W X:=Fr.of_below hX (fun b hb _ => hb)
 have kY:Kept (fun b => b < w.heap.size + 1) X Y:=Kept.of_grown hg (fun g e hlt => by have:=(hS.r.lt e).1;omega)
 have kZ:Kept (fun b => b < w.heap.size + 1) X (Y.setCell ⟨w.heap.size + 1,0,none⟩ v'):=kY.trans (Kept.setCell Y _ v' (by simp))
 have hr':(Y.setCell ⟨w.heap.size + 1,0,none⟩ v').ownsRow (w.heap.size + 1) 143 6 v' _ _:=owns_same hr (fun g hg' => Below.heap_setCell _ _ _ _ (fun e => hvQ (by simp at e;rw [← e];exact hg')))
 refine ⟨kZ.blk hS.z (by omega),blk_put ((show Blk Y _ _ _ from (hg.block _ hQX (fun e => oQ e.symm)).trans hS.q)) 0 v',?_,⟨kZ.blk hS.pk.blk (by omega),hS.pk.toks.below (kZ.below (Nat.le_trans hS.pk.low (Nat.le_of_lt hS.pk.lt)) (fun b hb => by omega)),hS.pk.low,hS.pk.least,hS.pk.most⟩,?_,h1⟩
 ·exact und_push (ptT_stays d) h2 h3 (fun j c x hj hx => ptT_stays d _ _ _ _ _ _ (h4 j c x hj hx) f0) (by rw [List.length_cons,hl]) ⟨cells,rfl,hc.fr f2 (fun _ _ hq => SelsAt.fr d hq f2)⟩ f hr'
 ·exact ⟨kZ.os.trans hS.but.os,kZ.tape.trans hS.but.tape,kZ.output.trans hS.but.output,Nat.le_trans hS.but.size kZ.size,fun j hj hne => (kZ.block j (Nat.lt_of_lt_of_le hj hS.but.size) (by omega)).trans (hS.but.block j hj hne)⟩
end
def Fail (U:Option (Sel × List Bt)):Prop:=U = none ∨ ∃ x t r,U = some (x,t :: r) ∧ ¬ (t.kind = 13 ∨ t.kind = 17)
def SelOut (n₀ R:Nat) (v:Value) (ts:List Bt) (d:Nat) (w:World) (a:Nat) (U:Option (Sel × List Bt)) (e:Ending) (w':World):Prop:=
 ∃ (s:Sel) (y:Value) (b:Nat) (bad:Bool),e = .returned (.agg #[y]) ∧ PtsF (SelsAt d (fun b => w.heap.size ≤ b) w') (fun b => w.heap.size ≤ b) w' y s ∧ Pk n₀ w' R v ts b bad (8 - (d:Int)) ∧ a ≤ b ∧ ((bad = false ∧ U = some (s,ts.drop b) ∧ endsV ts b = true ∧ b ≤ ts.length ∧ a < b) ∨ (bad = true ∧ Fail U)) ∧ But R w w'
theorem SeSt.out {n₀ R:Nat} {v:Value} {ts:List Bt} {d:Nat} {w:World} {s:Sel} {y:Value} {b:Nat} {bad:Bool} {W:World} (h:SeSt n₀ R v ts d w s y b bad W) {a:Nat} {U:Option (Sel × List Bt)} (hab:a ≤ b) (hv:(bad = false ∧ U = some (s,ts.drop b) ∧ endsV ts b = true ∧ b ≤ ts.length ∧ a < b) ∨ (bad = true ∧ Fail U)) :
  (loadVar 117 ⟨w.heap.size,0,none⟩).run Tryz.prog (W.setCell ⟨w.heap.size,0,none⟩ y) = .ok (.agg #[y]) (W.setCell ⟨w.heap.size,0,none⟩ y) ∧
  SelOut n₀ R v ts d w a U (.returned (.agg #[y])) (W.setCell ⟨w.heap.size,0,none⟩ y):=by
 have h1:=h.hR
 have h2:=h.pk.low
 have g:=grown_set W w.heap.size 0 y
 have fr:Fr (fun b => w.heap.size + 1 ≤ b) (fun b => w.heap.size ≤ b) W (W.setCell ⟨w.heap.size,0,none⟩ y):=⟨g.size,fun x hx hl => ⟨g.block x hl.lt (fun e => by cases e;omega),by omega⟩⟩
 have hd:=h.r.done (P':=fun b => w.heap.size + 1 ≤ b) (by decide) (ptT_stays d) (fun b hb => hb.1) (fun g hg => (h.r.lt hg).1)
 exact ⟨load_se (blk_set1 h.z _),s,y,b,bad,rfl,PtsF.fr hd fr (fun _ _ hq => SelsAt.fr d hq fr),h.pk.other (by omega) (by omega) _,hab,hv,h.but.fresh (Nat.le_refl _) _⟩
/-! ### the plain side -/
theorem parts_none {L:Inner} {f:Nat} {comb:Int} {pre:List Pt} {r:List Bt} (hf:r.length < f) (h:compV L r = none):partsV L f comb pre r = none:=by
 obtain ⟨f,rfl⟩:∃ g,f = g + 1:=⟨f - 1,by omega⟩
 simp [partsV,h]
theorem parts_some {L:Inner} {f:Nat} {comb:Int} {pre:List Pt} {r r1:List Bt} {c:Cp} (hf:r.length < f) (h:compV L r = some (c,r1)):partsV L f comb pre r = match betwV r1 with
  | some y => partsV L (f - 1) y.1 (pre ++ [(comb,c)]) y.2
  | none => some (pre ++ [(comb,c)],dropW r1):=by
 obtain ⟨f,rfl⟩:∃ g,f = g + 1:=⟨f - 1,by omega⟩
 simp only [partsV,h,Option.bind_some,Nat.add_sub_cancel]
 cases betwV r1 <;> rfl
theorem comp_beg {L:Inner} {ts:List Bt} {b:Nat} (h:begC (at' ts b) = false):compV L (ts.drop b) = none:=by
 have hk:isSg (at' ts b) 42 = false ∧ ¬ (at' ts b).kind = 1 ∧ begU (at' ts b) = false:=by
  unfold begC at h
  simp only [Bool.or_eq_false_iff,decide_eq_false_iff_not] at h
  exact ⟨h.1.2,h.1.1,h.2⟩
 have ht:=tag_at ts b
 rw [if_neg (by simp [hk.1]),if_neg hk.2.1] at ht
 exact comp_no (b0:=b) (b:=b) (by rw [ht]) (by rw [ht]) (units_no (by omega) hk.2.2) (by omega)
theorem comb_is (t:Bt):combO t = if combV t = 0 then none else some (combV t):=by
 unfold combO combV isSg
 by_cases h1:t.kind = 10 ∧ t.c = 62
 ·simp [h1]
 ·by_cases h2:t.kind = 10 ∧ t.c = 43
  ·simp [h2]
  ·by_cases h3:t.kind = 10 ∧ t.c = 126
   ·simp [h3]
   ·simp [h1,h2,h3]
def SeV (L:Inner) (ts:List Bt) (a:Nat) (U:Option (Sel × List Bt)) (comb:Int) (pre:Sel) (b:Nat):Prop:=
 a ≤ b ∧ b ≤ ts.length ∧ pre.length ≤ b ∧ ((∃ f,(ts.drop b).length < f ∧ partsV L f comb pre (ts.drop b) = U) ∨ (begC (at' ts b) = false ∧ Fail U))
theorem SeV.none {L:Inner} {ts:List Bt} {a:Nat} {U:Option (Sel × List Bt)} {comb:Int} {pre:Sel} {b:Nat} (h:SeV L ts a U comb pre b) (hc:compV L (ts.drop b) = Option.none):Fail U:=by
 rcases h.2.2.2 with ⟨f,hf,hU⟩ | ⟨_,hU⟩
 ·exact .inl (by rw [← hU,parts_none hf hc])
 ·exact hU
theorem SeV.some {L:Inner} {ts:List Bt} {a:Nat} {U:Option (Sel × List Bt)} {comb:Int} {pre:Sel} {b:Nat} (h:SeV L ts a U comb pre b) {c:Cp} {b1:Nat} (hc:compV L (ts.drop b) = Option.some (c,ts.drop b1)):∃ f,(ts.drop b).length < f ∧ U = match betwV (ts.drop b1) with
  | Option.some y => partsV L (f - 1) y.1 (pre ++ [(comb,c)]) y.2
  | Option.none => Option.some (pre ++ [(comb,c)],dropW (ts.drop b1)):=by
 rcases h.2.2.2 with ⟨f,hf,hU⟩ | ⟨hb,_⟩
 ·exact ⟨f,hf,by rw [← hU,parts_some hf hc]⟩
 ·rw [comp_beg hb] at hc
  cases hc
theorem betw_at {ts:List Bt} {b1 b2:Nat} (hd:ts.drop b2 = dropW (ts.drop b1)) (h12:b1 ≤ b2) (hb2:b2 ≤ ts.length):betwV (ts.drop b1) = if ts.length ≤ b2 then none else if combV (at' ts b2) = 0 then (if b1 < b2 ∧ begC (at' ts b2) = true then some (1,ts.drop b2) else none) else some (combV (at' ts b2),dropW (ts.drop (b2 + 1))):=by
 unfold betwV
 have hlen:(dropW (ts.drop b1)).length < (ts.drop b1).length ↔ b1 < b2:=by rw [← hd,List.length_drop,List.length_drop];omega
 rw [← hd] at hlen ⊢
 by_cases hl:b2 < ts.length
 ·rw [if_neg (by omega)]
  have hc:=at_cons hl
  rw [hc] at hlen ⊢
  simp only [comb_is]
  by_cases h0:combV (at' ts b2) = 0
  ·simp only [h0,if_true]
   by_cases h1:b1 < b2 ∧ begC (at' ts b2) = true
   ·rw [if_pos h1,if_pos ⟨hlen.2 h1.1,h1.2⟩]
   ·rw [if_neg h1,if_neg (fun h => h1 ⟨hlen.1 h.1,h.2⟩)]
  ·simp only [h0,if_false]
 ·rw [if_pos (by omega),(at_none (ts:=ts) (a:=b2) (by omega)).1]
end Go.Proofs.YtcmmdojlhfmddaaGreat.Sr

/- The document's own reader of selectors: one selector (selector), at every place. -/
set_option maxRecDepth 100000
namespace Go.Proofs.YtcmmdojlhfmddaaGreat.Sr
open Go.Proofs.YtcmmdojlhfmddaaGreat.Tre
open Go Go.RowKit Sl
def Mid (L:Inner) (ts:List Bt) (U:Option (Sel × List Bt)) (s:Sel) (b b1 b2:Nat):Prop:=
 b1 ≤ b2 ∧ b2 ≤ ts.length ∧ ts.drop b2 = dropW (ts.drop b1) ∧
  ((b < b1 ∧ ∃ f,(ts.drop b).length < f ∧ U = match betwV (ts.drop b1) with
   | some y => partsV L (f - 1) y.1 s y.2
   | none => some (s,dropW (ts.drop b1))) ∨ (Fail U ∧ b2 = b1 ∧ isSg (at' ts b1) 46 = true))
theorem Mid.comb {L:Inner} {ts:List Bt} {a:Nat} {U:Option (Sel × List Bt)} {s:Sel} {b b1 b2 b3:Nat} (h:Mid L ts U s b b1 b2) (hc:0 < combV (at' ts b2)) (hd:ts.drop b3 = dropW (ts.drop (b2 + 1))) (hb3:b3 ≤ ts.length) (h23:b2 + 1 ≤ b3) (hab:a ≤ b) (hs:s.length ≤ b2 + 1):SeV L ts a U (combV (at' ts b2)) s b3 ∧ b < b3:=by
 obtain ⟨h1,h2,h3,h4⟩:=h
 have hl:b2 < ts.length:=by
  by_cases hl:b2 < ts.length
  ·exact hl
  ·rw [(at_none (ts:=ts) (a:=b2) (by omega)).2] at hc
   exact absurd hc (by decide)
 rcases h4 with ⟨h5,f,hf,hU⟩ | ⟨_,rfl,h6⟩
 ·refine ⟨⟨by omega,hb3,by omega,.inl ⟨f - 1,?_,?_⟩⟩,by omega⟩
  ·rw [List.length_drop] at hf ⊢;omega
  ·rw [betw_at h3 h1 h2,if_neg (by omega),if_neg (by omega)] at hU
   rw [hU,hd]
 ·have hk:(at' ts b2).kind = 10 ∧ (at' ts b2).c = 46:=by simpa [isSg] using h6
  unfold combV at hc
  simp [hk.1,hk.2] at hc
theorem Mid.ends {L:Inner} {ts:List Bt} {U:Option (Sel × List Bt)} {s:Sel} {b b1 b2:Nat} (h:Mid L ts U s b b1 b2) (hc:combV (at' ts b2) = 0) (he:endsV ts b2 = true):U = some (s,ts.drop b2) ∧ b < b2 ∧ b2 ≤ ts.length:=by
 obtain ⟨h1,h2,h3,h4⟩:=h
 have he':ts.length ≤ b2 ∨ (at' ts b2).kind = 13 ∨ (at' ts b2).kind = 17:=by simpa [endsV] using he
 rcases h4 with ⟨h5,f,hf,hU⟩ | ⟨_,rfl,h6⟩
 ·refine ⟨?_,by omega,h2⟩
  rw [betw_at h3 h1 h2] at hU
  by_cases hl:ts.length ≤ b2
  ·rw [if_pos hl] at hU
   rw [hU,h3]
  ·have hnb:begC (at' ts b2) = false:=by
    unfold begC begU isSg
    rcases he' with h | h | h
    ·omega
    ·simp [h]
    ·simp [h]
   rw [if_neg hl,if_pos hc,if_neg (by simp [hnb])] at hU
   rw [hU,h3]
 ·have hk:(at' ts b2).kind = 10 ∧ (at' ts b2).c = 46:=by simpa [isSg] using h6
  have:b2 < ts.length:=at_lt (by rw [hk.1];decide)
  omega
theorem Mid.fail {L:Inner} {ts:List Bt} {U:Option (Sel × List Bt)} {s:Sel} {b b1 b2:Nat} (h:Mid L ts U s b b1 b2) (hc:combV (at' ts b2) = 0) (he:endsV ts b2 = false) (hnb:¬ b1 < b2):Fail U:=by
 obtain ⟨h1,h2,h3,h4⟩:=h
 have he':¬ (ts.length ≤ b2 ∨ (at' ts b2).kind = 13 ∨ (at' ts b2).kind = 17):=by simpa [endsV] using he
 rcases h4 with ⟨h5,f,hf,hU⟩ | ⟨h6,_⟩
 ·rw [betw_at h3 h1 h2,if_neg (by omega),if_pos hc,if_neg (fun h => hnb h.1)] at hU
  refine .inr ⟨s,at' ts b2,ts.drop (b2 + 1),?_,by omega⟩
  rw [hU,← h3,at_cons (by omega)]
 ·exact h6
theorem Mid.on {L:Inner} {ts:List Bt} {a:Nat} {U:Option (Sel × List Bt)} {s:Sel} {b b1 b2:Nat} (h:Mid L ts U s b b1 b2) (hc:combV (at' ts b2) = 0) (he:endsV ts b2 = false) (hb:b1 < b2) (hab:a ≤ b) (hs:s.length ≤ b2):SeV L ts a U 1 s b2 ∧ b < b2:=by
 obtain ⟨h1,h2,h3,h4⟩:=h
 have he':¬ (ts.length ≤ b2 ∨ (at' ts b2).kind = 13 ∨ (at' ts b2).kind = 17):=by simpa [endsV] using he
 rcases h4 with ⟨h5,f,hf,hU⟩ | ⟨_,rfl,_⟩
 ·rw [betw_at h3 h1 h2,if_neg (by omega),if_pos hc] at hU
  by_cases hg:begC (at' ts b2) = true
  ·rw [if_pos ⟨hb,hg⟩] at hU
   refine ⟨⟨by omega,h2,hs,.inl ⟨f - 1,?_,hU.symm⟩⟩,by omega⟩
   rw [List.length_drop] at hf ⊢;omega
  ·rw [if_neg (fun h => hg h.2)] at hU
   refine ⟨⟨by omega,h2,hs,.inr ⟨by simpa using hg,.inr ⟨s,at' ts b2,ts.drop (b2 + 1),?_,by omega⟩⟩⟩,by omega⟩
   rw [hU,← h3,at_cons (by omega)]
 ·omega
theorem Mid.mk' {L:Inner} {ts:List Bt} {a:Nat} {U:Option (Sel × List Bt)} {comb:Int} {pre:Sel} {b b1 b2:Nat} {c:Cp} (h:SeV L ts a U comb pre b) (h12:b1 ≤ b2) (hb1:b1 ≤ ts.length) (hb2:b2 ≤ ts.length ∨ b2 = b1) (hd:ts.drop b2 = dropW (ts.drop b1)) (hv:(compV L (ts.drop b) = some (c,ts.drop b1)) ∨ (compV L (ts.drop b) = none ∧ isSg (at' ts b1) 46 = true)):Mid L ts U (pre ++ [(comb,c)]) b b1 b2:=by
 refine ⟨h12,by omega,hd,?_⟩
 rcases hv with hv | ⟨hv,hs⟩
 ·obtain ⟨f,hf,hU⟩:=h.some hv
  have:=compV_lt hv
  rw [List.length_drop,List.length_drop] at this
  exact .inl ⟨by omega,f,hf,hU⟩
 ·refine .inr ⟨h.none hv,?_,hs⟩
  have hk:(at' ts b1).kind = 10 ∧ (at' ts b1).c = 46:=by simpa [isSg] using hs
  have hl:b1 < ts.length:=at_lt (by rw [hk.1];decide)
  have h0:dropW (ts.drop b1) = ts.drop b1:=by
   rw [at_cons hl]
   unfold dropW
   rw [List.dropWhile_cons,if_neg (by simp [hk.1])]
  rw [h0] at hd
  have:=congrArg List.length hd
  rw [List.length_drop,List.length_drop] at this
  omega
set_option maxHeartbeats 4000000 in
theorem selector_any (n₀ R:Nat) (v:Value) (ts:List Bt) (a d:Nat) (w:World) (hP:Pk n₀ w R v ts a false (8 - (d:Int))) (ha:a ≤ ts.length) (hG:Sl.Good ts) (hI:InOK n₀ d) :
  Calls Tryz.prog 48 #[.pointer (some ⟨R,0,none⟩)] w (SelOut n₀ R v ts d w a (partsV (innerV d) ((ts.drop a).length + 1) 0 [] (ts.drop a))):=by
 have hlm:=hP.most
 have hR:=hP.lt
 obtain ⟨W2,hW2⟩:∃ W2,(w.alloc (.cells #[nilS] 117)).alloc (.cells #[nilS] 117) = W2:=⟨_,rfl⟩
 have b0:Below w.heap.size w W2:=by rw [← hW2];exact ((Below.refl _ w).alloc (Nat.le_refl _) _).alloc (by rw [World.size_alloc];omega) _
 have kZ:Blk W2 w.heap.size 117 [nilS]:=by rw [← hW2];exact (Blk.new w 117 _).kept (World.grownBy_alloc _ _ none) (by simp)
 have kQ:Blk W2 (w.heap.size + 1) 117 [nilS]:=by
  have:=Blk.new (w.alloc (.cells #[nilS] 117)) 117 [nilS]
  rw [World.size_alloc] at this
  rw [← hW2]
  exact this
 have S0:SeSt n₀ R v ts d w [] nilS a false W2:=⟨kZ,kQ,UndRow.nil _ _ _ _ _ _,hP.below b0,But.of_below b0,hR⟩
 clear b0 kZ kQ hP
 have HG:Hid (Sl.Good ts):=hG
 have HI:Hid (InOK n₀ d):=hI
 clear hG hI
 obtain ⟨U,hU⟩:∃ U,partsV (innerV d) ((ts.drop a).length + 1) 0 [] (ts.drop a) = U:=⟨_,rfl⟩
 rw [hU]
 have hV0:SeV (innerV d) ts a U 0 [] a:=⟨Nat.le_refl _,ha,Nat.zero_le _,.inl ⟨_,Nat.lt_succ_self _,hU⟩⟩
 clear hU
 go_enter Tryz.func48,Tryz.ntmps48
 go_wp2_with fail
 clear hW2
 go_loopw [4] (fun x wr => ∃ (comb:Int) (s:Sel) (y:Value) (b:Nat),x = .int .i64 comb ∧ SeSt n₀ R v ts d w s y b false wr ∧ SeV (innerV d) ts a U comb s b) (fun _ wr => (ts.length + 20) - placeOf wr R)
 case atStart => exact ⟨0,[],nilS,a,rfl,S0,hV0⟩
 case round =>
  clear S0 hV0
  obtain ⟨comb,s,y,b,rfl,S,HC⟩:=hrel
  obtain ⟨qy,cy,rfl⟩:=S.r.form
  have hpl:=S.pk.place
  have hbt:b ≤ ts.length:=HC.2.1
  have hsb:s.length ≤ b:=HC.2.2.1
  have hab:a ≤ b:=HC.1
  obtain ⟨⟨p0,p1,p2,p3⟩,q0,q1,q2,q3⟩:=blk4 S.pk.blk
  have h1:=compound_any n₀ R v ts b d wr S.pk hbt HG HI
  go_upto_region 4 with fail
  clear p0 p1 p2 p3 q0 q1 q2 q3
  go_wp2_with fail
  refine h1.mono ?_
  clear h1
  rintro e w2 ⟨c,i,k,a',p,b1,bad,rfl,hcp,hP2,hbb,hres,hb2⟩
  have hmQ:w.heap.size + 1 < wr.heap.size:=S.q.lt
  have hmy:Hid (∀ g,(Value.slice qy s.length cy).ownBlock = some g → g < wr.heap.size):=fun g hg => (S.r.lt hg).2
  replace S:=S.go hP2 hb2
  clear hb2
  obtain ⟨qi,mi,ci,rfl⟩:∃ q m c,i = .slice q m c:=by obtain ⟨_,_,_,_,e,h1,h2,h3,h4⟩:=hcp;cases e;obtain ⟨q,c,h,_⟩:=FinRow.form h1;exact ⟨_,_,_,h⟩
  obtain ⟨qk,mk,ck,rfl⟩:∃ q m c,k = .slice q m c:=by obtain ⟨_,_,_,_,e,h1,h2,h3,h4⟩:=hcp;cases e;obtain ⟨q,c,h,_⟩:=FinRow.form h2;exact ⟨_,_,_,h⟩
  obtain ⟨qa,ma,ca,rfl⟩:∃ q m c,a' = .slice q m c:=by obtain ⟨_,_,_,_,e,h1,h2,h3,h4⟩:=hcp;cases e;obtain ⟨q,c,h,_⟩:=FinRow.form h3;exact ⟨_,_,_,h⟩
  obtain ⟨qp,mp,cp,rfl⟩:∃ q m c,p = .slice q m c:=by obtain ⟨_,_,_,_,e,h1,h2,h3,h4⟩:=hcp;cases e;obtain ⟨q,c,h,_⟩:=FinRow.form h4;exact ⟨_,_,_,h⟩
  have bA:Below w2.heap.size w2 (w2.alloc (.cells #[.string c.tag,.slice qi mi ci,.slice qk mk ck,.slice qa ma ca,.slice qp mp cp] 140)):=(Below.refl _ _).alloc (Nat.le_refl _) _
  have kA:Blk (w2.alloc (.cells #[.string c.tag,.slice qi mi ci,.slice qk mk ck,.slice qa ma ca,.slice qp mp cp] 140)) w2.heap.size 140 [.string c.tag,.slice qi mi ci,.slice qk mk ck,.slice qa ma ca,.slice qp mp cp]:=Blk.new w2 140 _
  replace S:=S.below bA
  have fA:Fr (fun b => wr.heap.size ≤ b) (fun b => wr.heap.size ≤ b) w2 _:=Fr.of_below bA (fun b hb _ => hb)
  replace hcp:=hcp.fr fA (fun _ _ hq => SelsAt.fr d hq fA)
  clear bA fA hP2
  go_upto_region 5 with fail
  generalize w2.alloc (.cells #[.string c.tag,.slice qi mi ci,.slice qk mk ck,.slice qa ma ca,.slice qp mp cp] 140) = w3 at *
  obtain ⟨css,r1,r2,r3,r4⟩:=S.r
  obtain ⟨i0,hi,hz0,hz1,hz2⟩:=info_parts infoPt3
  obtain ⟨⟨x0,x1,x2,x3,x4⟩,_⟩:=blk5 kA
  obtain ⟨y0,e0⟩:=blk1 S.q
  have bE:Below w3.heap.size w3 (w3.alloc (.cells #[.int .i64 comb,.string c.tag,.slice qi mi ci,.slice qk mk ck,.slice qa ma ca,.slice qp mp cp] 143)):=(Below.refl _ _).alloc (Nat.le_refl _) _
  have fE:Fr (fun b => wr.heap.size ≤ b) (fun b => wr.heap.size ≤ b) w3 _:=Fr.of_below bE (fun b hb _ => hb)
  have hcpE:=hcp.fr fE (fun _ _ hq => SelsAt.fr d hq fE)
  have hR4:(w3.alloc (.cells #[.int .i64 comb,.string c.tag,.slice qi mi ci,.slice qk mk ck,.slice qa ma ca,.slice qp mp cp] 143)).ownsRow (w.heap.size + 1) 143 6 (.slice qy s.length cy) s.length css.flatten:=owns_same r1 (fun g hg => bE.block g (owns_lt r1 hg).2)
  have H1:∀ u ∈ ([.int .i64 comb,.string c.tag,.slice qi mi ci,.slice qk mk ck,.slice qa ma ca,.slice qp mp cp]:List Value),u.oneCell' = true:=fun u hu => by simp at hu;rcases hu with rfl | rfl | rfl | rfl | rfl | rfl <;> rfl
  have m1:s.length + 1 ≤ maxLen:=by unfold maxLen;omega
  have m2:(s.length + 1) * 120 ≤ 140737488355328:=by omega
  have hSZ:w.heap.size + 1 ≤ (w3.alloc (.cells #[.int .i64 comb,.string c.tag,.slice qi mi ci,.slice qk mk ck,.slice qa ma ca,.slice qp mp cp] 143)).heap.size:=by rw [World.size_alloc];have:=S.q.lt;omega
  have HB7:Hid (∀ w7,(w3.alloc (.cells #[.int .i64 comb,.string c.tag,.slice qi mi ci,.slice qk mk ck,.slice qa ma ca,.slice qp mp cp] 143)).grownBy w7 (Value.slice qy s.length cy).ownBlock → Blk w7 (w.heap.size + 1) 117 [.slice qy s.length cy]):=fun w7 hg => (S.below bE).q.kept hg (fun e => (S.below bE).r.off (S.below bE).q (by decide) e.symm)
  have HF:Hid (∀ (w7:World) (g7 c7:Nat),w7.ownsRow (w.heap.size + 1) 143 6 (.slice (some ⟨g7,0,none⟩) (s.length + 1) c7) (s.length + 1) (css.flatten ++ [.int .i64 comb,.string c.tag,.slice qi mi ci,.slice qk mk ck,.slice qa ma ca,.slice qp mp cp]) → (w3.alloc (.cells #[.int .i64 comb,.string c.tag,.slice qi mi ci,.slice qk mk ck,.slice qa ma ca,.slice qp mp cp] 143)).grownBy w7 (Value.slice qy s.length cy).ownBlock → ((Value.slice qy s.length cy).ownBlock = some g7 ∨ g7 = (w3.alloc (.cells #[.int .i64 comb,.string c.tag,.slice qi mi ci,.slice qk mk ck,.slice qa ma ca,.slice qp mp cp] 143)).heap.size) → SeSt n₀ R v ts d w (s ++ [(comb,c)]) (.slice (some ⟨g7,0,none⟩) (s.length + 1) c7) b1 bad (w7.setCell ⟨w.heap.size + 1,0,none⟩ (.slice (some ⟨g7,0,none⟩) (s.length + 1) c7))):=fun w7 g7 c7 hown hg hat =>
   S.push bE r2 r3 r4 (cells:=[.string c.tag,.slice qi mi ci,.slice qk mk ck,.slice qa ma ca,.slice qp mp cp]) rfl hcpE hmQ hmy hown hg (fun g hg' => by rw [slot_own hg'];exact hat.imp id (fun h => by rw [h];exact Nat.le_refl _))
  clear S bE fE r1 r2 r3 r4 kA hcp hcpE
  go_upto_region 6 with (at_builtin;refine wpList_append_lies (w3.alloc (.cells #[.int .i64 comb,.string c.tag,.slice qi mi ci,.slice qk mk ck,.slice qa ma ca,.slice qp mp cp] 143)) rfl _ _ 115 rfl (w.heap.size + 1) 143 i0 (.agg #[.int .i64 0,.string ⟨#[]⟩,.slice none 0 0,.slice none 0 0,.slice none 0 0,.slice none 0 0]) 6 120 Tryz.underlying115 hi hz0 hz1 hz2 rfl (by decide) (.slice qy s.length cy) _ _ rfl hR4 ⟨w3.heap.size,0,none⟩ 1 1 [.int .i64 comb,.string c.tag,.slice qi mi ci,.slice qk mk ck,.slice qa ma ca,.slice qp mp cp] rfl rfl (cells_plain w3 [.int .i64 comb,.string c.tag,.slice qi mi ci,.slice qk mk ck,.slice qa ma ca,.slice qp mp cp] 143) H1 (by decide) m1 m2 hSZ _ rfl ?_;intro g7 c7 w7 hown7 hgrow7 hat7 hlt7;obtain ⟨y0,e0⟩:=blk1 ((show ∀ w7,_ → _ from HB7) w7 hgrow7))
  have S7:=(show ∀ (w7:World) (g7 c7:Nat),_ → _ → _ → _ from HF) _ _ _ hown7 hgrow7 hat7
  clear HF HB7 hown7 hgrow7 hat7 hlt7 y0 e0 hR4 H1 m1 m2 hSZ hi hz0 hz1 hz2 x0 x1 x2 x3 x4
  generalize World.setCell w7 ⟨w.heap.size + 1,0,none⟩ _ = W8 at *
  have hb1t:=S7.pk.least
  obtain ⟨⟨p0,p1,p2,p3⟩,q0,q1,q2,q3⟩:=blk4 S7.pk.blk
  cases bad with
  | true =>
   have HF:Fail U:=by
    rcases hres with ⟨h,_⟩ | ⟨h,_⟩
    ·cases h
    ·exact HC.none h
   obtain ⟨z0,f0⟩:=blk1 S7.z
   obtain ⟨y0,e0⟩:=blk1 S7.q
   obtain ⟨hL,hO⟩:=S7.out (a:=a) (by omega) (.inr ⟨rfl,HF⟩)
   clear hres HC HF HI HG
   go_wp2
   exact bodyPost_ret (results_struct rfl _ _ w.heap.size _ rfl hL) rfl hO
  | false =>
   have hv:((compV (innerV d) (ts.drop b) = some (c,ts.drop b1)) ∨ (compV (innerV d) (ts.drop b) = none ∧ isSg (at' ts b1) 46 = true)) ∧ b1 ≤ ts.length:=by
    rcases hres with ⟨_,h1,h2⟩ | ⟨h1,h2 | ⟨_,h2⟩⟩
    ·exact ⟨.inl h1,h2⟩
    ·cases h2
    ·exact ⟨.inr ⟨h1,h2⟩,Nat.le_of_lt (at_lt (fun e => by simp [isSg,e] at h2))⟩
   have h1:=white_any n₀ R v ts b1 false (8 - (d:Int)) W8 S7.pk
   clear hres
   go_upto_region 8 with fail
   clear p0 p1 p2 p3 q0 q1 q2 q3
   go_wp2_with fail
   refine h1.mono ?_
   clear h1
   rintro e w9 ⟨b2,rfl,h12,hb2,hdb,hP9,hbut9⟩
   replace S7:=S7.go hP9 hbut9
   have HM:Mid (innerV d) ts U (s ++ [(comb,c)]) b b1 b2:=Mid.mk' HC h12 hv.2 hb2 hdb hv.1
   have hb2t:b2 ≤ ts.length:=by omega
   have hsl:(s ++ [(comb,c)]).length ≤ b2 + 1:=by rw [List.length_append,List.length_singleton];omega
   clear hv hb2 hdb hP9 hbut9 HC
   have h2:=comb_any n₀ R v ts b2 false (8 - (d:Int)) w9 S7.pk
   obtain ⟨cb,hcb⟩:∃ cb,combV (at' ts b2) = cb:=⟨_,rfl⟩
   rw [hcb] at h2
   have hcb0:0 ≤ cb ∧ cb ≤ 4:=by rw [← hcb];unfold combV;split;decide;split;decide;split <;> decide
   go_wp2_with fail
   refine h2.mono ?_
   clear h2
   rintro e w10 ⟨rfl,b10⟩
   replace S7:=S7.below b10
   clear b10
   by_cases g0:0 < cb
   ·obtain ⟨⟨p0,p1,p2,p3⟩,q0,q1,q2,q3⟩:=blk4 S7.pk.blk
    have hw1:IntKind.i64.wrap ((b2:Int) + 1) = (b2:Int) + 1:=by rw [IntKind.wrap_i64];omega
    have S8:=S7.at (b':=b2 + 1) (by omega)
    rw [show ((b2 + 1:Nat):Int) = (b2:Int) + 1 by omega] at S8
    have hlt2:b2 < ts.length:=by
     by_cases hl:b2 < ts.length
     ·exact hl
     ·rw [(at_none (ts:=ts) (a:=b2) (by omega)).2] at hcb
      rw [← hcb] at g0
      exact absurd g0 (by decide)
    clear S7
    go_upto_region 12 with fail
    clear p0 p1 p2 p3 q0 q1 q2 q3
    generalize World.setCell w10 ⟨R,1,none⟩ _ = W11 at *
    have h3:=white_any n₀ R v ts (b2 + 1) false (8 - (d:Int)) W11 S8.pk
    go_wp2_with fail
    refine h3.mono ?_
    clear h3
    rintro e w12 ⟨b3,rfl,h23,hb3,hd3,hP12,hbut12⟩
    have S9:=S8.go hP12 hbut12
    obtain ⟨HC',hlt⟩:=HM.comb (a:=a) (by rw [hcb];exact g0) hd3 (by omega) h23 hab hsl
    rw [hcb] at HC'
    have hms:ts.length + 20 - placeOf w12 R < ts.length + 20 - placeOf wr R:=by rw [S9.pk.place,hpl];omega
    clear S8 HM hd3 hP12 hbut12 hcb
    go_wp2
    exact ⟨⟨cb,_,_,b3,rfl,S9,HC'⟩,hms⟩
   ·obtain rfl:0 = cb:=by omega
    clear g0 hcb0
    have h3:=ends_any n₀ R v ts b2 false (8 - (d:Int)) w10 S7.pk
    go_upto_region 13 with fail
    go_wp2_with fail
    refine h3.mono ?_
    clear h3
    rintro e w11 ⟨rfl,b11⟩
    replace S7:=S7.below b11
    clear b11
    cases hE:endsV ts b2 with
    | true =>
     obtain ⟨hU,hlt,hle⟩:=HM.ends hcb hE
     obtain ⟨z0,f0⟩:=blk1 S7.z
     obtain ⟨y0,e0⟩:=blk1 S7.q
     obtain ⟨hL,hO⟩:=S7.out (a:=a) (U:=U) (by omega) (.inl ⟨rfl,hU,hE,hle,by omega⟩)
     clear HM HI HG hU hE hcb
     go_wp2
     exact bodyPost_ret (results_struct rfl _ _ w.heap.size _ rfl hL) rfl hO
    | false =>
     by_cases hbk:b1 < b2
     ·obtain ⟨HC',hlt⟩:=HM.on (a:=a) hcb hE hbk hab (by rw [List.length_append,List.length_singleton];omega)
      have hms:ts.length + 20 - placeOf w11 R < ts.length + 20 - placeOf wr R:=by rw [S7.pk.place,hpl];omega
      have hbk':decide (b1 < b2) = true:=decide_eq_true hbk
      clear HM HI HG hE hcb hbk
      go_wp2
      exact ⟨⟨1,_,_,b2,rfl,S7,HC'⟩,hms⟩
     ·have HF:Fail U:=HM.fail hcb hE hbk
      have hbk':decide (b1 < b2) = false:=decide_eq_false hbk
      obtain ⟨⟨p0,p1,p2,p3⟩,q0,q1,q2,q3⟩:=blk4 S7.pk.blk
      have S8:=S7.spoil true
      clear HM HI HG hE hcb hbk S7
      go_upto_region 18 with fail
      clear p0 p1 p2 p3 q0 q1 q2 q3
      generalize World.setCell w11 ⟨R,2,none⟩ _ = W12 at *
      obtain ⟨z0,f0⟩:=blk1 S8.z
      obtain ⟨y0,e0⟩:=blk1 S8.q
      obtain ⟨hL,hO⟩:=S8.out (a:=a) (U:=U) (by omega) (.inr ⟨rfl,HF⟩)
      clear HF
      go_wp2
      exact bodyPost_ret (results_struct rfl _ _ w.heap.size _ rfl hL) rfl hO
end Go.Proofs.YtcmmdojlhfmddaaGreat.Sr

/- The document's own reader of selectors: lists (list), and Selectors, at every slice of tokens. -/
set_option maxRecDepth 100000
namespace Go.Proofs.YtcmmdojlhfmddaaGreat.Sr
open Go.Proofs.YtcmmdojlhfmddaaGreat.Tre
open Go Go.RowKit Sl
theorem infoSe3:(Tryz.prog.info? 117).map (fun i => (i.zero,i.size,i.bytes)) = some (some (.agg #[.slice none 0 0]),1,24):=by kernel_rfl
def SlTd (d:Nat) (P:Nat → Prop) (W:World) (c:List Value) (s:Sel):Prop:=SlT (SelsAt d P W) P W c s
theorem slT_stays (d:Nat):Stays (SlTd d):=fun _ _ _ _ _ _ ⟨x,e,h⟩ f => ⟨x,e,PtsF.fr h f (fun _ _ hq => SelsAt.fr d hq f)⟩
def OffL (n:Nat) (y:Value) (b:Nat):Prop:=n ≤ b ∧ y.ownBlock ≠ some b
structure LiSt (n₀ R:Nat) (v:Value) (ts:List Bt) (d:Nat) (w:World) (l:List Sel) (y:Value) (b:Nat) (bad:Bool) (W:World):Prop where
 r:UndRow 117 1 (SlTd d) w.heap.size (OffL w.heap.size y) W y l
 pk:Pk n₀ W R v ts b bad (8 - (d:Int))
 but:But R w W
 hR:R < w.heap.size
section
variable {n₀ R:Nat} {v:Value} {ts:List Bt} {d:Nat} {w:World} {l:List Sel} {y:Value} {b:Nat} {bad:Bool} {W W':World}
theorem LiSt.go (h:LiSt n₀ R v ts d w l y b bad W) {b':Nat} {bad':Bool} (hP:Pk n₀ W' R v ts b' bad' (8 - (d:Int))) (hb:But R W W'):LiSt n₀ R v ts d w l y b' bad' W':=by
 have h1:=h.hR
 exact ⟨h.r.kept (slT_stays d) (Fr.of_kept hb (fun b hb _ => ⟨by have:=hb.1;omega,hb⟩)) (fun g hg => hb.block g (h.r.lt hg).2 (by have:=(h.r.lt hg).1;omega)),hP,h.but.trans hb,h.hR⟩
theorem LiSt.below (h:LiSt n₀ R v ts d w l y b bad W) (hb:Below W.heap.size W W'):LiSt n₀ R v ts d w l y b bad W':=h.go (h.pk.below hb) (But.of_below hb)
theorem LiSt.at (h:LiSt n₀ R v ts d w l y b bad W) {b':Nat} (hb:b' ≤ ts.length + 10):LiSt n₀ R v ts d w l y b' bad (W.setCell ⟨R,1,none⟩ (.int .i64 b')):=h.go (h.pk.set hb) (But.set R W 1 _)
theorem LiSt.spoil (h:LiSt n₀ R v ts d w l y b bad W) (q:Bool):LiSt n₀ R v ts d w l y b q (W.setCell ⟨R,2,none⟩ (.bool q)):=h.go (h.pk.spoil q) (But.set R W 2 _)
theorem LiSt.push (h:LiSt n₀ R v ts d w l y b bad W) {X Y:World} (hX:Below W.heap.size W X) {css:List (List Value)} (h2:css.length = l.length) (h3:∀ c ∈ css,c.length = 1) (h4:∀ (j:Nat) (c:List Value) (x:Sel),css[j]? = some c → l[j]? = some x → SlTd d (OffL w.heap.size y) W c x)
  {s:Sel} {z:Value} {m:Nat} (hc:PtsF (SelsAt d (fun b => m ≤ b) X) (fun b => m ≤ b) X z s) (hm:w.heap.size ≤ m) (hmy:∀ g,y.ownBlock = some g → g < m)
  {v':Value} (hr:Y.ownsRow w.heap.size 117 1 v' (l.length + 1) (css.flatten ++ [z])) (hg:X.grownBy Y y.ownBlock) (hat:∀ g,v'.ownBlock = some g → y.ownBlock = some g ∨ X.heap.size ≤ g) :
  LiSt n₀ R v ts d w (l ++ [s]) v' b bad Y:=by
 have h1:=h.hR
 have hS:=h.below hX
 have hlow:=h.pk.low
 have keep:∀ b,b < X.heap.size → y.ownBlock ≠ some b → Y.heap[b]? = X.heap[b]?:=fun b hb h2 => hg.block b hb (fun e => h2 e.symm)
 have f:Fr (OffL w.heap.size y) (OffL w.heap.size v') X Y:=⟨hg.size,fun b hb hl => ⟨keep b hl.lt hb.2,hb.1,fun e => (hat b e).elim hb.2 (fun h => by have:=hl.lt;omega)⟩⟩
 have f2:Fr (fun b => m ≤ b) (OffL w.heap.size v') X Y:=⟨hg.size,fun b hb hl => by
  have hne:y.ownBlock ≠ some b:=fun e => by have:=hmy b e;omega
  exact ⟨keep b hl.lt hne,by omega,fun e => (hat b e).elim hne (fun h => by have:=hl.lt;omega)⟩⟩
 have f0:Fr (OffL w.heap.size y) (OffL w.heap.size y) W X:=Fr.of_below hX (fun b hb _ => hb)
 have kY:Kept (fun b => b < w.heap.size) X Y:=Kept.of_grown hg (fun g e hlt => by have:=(hS.r.lt e).1;omega)
 refine ⟨und_push (slT_stays d) h2 h3 (fun j c x hj hx => slT_stays d _ _ _ _ _ _ (h4 j c x hj hx) f0) rfl ⟨z,rfl,PtsF.fr hc f2 (fun _ _ hq => SelsAt.fr d hq f2)⟩ f hr,⟨kY.blk hS.pk.blk (by omega),hS.pk.toks.below (kY.below (Nat.le_trans hS.pk.low (Nat.le_of_lt hS.pk.lt)) (fun b hb => by omega)),hS.pk.low,hS.pk.least,hS.pk.most⟩,?_,h1⟩
 exact ⟨kY.os.trans hS.but.os,kY.tape.trans hS.but.tape,kY.output.trans hS.but.output,Nat.le_trans hS.but.size kY.size,fun j hj hne => (kY.block j (Nat.lt_of_lt_of_le hj hS.but.size) hj).trans (hS.but.block j hj hne)⟩
theorem LiSt.done (h:LiSt n₀ R v ts d w l y b bad W):SelsAt (d + 1) (fun b => w.heap.size ≤ b) W y l:=h.r.done (P':=fun b => w.heap.size ≤ b) (by decide) (slT_stays d) (fun b hb => hb.1) (fun g hg => (h.r.lt hg).1)
end
def badOf (W:World) (R:Nat):Nat:=match W.cell? ⟨R,2,none⟩ with
 | some (.bool true) => 0
 | _ => 1
theorem Pk.badIs {n₀:Nat} {W:World} {R:Nat} {v:Value} {ts:List Bt} {a:Nat} {bad:Bool} {deep:Int} (h:Pk n₀ W R v ts a bad deep):badOf W R = if bad then 0 else 1:=by
 unfold badOf
 rw [(blk4 h.blk).1.2.2.1]
 cases bad <;> rfl
/-! ### the plain side -/
def LiV (d:Nat) (ts:List Bt) (a:Nat) (l:List Sel) (b:Nat) (bad:Bool):Prop:=
 a ≤ b ∧ (bad = true → listX d (ts.drop a) = none) ∧ (bad = false → b ≤ ts.length ∧ l.length ≤ b ∧ ∃ f,(ts.drop b).length < f ∧ listF (innerV d) f l (ts.drop b) = listV d (ts.drop a))
theorem sel_at {L:Inner} {ts:List Bt} {b b0:Nat} (hd:ts.drop b0 = dropW (ts.drop b)):selV L (ts.drop b) = partsV L ((ts.drop b0).length + 1) 0 [] (ts.drop b0):=by
 unfold selV
 rw [← hd]
 have:=dropW_le (ts.drop b)
 rw [← hd] at this
 exact partsV_more _ _ _ _ _ (by omega) (by omega)
theorem listF_step {L:Inner} {f:Nat} {l:List Sel} {r:List Bt} (hf:r.length < f):listF L f l r = (selV L r).bind fun x => match x.2 with
  | t :: r2 => if t.kind = 13 then listF L (f - 1) (l ++ [x.1]) r2 else some (l ++ [x.1],t :: r2)
  | [] => some (l ++ [x.1],[]):=by
 obtain ⟨f,rfl⟩:∃ g,f = g + 1:=⟨f - 1,by omega⟩
 simp only [listF,Nat.add_sub_cancel]
 cases selV L r with
 | none => rfl
 | some x =>
  obtain ⟨s,r2⟩:=x
  cases r2 <;> rfl
theorem LiV.fail {d:Nat} {ts:List Bt} {a:Nat} {l:List Sel} {b b0:Nat} (h:LiV d ts a l b false) (hd:ts.drop b0 = dropW (ts.drop b)) (hF:Fail (partsV (innerV d) ((ts.drop b0).length + 1) 0 [] (ts.drop b0))):listX d (ts.drop a) = none:=by
 obtain ⟨_,_,h4⟩:=h
 obtain ⟨_,_,f,hf,hl⟩:=h4 rfl
 rw [listF_step hf,sel_at hd] at hl
 unfold listX
 rw [← hl]
 rcases hF with h | ⟨x,t,r,h,hk⟩
 ·rw [h];rfl
 ·rw [h]
  simp only [Option.bind_some]
  rw [if_neg (fun e => hk (.inl e))]
  simp only [Option.bind_some]
  by_cases h8:d = 8
  ·rw [if_pos h8]
  ·rw [if_neg h8,if_neg (fun e => hk (.inr e))]
theorem LiV.yes {d:Nat} {ts:List Bt} {a:Nat} {l:List Sel} {b b0 b1:Nat} {s:Sel} (h:LiV d ts a l b false) (hd:ts.drop b0 = dropW (ts.drop b)) (hU:partsV (innerV d) ((ts.drop b0).length + 1) 0 [] (ts.drop b0) = some (s,ts.drop b1)):∃ f,(ts.drop b).length < f ∧ listV d (ts.drop a) = match ts.drop b1 with
  | t :: r2 => if t.kind = 13 then listF (innerV d) (f - 1) (l ++ [s]) r2 else some (l ++ [s],t :: r2)
  | [] => some (l ++ [s],[]):=by
 obtain ⟨_,_,h4⟩:=h
 obtain ⟨_,_,f,hf,hl⟩:=h4 rfl
 refine ⟨f,hf,?_⟩
 rw [listF_step hf,sel_at hd,hU] at hl
 rw [← hl]
 rfl
theorem LiV.comma {d:Nat} {ts:List Bt} {a:Nat} {l:List Sel} {b b0 b1:Nat} {s:Sel} (h:LiV d ts a l b false) (hd:ts.drop b0 = dropW (ts.drop b)) (h0:b ≤ b0) (h01:b0 < b1) (hU:partsV (innerV d) ((ts.drop b0).length + 1) 0 [] (ts.drop b0) = some (s,ts.drop b1)) (hk:(at' ts b1).kind = 13):LiV d ts a (l ++ [s]) (b1 + 1) false:=by
 have hl1:b1 < ts.length:=at_lt (by rw [hk];decide)
 obtain ⟨f,hf,hl⟩:=h.yes hd hU
 rw [at_cons hl1] at hl
 simp only [hk,if_true] at hl
 refine ⟨by have:=h.1;omega,fun h => (by cases h),fun _ => ⟨hl1,by have:=(h.2.2 rfl).2.1;rw [List.length_append,List.length_singleton];omega,f - 1,?_,hl.symm⟩⟩
 rw [List.length_drop] at hf ⊢
 omega
theorem LiV.last {d:Nat} {ts:List Bt} {a:Nat} {l:List Sel} {b b0 b1:Nat} {s:Sel} (h:LiV d ts a l b false) (hd:ts.drop b0 = dropW (ts.drop b)) (hU:partsV (innerV d) ((ts.drop b0).length + 1) 0 [] (ts.drop b0) = some (s,ts.drop b1)) (hk:¬ (at' ts b1).kind = 13) :
  listX d (ts.drop a) = if ts.length ≤ b1 then (if d = 8 then some (l ++ [s],[]) else none) else if d = 8 then none else if (at' ts b1).kind = 17 then some (l ++ [s],ts.drop (b1 + 1)) else none:=by
 obtain ⟨f,hf,hl⟩:=h.yes hd hU
 unfold listX
 rw [hl]
 by_cases hl1:b1 < ts.length
 ·rw [if_neg (by omega),at_cons hl1]
  simp only [if_neg hk,Option.bind_some]
 ·rw [if_pos (by omega),(at_none (ts:=ts) (a:=b1) (by omega)).1]
  simp only [Option.bind_some]
set_option maxHeartbeats 4000000 in
theorem list_any (n₀ d:Nat) (hd8:d ≤ 8) (hI:InOK n₀ d):ListOK n₀ d:=by
 intro R v ts a w hP ha hG
 have hlm:=hP.most
 have hR:=hP.lt
 have S0:LiSt n₀ R v ts d w [] nilS a false w:=⟨UndRow.nil _ _ _ _ _ _,hP,But.refl _ _,hR⟩
 have hV0:LiV d ts a [] a false:=⟨Nat.le_refl _,fun h => (by cases h),fun _ => ⟨ha,Nat.zero_le _,_,Nat.lt_succ_self _,(listV_eq d _).symm⟩⟩
 have HG:Hid (Sl.Good ts):=hG
 have HI:Hid (InOK n₀ d):=hI
 clear hG hI hP
 go_enter Tryz.func21,Tryz.ntmps21
 go_wp2_with fail
 go_loopw [3] (fun x wr => ∃ (l:List Sel) (y:Value) (b:Nat) (bad:Bool),x = y ∧ LiSt n₀ R v ts d w l y b bad wr ∧ LiV d ts a l b bad) (fun _ wr => 2 * ((ts.length + 20) - placeOf wr R) + badOf wr R)
 case atStart => exact ⟨[],nilS,a,false,rfl,S0,hV0⟩
 case round =>
  clear S0 hV0
  obtain ⟨l,y,b,bad,rfl,S,HC⟩:=hrel
  obtain ⟨qy,cy,rfl⟩:=S.r.form
  have hpl:=S.pk.place
  have hbd:=S.pk.badIs
  obtain ⟨⟨p0,p1,p2,p3⟩,q0,q1,q2,q3⟩:=blk4 S.pk.blk
  cases bad with
  | true =>
   have HF:Hid (ListOut n₀ R v ts d w a (.returned (.slice none 0 0)) wr):=⟨[],_,b,true,rfl,SelsAt.nil _ _ _,S.pk,HC.1,.inr ⟨rfl,HC.2.1 rfl⟩,S.but⟩
   clear HC S HG HI
   go_wp2
   go_ret
   exact HF
  | false =>
   have hbt:b ≤ ts.length:=(HC.2.2 rfl).1
   have hlb:l.length ≤ b:=(HC.2.2 rfl).2.1
   have hab:a ≤ b:=HC.1
   have h1:=white_any n₀ R v ts b false (8 - (d:Int)) wr S.pk
   go_upto_region 3 with fail
   clear p0 p1 p2 p3 q0 q1 q2 q3
   go_wp2_with fail
   refine h1.mono ?_
   clear h1
   rintro e w2 ⟨b0,rfl,h0,hb0,hd0,hP2,hbut2⟩
   replace S:=S.go hP2 hbut2
   have hb0t:b0 ≤ ts.length:=by omega
   clear hb0 hP2 hbut2
   have h2:=selector_any n₀ R v ts b0 d w2 S.pk hb0t HG HI
   obtain ⟨U,hU⟩:∃ U,partsV (innerV d) ((ts.drop b0).length + 1) 0 [] (ts.drop b0) = U:=⟨_,rfl⟩
   rw [hU] at h2
   go_wp2_with fail
   refine h2.mono ?_
   clear h2
   rintro e w3 ⟨s,z,b1,bad1,rfl,hpt,hP3,h01,hres,hbut3⟩
   have hmw:w.heap.size ≤ w2.heap.size:=S.but.size
   have hmy:Hid (∀ g,(Value.slice qy l.length cy).ownBlock = some g → g < w2.heap.size):=fun g hg => (S.r.lt hg).2
   replace S:=S.go hP3 hbut3
   clear hP3 hbut3
   obtain ⟨qz,cz,rfl,_⟩:=FinRow.form hpt
   have bA:Below w3.heap.size w3 (w3.alloc (.cells #[.slice qz s.length cz] 117)):=(Below.refl _ _).alloc (Nat.le_refl _) _
   have kA:Blk (w3.alloc (.cells #[.slice qz s.length cz] 117)) w3.heap.size 117 [.slice qz s.length cz]:=Blk.new w3 117 _
   replace S:=S.below bA
   have fA:Fr (fun b => w2.heap.size ≤ b) (fun b => w2.heap.size ≤ b) w3 _:=Fr.of_below bA (fun b hb _ => hb)
   replace hpt:=PtsF.fr hpt fA (fun _ _ hq => SelsAt.fr d hq fA)
   clear bA fA
   go_upto_region 5 with fail
   generalize w3.alloc (.cells #[.slice qz s.length cz] 117) = w4 at *
   obtain ⟨css,r1,r2,r3,r4⟩:=S.r
   obtain ⟨i0,hi,hz0,hz1,hz2⟩:=info_parts infoSe3
   obtain ⟨x0,_⟩:=blk1 kA
   have bE:Below w4.heap.size w4 (w4.alloc (.cells #[.slice qz s.length cz] 117)):=(Below.refl _ _).alloc (Nat.le_refl _) _
   have fE:Fr (fun b => w2.heap.size ≤ b) (fun b => w2.heap.size ≤ b) w4 _:=Fr.of_below bE (fun b hb _ => hb)
   have hptE:=PtsF.fr hpt fE (fun _ _ hq => SelsAt.fr d hq fE)
   have hR4:(w4.alloc (.cells #[.slice qz s.length cz] 117)).ownsRow w.heap.size 117 1 (.slice qy l.length cy) l.length css.flatten:=owns_same r1 (fun g hg => bE.block g (owns_lt r1 hg).2)
   have H1:∀ u ∈ ([.slice qz s.length cz]:List Value),u.oneCell' = true:=fun u hu => by simp at hu;subst hu;rfl
   have m1:l.length + 1 ≤ maxLen:=by unfold maxLen;omega
   have m2:(l.length + 1) * 24 ≤ 140737488355328:=by omega
   have hSZ:w.heap.size ≤ (w4.alloc (.cells #[.slice qz s.length cz] 117)).heap.size:=by rw [World.size_alloc];have:=S.but.size;omega
   have HF:Hid (∀ (w7:World) (g7 c7:Nat),w7.ownsRow w.heap.size 117 1 (.slice (some ⟨g7,0,none⟩) (l.length + 1) c7) (l.length + 1) (css.flatten ++ [.slice qz s.length cz]) → (w4.alloc (.cells #[.slice qz s.length cz] 117)).grownBy w7 (Value.slice qy l.length cy).ownBlock → ((Value.slice qy l.length cy).ownBlock = some g7 ∨ g7 = (w4.alloc (.cells #[.slice qz s.length cz] 117)).heap.size) → LiSt n₀ R v ts d w (l ++ [s]) (.slice (some ⟨g7,0,none⟩) (l.length + 1) c7) b1 bad1 w7):=fun w7 g7 c7 hown hg hat =>
    S.push bE r2 r3 r4 hptE hmw hmy hown hg (fun g hg' => by rw [slot_own hg'];exact hat.imp id (fun h => by rw [h];exact Nat.le_refl _))
   clear S bE fE r1 r2 r3 r4 kA hpt hptE
   go_upto_region 6 with (at_builtin;refine wpList_append_lies (w4.alloc (.cells #[.slice qz s.length cz] 117)) rfl _ _ 36 rfl w.heap.size 117 i0 (.agg #[.slice none 0 0]) 1 24 Tryz.underlying36 hi hz0 hz1 hz2 rfl (by decide) (.slice qy l.length cy) _ _ rfl hR4 ⟨w4.heap.size,0,none⟩ 1 1 [.slice qz s.length cz] rfl rfl (cells_plain w4 [.slice qz s.length cz] 117) H1 (by decide) m1 m2 hSZ _ rfl ?_;intro g7 c7 w7 hown7 hgrow7 hat7 hlt7)
   have S7:=(show ∀ (w7:World) (g7 c7:Nat),_ → _ → _ → _ from HF) _ _ _ hown7 hgrow7 hat7
   clear HF hown7 hgrow7 hat7 hlt7 hR4 H1 m1 m2 hSZ hi hz0 hz1 hz2 x0
   have hb1t:=S7.pk.least
   have h3:=see_any n₀ R v ts b1 bad1 (8 - (d:Int)) 0 w7 S7.pk (by omega)
   rw [Nat.add_zero] at h3
   obtain ⟨T,hT⟩:∃ T,at' ts b1 = T:=⟨_,rfl⟩
   rw [hT] at h3
   unfold tkV at h3
   go_wp2_with fail
   refine h3.mono ?_
   clear h3
   rintro e w8 ⟨rfl,b8⟩
   have hf0:=tkField0 T.kind T.text T.n T.whole T.c w8
   replace S7:=S7.below b8
   clear b8
   have h4:=over_any n₀ R v ts b1 bad1 (8 - (d:Int)) w8 S7.pk
   go_wp2_with fail
   refine h4.mono ?_
   clear h4 hf0
   rintro e w9 ⟨rfl,b9⟩
   replace S7:=S7.below b9
   clear b9
   obtain ⟨⟨p0,p1,p2,p3⟩,q0,q1,q2,q3⟩:=blk4 S7.pk.blk
   cases bad1 with
   | true =>
    have HF:Fail U:=by
     rcases hres with ⟨h,_⟩ | ⟨_,h⟩
     ·cases h
     ·exact h
    have HC':LiV d ts a (l ++ [s]) b1 true:=⟨by omega,fun _ => HC.fail hd0 (by rw [hU];exact HF),fun h => (by cases h)⟩
    have hms:2 * (ts.length + 20 - placeOf w9 R) + badOf w9 R < 2 * (ts.length + 20 - placeOf wr R) + badOf wr R:=by rw [S7.pk.place,S7.pk.badIs,hpl,hbd];simp;omega
    clear HC HF hres hU HG HI
    go_wp2
    exact ⟨⟨_,_,b1,true,rfl,S7,HC'⟩,hms⟩
   | false =>
    have hres':U = some (s,ts.drop b1) ∧ endsV ts b1 = true ∧ b1 ≤ ts.length ∧ b0 < b1:=by
     rcases hres with ⟨_,h⟩ | ⟨h,_⟩
     ·exact h
     ·cases h
    obtain ⟨hU1,hE,hb1l,hb01⟩:=hres'
    rw [hU1] at hU
    clear hres hU1
    have hw1:IntKind.i64.wrap ((b1:Int) + 1) = (b1:Int) + 1:=by rw [IntKind.wrap_i64];omega
    by_cases g13:T.kind = 13
    ·have g13':(T.kind == 13) = true:=by simpa using g13
     have HC':LiV d ts a (l ++ [s]) (b1 + 1) false:=HC.comma hd0 h0 hb01 hU (by rw [hT];exact g13)
     have S8:=S7.at (b':=b1 + 1) (by omega)
     rw [show ((b1 + 1:Nat):Int) = (b1:Int) + 1 by omega] at S8
     have hms:2 * (ts.length + 20 - placeOf (w9.setCell ⟨R,1,none⟩ (.int .i64 ((b1:Int) + 1))) R) + badOf (w9.setCell ⟨R,1,none⟩ (.int .i64 ((b1:Int) + 1))) R < 2 * (ts.length + 20 - placeOf wr R) + badOf wr R:=by rw [S8.pk.place,S8.pk.badIs,hpl,hbd];simp;omega
     clear HC hU HG HI hE g13 S7
     go_wp2
     exact ⟨⟨_,_,b1 + 1,false,rfl,S8,HC'⟩,hms⟩
    have g13':(T.kind == 13) = false:=by simpa using g13
    have HX:=HC.last hd0 hU (by rw [hT];exact g13)
    rw [hT] at HX
    replace HX:Hid (listX d (ts.drop a) = _):=HX
    have hE':ts.length ≤ b1 ∨ T.kind = 17:=by
     have:ts.length ≤ b1 ∨ T.kind = 13 ∨ T.kind = 17:=by rw [← hT];simpa [endsV] using hE
     omega
    clear HC hU hE hd0 HG HI
    by_cases hov:ts.length ≤ b1
    ·have hov':decide (ts.length ≤ b1) = true:=decide_eq_true hov
     by_cases h8:d = 8
     ·subst h8
      have hV:listX 8 (ts.drop a) = some (l ++ [s],ts.drop b1):=by
       rw [show listX 8 _ = _ from HX,if_pos hov,if_pos rfl,List.drop_eq_nil_of_le hov]
      have HF:Hid (ListOut n₀ R v ts 8 w a (.returned (.slice (some ⟨g7,0,none⟩) (l.length + 1) c7)) w9):=⟨l ++ [s],_,b1,false,rfl,S7.done,S7.pk,by omega,.inl ⟨rfl,hV,hb1l⟩,S7.but⟩
      clear HX hV S7 g13 hov
      go_wp2
      go_ret
      exact HF
     ·have hV:listX d (ts.drop a) = none:=by
       rw [show listX d _ = _ from HX,if_pos hov,if_neg h8]
      have hT0:T.kind = 0:=by rw [← hT,(at_none (ts:=ts) (a:=b1) hov).2];rfl
      have g17':(T.kind == 17) = false:=by rw [hT0];rfl
      have h8':((8 - (d:Int)) == 0) = false:=by rw [beq_eq_false_iff_ne];omega
      have HC':LiV d ts a (l ++ [s]) b1 true:=⟨by omega,fun _ => hV,fun h => (by cases h)⟩
      have S8:=S7.spoil true
      have hms:2 * (ts.length + 20 - placeOf (w9.setCell ⟨R,2,none⟩ (.bool true)) R) + badOf (w9.setCell ⟨R,2,none⟩ (.bool true)) R < 2 * (ts.length + 20 - placeOf wr R) + badOf wr R:=by rw [S8.pk.place,S8.pk.badIs,hpl,hbd];simp;omega
      clear HX hV S7 g13 hov hT0 h8
      go_wp2
      exact ⟨⟨_,_,b1,true,rfl,S8,HC'⟩,hms⟩
    ·have hov':decide (ts.length ≤ b1) = false:=decide_eq_false hov
     have g17:T.kind = 17:=by omega
     have g17':(T.kind == 17) = true:=by simpa using g17
     by_cases h8:d = 8
     ·subst h8
      have hV:listX 8 (ts.drop a) = none:=by
       rw [show listX 8 _ = _ from HX,if_neg hov,if_pos rfl]
      have HC':LiV 8 ts a (l ++ [s]) b1 true:=⟨by omega,fun _ => hV,fun h => (by cases h)⟩
      have S8:=S7.spoil true
      have hms:2 * (ts.length + 20 - placeOf (w9.setCell ⟨R,2,none⟩ (.bool true)) R) + badOf (w9.setCell ⟨R,2,none⟩ (.bool true)) R < 2 * (ts.length + 20 - placeOf wr R) + badOf wr R:=by rw [S8.pk.place,S8.pk.badIs,hpl,hbd];simp;omega
      clear HX hV S7 g13 hov g17 hE'
      go_wp2
      exact ⟨⟨_,_,b1,true,rfl,S8,HC'⟩,hms⟩
     ·have hb1l2:b1 < ts.length:=by omega
      have hV:listX d (ts.drop a) = some (l ++ [s],ts.drop (b1 + 1)):=by
       rw [show listX d _ = _ from HX,if_neg hov,if_neg h8,if_pos g17]
      have h8':(0:Int) < 8 - (d:Int):=by omega
      have S8:=S7.at (b':=b1 + 1) (by omega)
      rw [show ((b1 + 1:Nat):Int) = (b1:Int) + 1 by omega] at S8
      have HF:Hid (ListOut n₀ R v ts d w a (.returned (.slice (some ⟨g7,0,none⟩) (l.length + 1) c7)) (w9.setCell ⟨R,1,none⟩ (.int .i64 ((b1:Int) + 1)))):=⟨l ++ [s],_,b1 + 1,false,rfl,S8.done,S8.pk,by omega,.inl ⟨rfl,hV,hb1l2⟩,S8.but⟩
      clear HX hV S7 S8 g13 hov g17 hE' h8
      go_wp2
      go_ret
      exact HF
theorem list_all (n₀:Nat):∀ d,d ≤ 8 → ListOK n₀ d
 | 0,h => list_any n₀ 0 h (inner_any n₀ 0 h (fun d' e => by omega))
 | d + 1,h => list_any n₀ (d + 1) h (inner_any n₀ (d + 1) h (fun _ e => Nat.succ.inj e ▸ list_all n₀ d (by omega)))
theorem parse_x (ts:List Bt) (h:ts.length ≤ 1000):parseV ts = (listX 8 ts).map Prod.fst:=by
 unfold parseV listX
 rw [if_neg (by omega)]
 cases listV 8 ts with
 | none => rfl
 | some x =>
  obtain ⟨l,r⟩:=x
  cases r <;> rfl
set_option maxHeartbeats 1000000 in
theorem selectors_any (v:Value) (ts:List Bt) (w:World) (hv:BtsAt w.heap.size w v ts) (hG:Sl.Good ts) :
  Calls Tryz.prog 10 #[v] w fun e w' => ∃ (l:List Sel) (y:Value) (ok:Bool),e = .returned (.tuple #[y,.bool ok]) ∧ SelsAt 9 (fun b => w.heap.size < b) w' y l ∧ Below w.heap.size w w' ∧ ((ok = true ∧ parseV ts = some l) ∨ (ok = false ∧ parseV ts = none ∧ l = [] ∧ y = .slice none 0 0)):=by
 obtain ⟨q,cap,rfl⟩:=hv.len
 have hsh:=hv.short
 by_cases hlong:1000 < ts.length
 ·have hli:(1000:Int) < (ts.length:Int):=by omega
  have hp:parseV ts = none:=by unfold parseV;rw [if_pos hlong]
  go_enter Tryz.func10,Tryz.ntmps10
  go_wp2
  go_ret2
  exact ⟨[],_,false,rfl,SelsAt.nil _ _ _,Below.refl _ _,.inr ⟨rfl,hp,rfl,rfl⟩⟩
 ·have hli:¬ (1000:Int) < (ts.length:Int):=by omega
  have b0:Below w.heap.size w (w.alloc (.cells #[.slice q ts.length cap,.int .i64 0,.bool false,.int .i64 0] 78)):=(Below.refl _ w).alloc (Nat.le_refl _) _
  have kR:Blk (w.alloc (.cells #[.slice q ts.length cap,.int .i64 0,.bool false,.int .i64 0] 78)) w.heap.size 78 [.slice q ts.length cap,.int .i64 0,.bool false,.int .i64 0]:=Blk.new w 78 _
  have hP:Pk w.heap.size (w.alloc (.cells #[.slice q ts.length cap,.int .i64 0,.bool false,.int .i64 0] 78)) w.heap.size (.slice q ts.length cap) ts 0 false (8 - ((8:Nat):Int)):=⟨kR,hv.below b0,Nat.le_refl _,by omega,by omega⟩
  have h1:=list_all w.heap.size 8 (Nat.le_refl _) w.heap.size _ ts 0 _ hP (Nat.zero_le _) hG
  have hs1:(w.alloc (.cells #[.slice q ts.length cap,.int .i64 0,.bool false,.int .i64 0] 78)).heap.size = w.heap.size + 1:=World.size_alloc _ _
  clear hG hP kR hv
  go_enter Tryz.func10,Tryz.ntmps10
  go_upto_region 4 with fail
  generalize w.alloc (.cells #[.slice q ts.length cap,.int .i64 0,.bool false,.int .i64 0] 78) = W1 at *
  go_wp2_with fail
  refine h1.mono ?_
  clear h1
  rintro e w2 ⟨l,y,b,bad,rfl,hsl,hPb,_,hres,hbut⟩
  have hB:Below w.heap.size w w2:=b0.trans (hbut.below (by omega) (fun k hk => by omega))
  rw [List.drop_zero] at hres
  have hpx:=parse_x ts (by omega)
  obtain ⟨⟨p0,p1,p2,p3⟩,q0,q1,q2,q3⟩:=blk4 hPb.blk
  cases bad with
  | true =>
   have hp:parseV ts = none:=by
    rcases hres with ⟨h,_⟩ | ⟨_,h⟩
    ·cases h
    ·rw [hpx,h];rfl
   clear hres hPb hbut hsl hs1 hpx
   go_wp2
   go_ret2
   exact ⟨[],_,false,rfl,SelsAt.nil _ _ _,hB,.inr ⟨rfl,hp,rfl,rfl⟩⟩
  | false =>
   have hp:parseV ts = some l:=by
    rcases hres with ⟨_,h,_⟩ | ⟨h,_⟩
    ·rw [hpx,h];rfl
    ·cases h
   have hsl':SelsAt 9 (fun b => w.heap.size < b) w2 y l:=hsl.fr 9 ⟨Nat.le_refl _,fun c hc _ => ⟨rfl,by omega⟩⟩
   clear hres hPb hbut hsl hs1 hpx
   go_wp2
   go_ret2
   exact ⟨l,y,true,rfl,hsl',hB,.inl ⟨rfl,hp⟩⟩
end Go.Proofs.YtcmmdojlhfmddaaGreat.Sr
