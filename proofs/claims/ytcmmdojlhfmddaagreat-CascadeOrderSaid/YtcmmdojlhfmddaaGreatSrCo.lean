/- A compound under way in memory. -/
import Derived.Test.YtcmmdojlhfmddaaGreatSlTok
import Derived.Test.YtcmmdojlhfmddaaGreatSrPs
namespace Go.Proofs.YtcmmdojlhfmddaaGreat.Sl
open Go.Proofs.YtcmmdojlhfmddaaGreat.Tre
open Go Go.RowKit Go.Shelf
def StrT (_:Nat → Prop) (_:World) (c:List Value) (x:ByteArray):Prop:=c = [Value.string x]
def AtT (_:Nat → Prop) (_:World) (c:List Value) (x:At):Prop:=c = atCells x
def PsTd (d:Nat) (P:Nat → Prop) (W:World) (c:List Value) (p:Ps):Prop:=PsT (SelsAt d P W) c p
theorem strT_stays:Stays StrT:=fun _ _ _ _ _ _ h _ => h
theorem atT_stays:Stays AtT:=fun _ _ _ _ _ _ h _ => h
theorem psT_stays (d:Nat):Stays (PsTd d):=fun _ _ _ _ _ _ ⟨x,e,h⟩ f => ⟨x,e,SelsAt.fr d h f⟩
def Off (n C:Nat) (i k a p:Value) (b:Nat):Prop:=n ≤ b ∧ b ≠ C ∧ i.ownBlock ≠ some b ∧ k.ownBlock ≠ some b ∧ a.ownBlock ≠ some b ∧ p.ownBlock ≠ some b
structure CUx (d n:Nat) (W:World) (C:Nat) (c:Cp) (i k a p:Value):Prop where
 blk:Blk W C 140 [.string c.tag,i,k,a,p]
 nC:n ≤ C
 ri:UndRow 9 1 StrT n (Off n C i k a p) W i c.ids
 rk:UndRow 9 1 StrT n (Off n C i k a p) W k c.classes
 ra:UndRow 157 3 AtT n (Off n C i k a p) W a c.attrs
 rp:UndRow 160 4 (PsTd d) n (Off n C i k a p) W p c.pss
 ik:∀ g,i.ownBlock = some g → k.ownBlock ≠ some g
theorem rows_ne {W:World} {b b':Nat} {e e':TypeId} (hne:e ≠ e') {s s':Nat} {v v':Value} {n n':Nat} {xs xs':List Value} (h:W.ownsRow b e s v n xs) (h':W.ownsRow b' e' s' v' n' xs') {g:Nat} (hg:v.ownBlock = some g):v'.ownBlock ≠ some g:=by
 rcases h.2 with ⟨rfl,_⟩ | ⟨g0,cap,cur,rfl,_,hb,_⟩
 ·simp [Value.ownBlock] at hg
 ·simp [Value.ownBlock] at hg
  subst hg
  exact owns_apart h' hb (fun c f e => by injection e with _ e2;exact hne e2)
theorem UndRow.ne {α β:Type} {e e':TypeId} (hne:e ≠ e') {sz sz':Nat} {T:(Nat → Prop) → World → List Value → α → Prop} {T':(Nat → Prop) → World → List Value → β → Prop} {n n':Nat} {P P':Nat → Prop} {W:World} {v v':Value} {l:List α} {l':List β} (h:UndRow e sz T n P W v l) (h':UndRow e' sz' T' n' P' W v' l') {g:Nat} (hg:v.ownBlock = some g):v'.ownBlock ≠ some g:=
 rows_ne hne h.choose_spec.1 h'.choose_spec.1 hg
theorem UndRow.off {α:Type} {e:TypeId} {sz:Nat} {T:(Nat → Prop) → World → List Value → α → Prop} {n:Nat} {P:Nat → Prop} {W:World} {v:Value} {l:List α} (h:UndRow e sz T n P W v l) {C:Nat} {t:TypeId} {cs:List Value} (hC:Blk W C t cs) (hne:t ≠ e):v.ownBlock ≠ some C:=
 owns_apart h.choose_spec.1 hC (fun c f e => by injection e with _ e2;exact hne e2)
theorem UndRow.cl {α:Type} {e:TypeId} {sz:Nat} {T:(Nat → Prop) → World → List Value → α → Prop} {n:Nat} {P:Nat → Prop} {W:World} {v:Value} {l:List α} (h:UndRow e sz T n P W v l) (he:e ≠ 85) {g:Nat} (hg:v.ownBlock = some g):Cl W g:=by
 obtain ⟨css,h1,_⟩:=h
 rcases h1.2 with ⟨rfl,_⟩ | ⟨g',cap,cur,rfl,_,hb,_⟩
 ·simp [Value.ownBlock] at hg
 ·simp [Value.ownBlock] at hg
  subst hg
  exact ⟨_,_,_,hb,he⟩
theorem CUx.kept {d n:Nat} {W W':World} {C:Nat} {c:Cp} {i k a p:Value} (h:CUx d n W C c i k a p) {keep:Nat → Prop} (hk:Kept keep W W') (hn:∀ b,n ≤ b → Cl W b → keep b):CUx d n W' C c i k a p:=by
 have f:Fr (Off n C i k a p) (Off n C i k a p) W W':=Fr.of_kept hk (fun b hb hl => ⟨hn b hb.1 hl,hb⟩)
 have row:∀ {α:Type} {e:TypeId} {sz:Nat} {T:(Nat → Prop) → World → List Value → α → Prop} {P:Nat → Prop} {v:Value} {l:List α},UndRow e sz T n P W v l → e ≠ 85 → ∀ g,v.ownBlock = some g → W'.heap[g]? = W.heap[g]?:=fun hr he g hg => hk.block g (hr.lt hg).2 (hn g (hr.lt hg).1 (hr.cl he hg))
 exact ⟨hk.blk h.blk (hn C h.nC (h.blk.cl (by decide))),h.nC,h.ri.kept strT_stays f (row h.ri (by decide)),h.rk.kept strT_stays f (row h.rk (by decide)),h.ra.kept atT_stays f (row h.ra (by decide)),h.rp.kept (psT_stays d) f (row h.rp (by decide)),h.ik⟩
theorem CUx.below {d n:Nat} {W W':World} {C:Nat} {c:Cp} {i k a p:Value} (h:CUx d n W C c i k a p) (hb:Below W.heap.size W W'):CUx d n W' C c i k a p:=h.kept (keep:=fun _ => True) (.of_below hb) (fun _ _ _ => trivial)
theorem CUx.but {d n R:Nat} {W W':World} {C:Nat} {c:Cp} {i k a p:Value} (h:CUx d n W C c i k a p) (hb:But R W W') (hR:R < n):CUx d n W' C c i k a p:=h.kept hb (fun b hb _ => by omega)
theorem CUx.new (d n:Nat) (W:World) (tag:ByteArray) (hn:n ≤ W.heap.size):CUx d n (W.alloc (.cells #[.string tag,.slice none 0 0,.slice none 0 0,.slice none 0 0,.slice none 0 0] 140)) W.heap.size (.mk tag [] [] [] []) (.slice none 0 0) (.slice none 0 0) (.slice none 0 0) (.slice none 0 0):=
 ⟨Blk.new W 140 _,hn,UndRow.nil _ _ _ _ _ _,UndRow.nil _ _ _ _ _ _,UndRow.nil _ _ _ _ _ _,UndRow.nil _ _ _ _ _ _,fun g hg => by simp [Value.ownBlock] at hg⟩
theorem und_push {α:Type} {e:TypeId} {sz:Nat} {T:(Nat → Prop) → World → List Value → α → Prop} (hT:Stays T) {n:Nat} {P P':Nat → Prop} {W W':World} {v':Value} {l:List α} {css:List (List Value)} (h2:css.length = l.length) (h3:∀ c ∈ css,c.length = sz) (h4:∀ (j:Nat) (c:List Value) (x:α),css[j]? = some c → l[j]? = some x → T P W c x) {c:List Value} {x:α}
  (hc:c.length = sz) (hx:T P' W' c x) (f:Fr P P' W W') (hr:W'.ownsRow n e sz v' (l.length + 1) (css.flatten ++ c)):UndRow e sz T n P' W' v' (l ++ [x]):=by
 refine ⟨css ++ [c],?_,by simp [h2],fun d hd => ?_,fun j d y hd hy => ?_⟩
 ·rw [List.length_append]
  simpa using hr
 ·rcases List.mem_append.1 hd with hd | hd
  ·exact h3 d hd
  ·obtain rfl:d = c:=by simpa using hd
   exact hc
 ·by_cases hj:j < css.length
  ·rw [List.getElem?_append_left hj] at hd
   rw [List.getElem?_append_left (by rw [← h2];exact hj)] at hy
   exact hT _ _ _ _ _ _ (h4 j d y hd hy) f
  ·have hj':j = css.length:=by
    have:=(List.getElem?_eq_some_iff.1 hd).1
    simp at this
    omega
   subst hj'
   rw [List.getElem?_append_right (Nat.le_refl _)] at hd
   rw [h2,List.getElem?_append_right (Nat.le_refl _)] at hy
   obtain rfl:c = d:=by simpa using hd
   obtain rfl:x = y:=by simpa using hy
   exact hx
theorem CUx.addId {d n:Nat} {W W':World} {C:Nat} {c:Cp} {i k a p:Value} (h:CUx d n W C c i k a p) {css:List (List Value)} (h2:css.length = c.ids.length) (h3:∀ c ∈ css,c.length = 1) (h4:∀ (j:Nat) (q:List Value) (x:ByteArray),css[j]? = some q → c.ids[j]? = some x → StrT (Off n C i k a p) W q x) {v':Value} {x:ByteArray}
  (hr:W'.ownsRow n 9 1 v' (c.ids.length + 1) (css.flatten ++ [.string x])) (hg:W.grownBy W' i.ownBlock) (hat:∀ g,v'.ownBlock = some g → i.ownBlock = some g ∨ W.heap.size ≤ g):CUx d n (W'.setCell ⟨C,1,none⟩ v') C (c.addId x) v' k a p:=by
 obtain ⟨t,ids,cls,ats,pss⟩:=c
 have hC:=h.blk
 have oi:=h.ri.off hC (by decide)
 have ok:=h.rk.off hC (by decide)
 have oa:=h.ra.off hC (by decide)
 have op:=h.rp.off hC (by decide)
 have hCW:C < W.heap.size:=hC.lt
 have keep:∀ b,b < W.heap.size → b ≠ C → i.ownBlock ≠ some b → (W'.setCell ⟨C,1,none⟩ v').heap[b]? = W.heap[b]?:=fun b hb h1 h2 =>
  (Below.heap_setCell _ _ _ _ (fun e => h1 (by simpa using e))).trans (hg.block b hb (fun e => h2 e.symm))
 have hsz:W.heap.size ≤ (W'.setCell ⟨C,1,none⟩ v').heap.size:=by rw [World.size_setCell];exact hg.size
 have f:Fr (Off n C i k a p) (Off n C v' k a p) W (W'.setCell ⟨C,1,none⟩ v'):=⟨hsz,fun b hb hl => ⟨keep b hl.lt hb.2.1 hb.2.2.1,?_⟩⟩
 rotate_left
 ·exact ⟨hb.1,hb.2.1,fun e => (hat b e).elim hb.2.2.1 (fun h => by have:=hl.lt;omega),hb.2.2.2.1,hb.2.2.2.2.1,hb.2.2.2.2.2⟩
 have hvC:v'.ownBlock ≠ some C:=fun e => (hat C e).elim oi (fun h => by omega)
 have hr':(W'.setCell ⟨C,1,none⟩ v').ownsRow n 9 1 v' _ _:=owns_same hr (fun g hg' => Below.heap_setCell _ _ _ _ (fun e => hvC (by simp at e;rw [← e];exact hg')))
 exact ⟨blk_put ((show Blk W' C _ _ from (hg.block C hCW (fun e => oi e.symm)).trans hC)) 1 v',h.nC,und_push strT_stays h2 h3 h4 rfl rfl f hr',h.rk.kept strT_stays f (fun g hg' => keep g (h.rk.lt hg').2 (fun e => ok (by rw [← e];exact hg')) (fun e => h.ik g e hg')),h.ra.kept atT_stays f (fun g hg' => keep g (h.ra.lt hg').2 (fun e => oa (by rw [← e];exact hg')) (h.ra.ne (by decide) h.ri hg')),h.rp.kept (psT_stays d) f (fun g hg' => keep g (h.rp.lt hg').2 (fun e => op (by rw [← e];exact hg')) (h.rp.ne (by decide) h.ri hg')),fun g e e2 => (hat g e).elim (fun e => h.ik g e e2) (fun hh => by have:=(h.rk.lt e2).2;omega)⟩
theorem CUx.addClass {d n:Nat} {W W':World} {C:Nat} {c:Cp} {i k a p:Value} (h:CUx d n W C c i k a p) {css:List (List Value)} (h2:css.length = c.classes.length) (h3:∀ c ∈ css,c.length = 1) (h4:∀ (j:Nat) (q:List Value) (x:ByteArray),css[j]? = some q → c.classes[j]? = some x → StrT (Off n C i k a p) W q x) {v':Value} {x:ByteArray}
  (hr:W'.ownsRow n 9 1 v' (c.classes.length + 1) (css.flatten ++ [.string x])) (hg:W.grownBy W' k.ownBlock) (hat:∀ g,v'.ownBlock = some g → k.ownBlock = some g ∨ W.heap.size ≤ g):CUx d n (W'.setCell ⟨C,2,none⟩ v') C (c.addClass x) i v' a p:=by
 obtain ⟨t,ids,cls,ats,pss⟩:=c
 have hC:=h.blk
 have oi:=h.ri.off hC (by decide)
 have ok:=h.rk.off hC (by decide)
 have oa:=h.ra.off hC (by decide)
 have op:=h.rp.off hC (by decide)
 have hCW:C < W.heap.size:=hC.lt
 have keep:∀ b,b < W.heap.size → b ≠ C → k.ownBlock ≠ some b → (W'.setCell ⟨C,2,none⟩ v').heap[b]? = W.heap[b]?:=fun b hb h1 h2 =>
  (Below.heap_setCell _ _ _ _ (fun e => h1 (by simpa using e))).trans (hg.block b hb (fun e => h2 e.symm))
 have hsz:W.heap.size ≤ (W'.setCell ⟨C,2,none⟩ v').heap.size:=by rw [World.size_setCell];exact hg.size
 have f:Fr (Off n C i k a p) (Off n C i v' a p) W (W'.setCell ⟨C,2,none⟩ v'):=⟨hsz,fun b hb hl => ⟨keep b hl.lt hb.2.1 hb.2.2.2.1,?_⟩⟩
 rotate_left
 ·exact ⟨hb.1,hb.2.1,hb.2.2.1,fun e => (hat b e).elim hb.2.2.2.1 (fun h => by have:=hl.lt;omega),hb.2.2.2.2.1,hb.2.2.2.2.2⟩
 have hvC:v'.ownBlock ≠ some C:=fun e => (hat C e).elim ok (fun h => by omega)
 have hr':(W'.setCell ⟨C,2,none⟩ v').ownsRow n 9 1 v' _ _:=owns_same hr (fun g hg' => Below.heap_setCell _ _ _ _ (fun e => hvC (by simp at e;rw [← e];exact hg')))
 exact ⟨blk_put ((show Blk W' C _ _ from (hg.block C hCW (fun e => ok e.symm)).trans hC)) 2 v',h.nC,h.ri.kept strT_stays f (fun g hg' => keep g (h.ri.lt hg').2 (fun e => oi (by rw [← e];exact hg')) (fun e => h.ik g hg' e)),und_push strT_stays h2 h3 h4 rfl rfl f hr',h.ra.kept atT_stays f (fun g hg' => keep g (h.ra.lt hg').2 (fun e => oa (by rw [← e];exact hg')) (h.ra.ne (by decide) h.rk hg')),h.rp.kept (psT_stays d) f (fun g hg' => keep g (h.rp.lt hg').2 (fun e => op (by rw [← e];exact hg')) (h.rp.ne (by decide) h.rk hg')),fun g e e2 => (hat g e2).elim (fun e2 => h.ik g e e2) (fun hh => by have:=(h.ri.lt e).2;omega)⟩
theorem CUx.addAttr {d n:Nat} {W W':World} {C:Nat} {c:Cp} {i k a p:Value} (h:CUx d n W C c i k a p) {css:List (List Value)} (h2:css.length = c.attrs.length) (h3:∀ c ∈ css,c.length = 3) (h4:∀ (j:Nat) (q:List Value) (x:At),css[j]? = some q → c.attrs[j]? = some x → AtT (Off n C i k a p) W q x) {v':Value} {x:At}
  (hr:W'.ownsRow n 157 3 v' (c.attrs.length + 1) (css.flatten ++ atCells x)) (hg:W.grownBy W' a.ownBlock) (hat:∀ g,v'.ownBlock = some g → a.ownBlock = some g ∨ W.heap.size ≤ g):CUx d n (W'.setCell ⟨C,3,none⟩ v') C (c.addAttr x) i k v' p:=by
 obtain ⟨t,ids,cls,ats,pss⟩:=c
 have hC:=h.blk
 have oi:=h.ri.off hC (by decide)
 have ok:=h.rk.off hC (by decide)
 have oa:=h.ra.off hC (by decide)
 have op:=h.rp.off hC (by decide)
 have hCW:C < W.heap.size:=hC.lt
 have keep:∀ b,b < W.heap.size → b ≠ C → a.ownBlock ≠ some b → (W'.setCell ⟨C,3,none⟩ v').heap[b]? = W.heap[b]?:=fun b hb h1 h2 =>
  (Below.heap_setCell _ _ _ _ (fun e => h1 (by simpa using e))).trans (hg.block b hb (fun e => h2 e.symm))
 have hsz:W.heap.size ≤ (W'.setCell ⟨C,3,none⟩ v').heap.size:=by rw [World.size_setCell];exact hg.size
 have f:Fr (Off n C i k a p) (Off n C i k v' p) W (W'.setCell ⟨C,3,none⟩ v'):=⟨hsz,fun b hb hl => ⟨keep b hl.lt hb.2.1 hb.2.2.2.2.1,?_⟩⟩
 rotate_left
 ·exact ⟨hb.1,hb.2.1,hb.2.2.1,hb.2.2.2.1,fun e => (hat b e).elim hb.2.2.2.2.1 (fun h => by have:=hl.lt;omega),hb.2.2.2.2.2⟩
 have hvC:v'.ownBlock ≠ some C:=fun e => (hat C e).elim oa (fun h => by omega)
 have hr':(W'.setCell ⟨C,3,none⟩ v').ownsRow n 157 3 v' _ _:=owns_same hr (fun g hg' => Below.heap_setCell _ _ _ _ (fun e => hvC (by simp at e;rw [← e];exact hg')))
 exact ⟨blk_put ((show Blk W' C _ _ from (hg.block C hCW (fun e => oa e.symm)).trans hC)) 3 v',h.nC,h.ri.kept strT_stays f (fun g hg' => keep g (h.ri.lt hg').2 (fun e => oi (by rw [← e];exact hg')) (h.ri.ne (by decide) h.ra hg')),h.rk.kept strT_stays f (fun g hg' => keep g (h.rk.lt hg').2 (fun e => ok (by rw [← e];exact hg')) (h.rk.ne (by decide) h.ra hg')),und_push atT_stays h2 h3 h4 rfl rfl f hr',h.rp.kept (psT_stays d) f (fun g hg' => keep g (h.rp.lt hg').2 (fun e => op (by rw [← e];exact hg')) (h.rp.ne (by decide) h.ra hg')),h.ik⟩
theorem CUx.addPs {d n:Nat} {W W':World} {C:Nat} {c:Cp} {i k a p:Value} (h:CUx d n W C c i k a p) {css:List (List Value)} (h2:css.length = c.pss.length) (h3:∀ c ∈ css,c.length = 4) (h4:∀ (j:Nat) (q:List Value) (x:Ps),css[j]? = some q → c.pss[j]? = some x → (PsTd d) (Off n C i k a p) W q x) {v':Value} {x:Ps} {y:Value} {m:Nat} (hx:SelsAt d (fun b => m ≤ b) W y x.list) (hmC:C < m) (hm:∀ g,(i.ownBlock = some g ∨ k.ownBlock = some g ∨ a.ownBlock = some g ∨ p.ownBlock = some g) → g < m)
  (hr:W'.ownsRow n 160 4 v' (c.pss.length + 1) (css.flatten ++ psCells x y)) (hg:W.grownBy W' p.ownBlock) (hat:∀ g,v'.ownBlock = some g → p.ownBlock = some g ∨ W.heap.size ≤ g):CUx d n (W'.setCell ⟨C,4,none⟩ v') C (c.addPs x) i k a v':=by
 obtain ⟨t,ids,cls,ats,pss⟩:=c
 have hC:=h.blk
 have oi:=h.ri.off hC (by decide)
 have ok:=h.rk.off hC (by decide)
 have oa:=h.ra.off hC (by decide)
 have op:=h.rp.off hC (by decide)
 have hCW:C < W.heap.size:=hC.lt
 have keep:∀ b,b < W.heap.size → b ≠ C → p.ownBlock ≠ some b → (W'.setCell ⟨C,4,none⟩ v').heap[b]? = W.heap[b]?:=fun b hb h1 h2 =>
  (Below.heap_setCell _ _ _ _ (fun e => h1 (by simpa using e))).trans (hg.block b hb (fun e => h2 e.symm))
 have hsz:W.heap.size ≤ (W'.setCell ⟨C,4,none⟩ v').heap.size:=by rw [World.size_setCell];exact hg.size
 have f:Fr (Off n C i k a p) (Off n C i k a v') W (W'.setCell ⟨C,4,none⟩ v'):=⟨hsz,fun b hb hl => ⟨keep b hl.lt hb.2.1 hb.2.2.2.2.2,?_⟩⟩
 rotate_left
 ·exact ⟨hb.1,hb.2.1,hb.2.2.1,hb.2.2.2.1,hb.2.2.2.2.1,fun e => (hat b e).elim hb.2.2.2.2.2 (fun h => by have:=hl.lt;omega)⟩
 have hvC:v'.ownBlock ≠ some C:=fun e => (hat C e).elim op (fun h => by omega)
 have hr':(W'.setCell ⟨C,4,none⟩ v').ownsRow n 160 4 v' _ _:=owns_same hr (fun g hg' => Below.heap_setCell _ _ _ _ (fun e => hvC (by simp at e;rw [← e];exact hg')))
 exact ⟨blk_put ((show Blk W' C _ _ from (hg.block C hCW (fun e => op e.symm)).trans hC)) 4 v',h.nC,h.ri.kept strT_stays f (fun g hg' => keep g (h.ri.lt hg').2 (fun e => oi (by rw [← e];exact hg')) (h.ri.ne (by decide) h.rp hg')),h.rk.kept strT_stays f (fun g hg' => keep g (h.rk.lt hg').2 (fun e => ok (by rw [← e];exact hg')) (h.rk.ne (by decide) h.rp hg')),h.ra.kept atT_stays f (fun g hg' => keep g (h.ra.lt hg').2 (fun e => oa (by rw [← e];exact hg')) (h.ra.ne (by decide) h.rp hg')),und_push (psT_stays d) h2 h3 h4 rfl ⟨y,rfl,SelsAt.fr d hx ⟨hsz,fun b hb hl => ⟨keep b hl.lt (by omega) (fun e => by have:=hm b (.inr (.inr (.inr e)));omega),by have:=h.nC;omega,by omega,fun e => by have:=hm b (.inl e);omega,fun e => by have:=hm b (.inr (.inl e));omega,fun e => by have:=hm b (.inr (.inr (.inl e)));omega,fun e => (hat b e).elim (fun e => by have:=hm b (.inr (.inr (.inr e)));omega) (fun h => by have:=hl.lt;omega)⟩⟩⟩ f hr',h.ik⟩
theorem CUx.done {d n:Nat} {W:World} {C:Nat} {c:Cp} {i k a p:Value} (h:CUx d n W C c i k a p):CpT (SelsAt d (fun b => n ≤ b) W) (fun b => n ≤ b) W [.string c.tag,i,k,a,p] c:=
 ⟨i,k,a,p,rfl,h.ri.done (by decide) strT_stays (fun _ hb => hb.1) (fun _ hg => (h.ri.lt hg).1),h.rk.done (by decide) strT_stays (fun _ hb => hb.1) (fun _ hg => (h.rk.lt hg).1),h.ra.done (by decide) atT_stays (fun _ hb => hb.1) (fun _ hg => (h.ra.lt hg).1),h.rp.done (by decide) (psT_stays d) (fun _ hb => hb.1) (fun _ hg => (h.rp.lt hg).1)⟩
end Go.Proofs.YtcmmdojlhfmddaaGreat.Sl

/- The document's own reader of selectors: a compound under way; the plain side, by places. -/
namespace Go.Proofs.YtcmmdojlhfmddaaGreat.Sr
open Go.Proofs.YtcmmdojlhfmddaaGreat.Tre
open Go Go.RowKit Sl
theorem infoCp:(Tryz.prog.info? 140).map (·.size) = some 5:=by kernel_rfl
theorem load_cp {w:World} {g:Nat} {a b c d e:Value} (h:Blk w g 140 [a,b,c,d,e]):(loadVar 140 ⟨g,0,none⟩).run Tryz.prog w = .ok (.agg #[a,b,c,d,e]) w:=
 run_loadVar_row w g _ 140 #[a,b,c,d,e] (0,0) _ h Tryz.underlying140 rfl infoCp
theorem Cp.addId_len (c:Cp) (x:ByteArray):(c.addId x).ids.length = c.ids.length + 1 ∧ (c.addId x).classes.length = c.classes.length ∧ (c.addId x).attrs.length = c.attrs.length ∧ (c.addId x).pss.length = c.pss.length:=by cases c;simp [Cp.addId,Cp.ids,Cp.classes,Cp.attrs,Cp.pss]
theorem Cp.addClass_len (c:Cp) (x:ByteArray):(c.addClass x).ids.length = c.ids.length ∧ (c.addClass x).classes.length = c.classes.length + 1 ∧ (c.addClass x).attrs.length = c.attrs.length ∧ (c.addClass x).pss.length = c.pss.length:=by cases c;simp [Cp.addClass,Cp.ids,Cp.classes,Cp.attrs,Cp.pss]
theorem Cp.addAttr_len (c:Cp) (x:At):(c.addAttr x).ids.length = c.ids.length ∧ (c.addAttr x).classes.length = c.classes.length ∧ (c.addAttr x).attrs.length = c.attrs.length + 1 ∧ (c.addAttr x).pss.length = c.pss.length:=by cases c;simp [Cp.addAttr,Cp.ids,Cp.classes,Cp.attrs,Cp.pss]
theorem Cp.addPs_len (c:Cp) (x:Ps):(c.addPs x).ids.length = c.ids.length ∧ (c.addPs x).classes.length = c.classes.length ∧ (c.addPs x).attrs.length = c.attrs.length ∧ (c.addPs x).pss.length = c.pss.length + 1:=by cases c;simp [Cp.addPs,Cp.ids,Cp.classes,Cp.attrs,Cp.pss]
def Small (c:Cp) (m:Nat):Prop:=c.ids.length ≤ m ∧ c.classes.length ≤ m ∧ c.attrs.length ≤ m ∧ c.pss.length ≤ m
theorem unitV_small {L:Inner} {c c':Cp} {t:Bt} {r r':List Bt} {m:Nat} (h:unitV L c t r = some (c',r')) (hs:Small c m):Small c' (m + 1):=by
 obtain ⟨h1,h2,h3,h4⟩:=hs
 unfold unitV at h
 unfold Small
 split at h
 ·cases h
  obtain ⟨e1,e2,e3,e4⟩:=Cp.addId_len c t.text
  omega
 ·split at h
  ·obtain ⟨x,_,e⟩:=Option.map_eq_some_iff.1 h
   cases e
   obtain ⟨e1,e2,e3,e4⟩:=Cp.addAttr_len c x.1
   omega
  ·split at h
   ·obtain ⟨x,_,e⟩:=Option.map_eq_some_iff.1 h
    cases e
    obtain ⟨e1,e2,e3,e4⟩:=Cp.addPs_len c x.1
    omega
   ·split at h
    ·rename_i nn _
     split at h
     ·cases h
      obtain ⟨e1,e2,e3,e4⟩:=Cp.addClass_len c nn.text
      omega
     ·cases h
    ·cases h
theorem infoStr3:(Tryz.prog.info? 9).map (fun i => (i.zero,i.size,i.bytes)) = some (some (.string ⟨#[]⟩),1,16):=by kernel_rfl
theorem infoAt3:(Tryz.prog.info? 157).map (fun i => (i.zero,i.size,i.bytes)) = some (some (.agg #[.string ⟨#[]⟩,.int .i64 0,.string ⟨#[]⟩]),3,40):=by kernel_rfl
theorem infoPs3:(Tryz.prog.info? 160).map (fun i => (i.zero,i.size,i.bytes)) = some (some (.agg #[.int .i64 0,.int .i64 0,.int .i64 0,.slice none 0 0]),4,48):=by kernel_rfl
theorem unit_class {L:Inner} {c:Cp} {t:Bt} {ts:List Bt} {a:Nat} (h3:¬ t.kind = 3) (h18:¬ t.kind = 18) (h11:¬ t.kind = 11):unitV L c t (ts.drop a) = if (at' ts a).kind = 1 then some (c.addClass (at' ts a).text,ts.drop (a + 1)) else none:=by
 unfold unitV
 rw [if_neg h3,if_neg h18,if_neg h11]
 by_cases hl:a < ts.length
 ·rw [at_cons hl]
 ·have hz:=at_none (ts:=ts) (a:=a) (by omega)
  rw [hz.1,hz.2]
  rfl
theorem cells_drew (w:World) (l:List Value) (ty:TypeId):∀ j u,l[j]? = some u → (w.alloc (.cells l.toArray ty)).drew.cell? ((⟨w.heap.size,0,none⟩:Addr).add j) = some u:=fun j u hj => by
 rw [show (⟨w.heap.size,0,none⟩:Addr).add j = ⟨w.heap.size,j,none⟩ by cases j with | zero => rfl | succ j => simp [Addr.add]]
 show (w.alloc (.cells l.toArray ty)).cell? _ = _
 rw [cell_of_block (heap_alloc_new w _) j]
 simpa using hj
theorem cells_plain (w:World) (l:List Value) (ty:TypeId):∀ j u,l[j]? = some u → (w.alloc (.cells l.toArray ty)).cell? ((⟨w.heap.size,0,none⟩:Addr).add j) = some u:=cells_drew w l ty
theorem units_no {L:Inner} {f:Nat} {c:Cp} {ts:List Bt} {a:Nat} (hf:(ts.drop a).length < f) (h:begU (at' ts a) = false):unitsV L f c (ts.drop a) = some (c,ts.drop a):=by
 obtain ⟨f,rfl⟩:∃ g,f = g + 1:=⟨f - 1,by omega⟩
 by_cases hl:a < ts.length
 ·rw [at_cons hl]
  simp only [unitsV,h,Bool.false_eq_true,if_false]
 ·rw [List.drop_eq_nil_of_le (by omega)]
  rfl
theorem begU_lt {ts:List Bt} {a:Nat} (h:begU (at' ts a) = true):a < ts.length:=at_lt (fun e => by
 unfold begU isSg at h
 simp [e] at h)
theorem units_yes {L:Inner} {f:Nat} {c:Cp} {ts:List Bt} {a:Nat} (hf:(ts.drop a).length < f) (h:begU (at' ts a) = true):∃ g,(ts.drop (a + 1)).length < g ∧ unitsV L f c (ts.drop a) = (unitV L c (at' ts a) (ts.drop (a + 1))).bind fun x => unitsV L g x.1 x.2:=by
 obtain ⟨f,rfl⟩:∃ g,f = g + 1:=⟨f - 1,by omega⟩
 have hl:=begU_lt h
 refine ⟨f,?_,?_⟩
 ·rw [List.length_drop] at hf ⊢
  omega
 ·rw [at_cons hl]
  simp only [unitsV,h,if_true]
theorem comp_yes {L:Inner} {ts:List Bt} {a0 b0 b:Nat} {tg:ByteArray} {c:Cp} (h1:(tagV (ts.drop a0)).1 = tg) (h2:(tagV (ts.drop a0)).2 = ts.drop b0) (h:unitsV L ((ts.drop a0).length + 1) (.mk tg [] [] [] []) (ts.drop b0) = some (c,ts.drop b)) (hb:b ≤ ts.length) (hlt:a0 < b):compV L (ts.drop a0) = some (c,ts.drop b):=by
 unfold compV
 rw [h1,h2,h]
 simp only [Option.bind_some,List.length_drop]
 rw [if_pos (by omega)]
theorem comp_no {L:Inner} {ts:List Bt} {a0 b0 b:Nat} {tg:ByteArray} {c:Cp} (h1:(tagV (ts.drop a0)).1 = tg) (h2:(tagV (ts.drop a0)).2 = ts.drop b0) (h:unitsV L ((ts.drop a0).length + 1) (.mk tg [] [] [] []) (ts.drop b0) = some (c,ts.drop b)) (hlt:¬ a0 < b):compV L (ts.drop a0) = none:=by
 unfold compV
 rw [h1,h2,h]
 simp only [Option.bind_some,List.length_drop]
 rw [if_neg (by omega)]
theorem comp_none {L:Inner} {ts:List Bt} {a0 b0:Nat} {tg:ByteArray} (h1:(tagV (ts.drop a0)).1 = tg) (h2:(tagV (ts.drop a0)).2 = ts.drop b0) (h:unitsV L ((ts.drop a0).length + 1) (.mk tg [] [] [] []) (ts.drop b0) = none):compV L (ts.drop a0) = none:=by
 unfold compV
 rw [h1,h2,h]
 rfl
theorem slot_own {g m c:Nat} {q:Nat} (h:(Value.slice (some ⟨g,0,none⟩) m c).ownBlock = some q):q = g:=by simpa [Value.ownBlock] using h.symm
abbrev nilS:Value:=.slice none 0 0
structure CmSt (n₀ R:Nat) (v:Value) (ts:List Bt) (d:Nat) (w:World) (c:Cp) (i k a p:Value) (b:Nat) (bad:Bool) (W:World):Prop where
 z:Blk W w.heap.size 140 [.string ⟨#[]⟩,nilS,nilS,nilS,nilS]
 u:CUx d (w.heap.size + 1) W (w.heap.size + 1) c i k a p
 pk:Pk n₀ W R v ts b bad (8 - (d:Int))
 but:But R w W
 hR:R < w.heap.size
section
variable {n₀ R:Nat} {v:Value} {ts:List Bt} {d:Nat} {w:World} {c:Cp} {i k a p:Value} {b:Nat} {bad:Bool} {W W':World}
theorem CmSt.below (h:CmSt n₀ R v ts d w c i k a p b bad W) (hb:Below W.heap.size W W'):CmSt n₀ R v ts d w c i k a p b bad W':=⟨h.z.below hb h.z.lt,h.u.below hb,h.pk.below hb,h.but.trans (But.of_below hb),h.hR⟩
theorem CmSt.go (h:CmSt n₀ R v ts d w c i k a p b bad W) {b':Nat} {bad':Bool} (hP:Pk n₀ W' R v ts b' bad' (8 - (d:Int))) (hb:But R W W'):CmSt n₀ R v ts d w c i k a p b' bad' W':=by
 have:=h.hR
 exact ⟨hb.blk h.z (by omega),h.u.but hb (by omega),hP,h.but.trans hb,h.hR⟩
theorem CmSt.at (h:CmSt n₀ R v ts d w c i k a p b bad W) {b':Nat} (hb:b' ≤ ts.length + 10):CmSt n₀ R v ts d w c i k a p b' bad (W.setCell ⟨R,1,none⟩ (.int .i64 b')):=h.go (h.pk.set hb) (But.set R W 1 _)
theorem CmSt.spoil (h:CmSt n₀ R v ts d w c i k a p b bad W) (q:Bool):CmSt n₀ R v ts d w c i k a p b q (W.setCell ⟨R,2,none⟩ (.bool q)):=h.go (h.pk.spoil q) (But.set R W 2 _)
theorem CmSt.row (h:CmSt n₀ R v ts d w c i k a p b bad W) {X Y:World} (hX:Below W.heap.size W X) {r:Option Nat} (hg:X.grownBy Y r) (hr:∀ g,r = some g → w.heap.size + 1 ≤ g) (j:Nat) (q:Value) {c':Cp} {i' k' a' p':Value} (hu:CUx d (w.heap.size + 1) (Y.setCell ⟨w.heap.size + 1,j,none⟩ q) (w.heap.size + 1) c' i' k' a' p'):CmSt n₀ R v ts d w c' i' k' a' p' b bad (Y.setCell ⟨w.heap.size + 1,j,none⟩ q):=by
 have h1:=h.hR
 have h2:=h.pk.low
 have hS:=h.below hX
 have kY:Kept (fun b => b < w.heap.size + 1) X Y:=Kept.of_grown hg (fun g e hlt => by have:=hr g e;omega)
 have kZ:Kept (fun b => b < w.heap.size + 1) X (Y.setCell ⟨w.heap.size + 1,j,none⟩ q):=kY.trans (Kept.setCell Y _ q (by simp))
 refine ⟨kZ.blk hS.z (by omega),hu,⟨kZ.blk hS.pk.blk (by omega),hS.pk.toks.below (kZ.below (Nat.le_trans hS.pk.low (Nat.le_of_lt hS.pk.lt)) (fun b hb => by omega)),hS.pk.low,hS.pk.least,hS.pk.most⟩,?_,h1⟩
 exact ⟨kZ.os.trans hS.but.os,kZ.tape.trans hS.but.tape,kZ.output.trans hS.but.output,Nat.le_trans hS.but.size kZ.size,fun j hj hne => (kZ.block j (Nat.lt_of_lt_of_le hj hS.but.size) (by omega)).trans (hS.but.block j hj hne)⟩
end
end Go.Proofs.YtcmmdojlhfmddaaGreat.Sr

/- The document's own reader of selectors: a compound (compound). -/
namespace Go.Proofs.YtcmmdojlhfmddaaGreat.Sr
open Go.Proofs.YtcmmdojlhfmddaaGreat.Tre
open Go Go.RowKit Sl
def CompOut (n₀ R:Nat) (v:Value) (ts:List Bt) (d:Nat) (w:World) (a:Nat) (V:Option (Cp × List Bt)) (e:Ending) (w':World):Prop:=
 ∃ (c:Cp) (i k a' p:Value) (b:Nat) (bad:Bool),e = .returned (.agg #[.string c.tag,i,k,a',p]) ∧ CpT (SelsAt d (fun b => w.heap.size ≤ b) w') (fun b => w.heap.size ≤ b) w' [.string c.tag,i,k,a',p] c ∧ Pk n₀ w' R v ts b bad (8 - (d:Int)) ∧ a ≤ b ∧ ((bad = false ∧ V = some (c,ts.drop b) ∧ b ≤ ts.length) ∨ (V = none ∧ (bad = true ∨ bad = false ∧ isSg (at' ts b) 46 = true))) ∧ But R w w'
theorem CmSt.out {n₀ R:Nat} {v:Value} {ts:List Bt} {d:Nat} {w:World} {c:Cp} {i k a' p:Value} {b:Nat} {bad:Bool} {W:World} (h:CmSt n₀ R v ts d w c i k a' p b bad W) {a:Nat} {V:Option (Cp × List Bt)} (hab:a ≤ b) (hv:(bad = false ∧ V = some (c,ts.drop b) ∧ b ≤ ts.length) ∨ (V = none ∧ (bad = true ∨ bad = false ∧ isSg (at' ts b) 46 = true))) :
  (loadVar 140 ⟨w.heap.size,0,none⟩).run Tryz.prog (set5 W w.heap.size (.string c.tag) i k a' p) = .ok (.agg #[.string c.tag,i,k,a',p]) (set5 W w.heap.size (.string c.tag) i k a' p) ∧
  CompOut n₀ R v ts d w a V (.returned (.agg #[.string c.tag,i,k,a',p])) (set5 W w.heap.size (.string c.tag) i k a' p):=by
 have h1:=h.hR
 have h2:=h.pk.low
 have g:=grown_set5 W w.heap.size (.string c.tag) i k a' p
 have fr:Fr (fun b => w.heap.size + 1 ≤ b) (fun b => w.heap.size ≤ b) W (set5 W w.heap.size (.string c.tag) i k a' p):=⟨g.size,fun x hx hl => ⟨g.block x hl.lt (fun e => by cases e;omega),by omega⟩⟩
 refine ⟨load_cp (blk_set5 h.z _ _ _ _ _),c,i,k,a',p,b,bad,rfl,h.u.done.fr fr (fun _ _ hq => SelsAt.fr d hq fr),?_,hab,hv,?_⟩
 ·exact ((((h.pk.other (by omega) (by omega) _).other (by omega) (by omega) _).other (by omega) (by omega) _).other (by omega) (by omega) _).other (by omega) (by omega) _
 ·exact ((((h.but.fresh (Nat.le_refl _) _).fresh (Nat.le_refl _) _).fresh (Nat.le_refl _) _).fresh (Nat.le_refl _) _).fresh (Nat.le_refl _) _
theorem CUx.tag {d n:Nat} {W:World} {C:Nat} {t:ByteArray} (h:CUx d n W C (.mk t [] [] [] []) nilS nilS nilS nilS) (tg:ByteArray):CUx d n (W.setCell ⟨C,0,none⟩ (.string tg)) C (.mk tg [] [] [] []) nilS nilS nilS nilS:=
 ⟨blk_put h.blk 0 _,h.nC,UndRow.nil _ _ _ _ _ _,UndRow.nil _ _ _ _ _ _,UndRow.nil _ _ _ _ _ _,UndRow.nil _ _ _ _ _ _,fun g hg => by simp [Value.ownBlock] at hg⟩
def TagIs (ts:List Bt) (a:Nat) (tg:ByteArray) (b0 m:Nat):Prop:=(tagV (ts.drop a)).1 = tg ∧ (tagV (ts.drop a)).2 = ts.drop b0 ∧ b0 ≤ ts.length ∧ ((m = 0 ∧ b0 = a) ∨ (m = 1 ∧ b0 = a + 1))
theorem tag_at (ts:List Bt) (a:Nat):tagV (ts.drop a) = if isSg (at' ts a) 42 then (⟨#[]⟩,ts.drop (a + 1)) else if (at' ts a).kind = 1 then (lowS (at' ts a).text,ts.drop (a + 1)) else (⟨#[]⟩,ts.drop a):=by
 by_cases hl:a < ts.length
 ·rw [at_cons hl];rfl
 ·rw [(at_none (by omega)).1,(at_none (by omega)).2,List.drop_eq_nil_of_le (by omega)];rfl
def CoV (L:Inner) (ts:List Bt) (a:Nat) (U:Option (Cp × List Bt)) (m b:Nat) (bad:Bool) (c:Cp):Prop:=
 a ≤ b ∧ Small c b ∧ (m = 0 ↔ b = a) ∧ m ≤ b ∧ (bad = true → U = none) ∧ (bad = false → b ≤ ts.length ∧ ∃ f,(ts.drop b).length < f ∧ unitsV L f c (ts.drop b) = U)
theorem Small.mono {c:Cp} {m n:Nat} (h:Small c m) (hmn:m ≤ n):Small c n:=⟨Nat.le_trans h.1 hmn,Nat.le_trans h.2.1 hmn,Nat.le_trans h.2.2.1 hmn,Nat.le_trans h.2.2.2 hmn⟩
theorem CoV.yes {L:Inner} {ts:List Bt} {a:Nat} {U:Option (Cp × List Bt)} {m b:Nat} {c:Cp} (h:CoV L ts a U m b false c) (hU:begU (at' ts b) = true) {c':Cp} {b':Nat} (hb:b + 1 ≤ b') (hl:b' ≤ ts.length) (hu:unitV L c (at' ts b) (ts.drop (b + 1)) = some (c',ts.drop b')):CoV L ts a U (m + 1) b' false c':=by
 obtain ⟨h1,h2,h3,h4,_,h6⟩:=h
 obtain ⟨h7,f,h8,h9⟩:=h6 rfl
 obtain ⟨g,hg,hv⟩:=units_yes (L:=L) (c:=c) h8 hU
 refine ⟨by omega,(unitV_small hu h2).mono hb,by omega,by omega,fun h => (by cases h),fun _ => ⟨hl,g,?_,?_⟩⟩
 ·rw [List.length_drop] at hg ⊢;omega
 ·rw [← h9,hv,hu];rfl
theorem CoV.no {L:Inner} {ts:List Bt} {a:Nat} {U:Option (Cp × List Bt)} {m b:Nat} {c:Cp} (h:CoV L ts a U m b false c) (hU:begU (at' ts b) = true) {c':Cp} {b':Nat} (hb:b + 1 ≤ b') (hs:Small c' (b + 1)) (hu:unitV L c (at' ts b) (ts.drop (b + 1)) = none):CoV L ts a U (m + 1) b' true c':=by
 obtain ⟨h1,h2,h3,h4,_,h6⟩:=h
 obtain ⟨h7,f,h8,h9⟩:=h6 rfl
 obtain ⟨g,hg,hv⟩:=units_yes (L:=L) (c:=c) h8 hU
 refine ⟨by omega,hs.mono hb,by omega,by omega,fun _ => ?_,fun h => by cases h⟩
 rw [← h9,hv,hu];rfl
theorem Small.addAttr {c:Cp} {m:Nat} (h:Small c m) (x:At):Small (c.addAttr x) (m + 1):=by
 obtain ⟨e1,e2,e3,e4⟩:=Cp.addAttr_len c x
 obtain ⟨h1,h2,h3,h4⟩:=h
 exact ⟨by omega,by omega,by omega,by omega⟩
theorem Small.addPs {c:Cp} {m:Nat} (h:Small c m) (x:Ps):Small (c.addPs x) (m + 1):=by
 obtain ⟨e1,e2,e3,e4⟩:=Cp.addPs_len c x
 obtain ⟨h1,h2,h3,h4⟩:=h
 exact ⟨by omega,by omega,by omega,by omega⟩
theorem CoV.done {L:Inner} {ts:List Bt} {a b0:Nat} {tg:ByteArray} {m b m0:Nat} {c:Cp} (hT:TagIs ts a tg b0 m0) (h:CoV L ts a (unitsV L ((ts.drop a).length + 1) (.mk tg [] [] [] []) (ts.drop b0)) m b false c) (hn:begU (at' ts b) = false) :
  (decide (m = 0) = false ∧ compV L (ts.drop a) = some (c,ts.drop b) ∧ b ≤ ts.length) ∨ (compV L (ts.drop a) = none ∧ (decide (m = 0) = true ∨ decide (m = 0) = false ∧ isSg (at' ts b) 46 = true)):=by
 obtain ⟨h1,h2,h3,h4,_,h6⟩:=h
 obtain ⟨h7,f,h8,h9⟩:=h6 rfl
 rw [units_no h8 hn] at h9
 by_cases hm:m = 0
 ·exact .inr ⟨comp_no hT.1 hT.2.1 h9.symm (by omega),.inl (decide_eq_true hm)⟩
 ·exact .inl ⟨decide_eq_false hm,comp_yes hT.1 hT.2.1 h9.symm h7 (by omega),h7⟩
theorem CoV.dot {L:Inner} {ts:List Bt} {a b0:Nat} {tg:ByteArray} {m b m0:Nat} {c:Cp} (hT:TagIs ts a tg b0 m0) (h:CoV L ts a (unitsV L ((ts.drop a).length + 1) (.mk tg [] [] [] []) (ts.drop b0)) m b false c) (hd:isSg (at' ts b) 46 = true) (hn:¬ (at' ts (b + 1)).kind = 1) :
  (decide (m = 0) = false ∧ compV L (ts.drop a) = some (c,ts.drop b) ∧ b ≤ ts.length) ∨ (compV L (ts.drop a) = none ∧ (decide (m = 0) = true ∨ decide (m = 0) = false ∧ isSg (at' ts b) 46 = true)):=by
 obtain ⟨h1,h2,h3,h4,_,h6⟩:=h
 obtain ⟨h7,f,h8,h9⟩:=h6 rfl
 have hk:(at' ts b).kind = 10 ∧ (at' ts b).c = 46:=by simpa [isSg] using hd
 have hU:begU (at' ts b) = true:=by unfold begU;rw [hd];simp
 obtain ⟨g,hg,hv⟩:=units_yes (L:=L) (c:=c) h8 hU
 rw [unit_class (by omega) (by omega) (by omega),if_neg hn] at hv
 rw [hv] at h9
 refine .inr ⟨comp_none hT.1 hT.2.1 h9.symm,?_⟩
 by_cases hm:m = 0
 ·exact .inl (decide_eq_true hm)
 ·exact .inr ⟨decide_eq_false hm,hd⟩
theorem CoV.bad {L:Inner} {ts:List Bt} {a b0:Nat} {tg:ByteArray} {m b m0:Nat} {c:Cp} (hT:TagIs ts a tg b0 m0) (h:CoV L ts a (unitsV L ((ts.drop a).length + 1) (.mk tg [] [] [] []) (ts.drop b0)) m b true c):compV L (ts.drop a) = none:=comp_none hT.1 hT.2.1 (h.2.2.2.2.1 rfl)
theorem CoV.start {L:Inner} {ts:List Bt} {a b0 m0:Nat} {tg:ByteArray} (hT:TagIs ts a tg b0 m0):CoV L ts a (unitsV L ((ts.drop a).length + 1) (.mk tg [] [] [] []) (ts.drop b0)) m0 b0 false (.mk tg [] [] [] []):=by
 obtain ⟨h1,h2,h3,h4⟩:=hT
 refine ⟨by omega,⟨Nat.zero_le _,Nat.zero_le _,Nat.zero_le _,Nat.zero_le _⟩,by omega,by omega,fun h => (by cases h),fun _ => ⟨h3,_,?_,rfl⟩⟩
 rw [List.length_drop,List.length_drop];omega
end Go.Proofs.YtcmmdojlhfmddaaGreat.Sr

/- The document's own reader of selectors: a compound (compound), at every place. -/
set_option maxRecDepth 100000
namespace Go.Proofs.YtcmmdojlhfmddaaGreat.Sr
open Go.Proofs.YtcmmdojlhfmddaaGreat.Tre
open Go Go.RowKit Sl
theorem mzero (m:Nat):((m:Int) == 0) = decide (m = 0):=by
 by_cases h:m = 0
 ·subst h;rfl
 ·rw [decide_eq_false h,beq_eq_false_iff_ne];omega
set_option maxHeartbeats 4000000 in
theorem compound_any (n₀ R:Nat) (v:Value) (ts:List Bt) (a d:Nat) (w:World) (hP:Pk n₀ w R v ts a false (8 - (d:Int))) (ha:a ≤ ts.length) (hG:Sl.Good ts) (hI:InOK n₀ d) :
  Calls Tryz.prog 73 #[.pointer (some ⟨R,0,none⟩)] w (CompOut n₀ R v ts d w a (compV (innerV d) (ts.drop a))):=by
 have hlm:=hP.most
 have hR:=hP.lt
 obtain ⟨W2,hW2⟩:∃ W2,(w.alloc (.cells #[.string ⟨#[]⟩,nilS,nilS,nilS,nilS] 140)).alloc (.cells #[.string ⟨#[]⟩,nilS,nilS,nilS,nilS] 140) = W2:=⟨_,rfl⟩
 have b0:Below w.heap.size w W2:=by rw [← hW2];exact ((Below.refl _ w).alloc (Nat.le_refl _) _).alloc (by rw [World.size_alloc];omega) _
 have kZ:Blk W2 w.heap.size 140 [.string ⟨#[]⟩,nilS,nilS,nilS,nilS]:=by rw [← hW2];exact (Blk.new w 140 _).kept (World.grownBy_alloc _ _ none) (by simp)
 have hC0:CUx d (w.heap.size + 1) W2 (w.heap.size + 1) (.mk ⟨#[]⟩ [] [] [] []) nilS nilS nilS nilS:=by
  have:=CUx.new d (w.heap.size + 1) (w.alloc (.cells #[.string ⟨#[]⟩,nilS,nilS,nilS,nilS] 140)) ⟨#[]⟩ (by rw [World.size_alloc];exact Nat.le_refl _)
  rw [World.size_alloc] at this
  rw [← hW2]
  exact this
 have S0:CmSt n₀ R v ts d w (.mk ⟨#[]⟩ [] [] [] []) nilS nilS nilS nilS a false W2:=⟨kZ,hC0,hP.below b0,But.of_below b0,hR⟩
 clear b0 kZ hC0 hP
 have HG:Hid (Sl.Good ts):=hG
 have HI:Hid (InOK n₀ d):=hI
 have hTm:=Sl.Good.at hG a
 have HTG:=tag_at ts a
 clear hG hI
 obtain ⟨V,hV⟩:∃ V,compV (innerV d) (ts.drop a) = V:=⟨_,rfl⟩
 rw [hV]
 have HV:Hid (compV (innerV d) (ts.drop a) = V):=hV
 clear hV
 go_enter Tryz.func73,Tryz.ntmps73
 go_upto_region 3 with fail
 clear hW2
 have h1:=see_any n₀ R v ts a false (8 - (d:Int)) 0 W2 S0.pk (by omega)
 have h2:=fun X hX => see_any n₀ R v ts a false (8 - (d:Int)) 0 X hX (by omega)
 have h3:=fun X hX => delim_any n₀ R v ts a false (8 - (d:Int)) 0 42 X hX (by omega)
 rw [Nat.add_zero] at h1 h2 h3
 obtain ⟨T,hT⟩:∃ T,at' ts a = T:=⟨_,rfl⟩
 rw [hT] at h1 h2 h3 hTm HTG
 replace HTG:Hid (tagV (ts.drop a) = _):=HTG
 unfold tkV at h1 h2
 go_wp2_with fail
 refine h1.mono ?_
 clear h1
 rintro e w3 ⟨rfl,b3⟩
 have S3:=S0.below b3
 clear S0 b3
 have hf0:=tkField0 T.kind T.text T.n T.whole T.c w3
 replace h2:=h2 w3 S3.pk
 replace h3:=h3 w3 S3.pk
 have hw1:IntKind.i64.wrap ((a:Int) + 1) = (a:Int) + 1:=by rw [IntKind.wrap_i64];omega
 go_upto_if 11 with fail
 go_cut [4] (fun x wx => ∃ (m:Nat) (tg:ByteArray) (b0:Nat),x = .int .i64 m ∧ CmSt n₀ R v ts d w (.mk tg [] [] [] []) nilS nilS nilS nilS b0 false wx ∧ TagIs ts a tg b0 m)
 case first =>
  by_cases g1:T.kind = 1
  ·have hla:a < ts.length:=at_lt (by rw [hT,g1];decide)
   have HT:TagIs ts a (lowS T.text) (a + 1) 1:=by
    have h:=(show _ = _ from HTG)
    rw [if_neg (by simp [isSg,g1]),if_pos g1] at h
    exact ⟨by rw [h],by rw [h],hla,.inr ⟨rfl,rfl⟩⟩
   have hlow:=fun X => Lw.refLower_any T.text X (Nat.le_trans hTm.1 (by decide))
   obtain ⟨low,hlw⟩:∃ low:ByteArray,(⟨(Lw.low T.text.data.toList).toArray⟩:ByteArray) = low:=⟨_,rfl⟩
   rw [hlw] at hlow
   rw [show lowS T.text = low from hlw] at HT
   have g1':(T.kind == 1) = true:=by simpa using g1
   clear hlw h3 HTG g1
   go_upto_region 4 with fail
   go_wp2_with fail
   refine h2.mono ?_
   clear h2
   rintro e w4 ⟨rfl,b4⟩
   have hf1:=tkField1 T.kind T.text T.n T.whole T.c w4
   replace hlow:=hlow w4
   go_wp2_with fail
   refine hlow.mono ?_
   clear hlow hf1
   rintro e w5 ⟨rfl,b5⟩
   have S5:=S3.below (below_next b4 b5)
   clear S3 b4 b5
   have S6:=(S5.row (Below.refl _ _) (World.grownBy.refl w5 none) (fun g e => by cases e) 0 (.string low) (CUx.tag S5.u low)).at (b':=a + 1) (by omega)
   push_cast at S6
   obtain ⟨⟨c0,c1,c2,c3,c4⟩,e0,e1,e2,e3,e4⟩:=blk5 S5.u.blk
   obtain ⟨⟨p0,p1,p2,p3⟩,q0,q1,q2,q3⟩:=blk4 S5.pk.blk
   have hCR:w.heap.size + 1 ≠ R:=by omega
   clear S5
   go_wp2
   go_meet
   exact ⟨1,low,a + 1,rfl,S6,HT⟩
  ·have g1':(T.kind == 1) = false:=by simpa using g1
   clear h2
   go_upto_region 7 with fail
   by_cases g42:T.kind = 10 ∧ T.c = 42
   ·have hla:a < ts.length:=at_lt (by rw [hT,g42.1];decide)
    have HT:TagIs ts a ⟨#[]⟩ (a + 1) 1:=by
     have h:=(show _ = _ from HTG)
     rw [if_pos (by simp [isSg,g42])] at h
     exact ⟨by rw [h],by rw [h],hla,.inr ⟨rfl,rfl⟩⟩
    rw [decide_eq_true g42] at h3
    clear HTG g42 g1
    go_wp2_with fail
    refine h3.mono ?_
    clear h3
    rintro e w4 ⟨rfl,b4⟩
    have S4:=S3.below b4
    have S5:=S4.at (b':=a + 1) (by omega)
    push_cast at S5
    obtain ⟨⟨p0,p1,p2,p3⟩,q0,q1,q2,q3⟩:=blk4 S4.pk.blk
    clear S3 b4 S4
    go_wp2
    go_meet
    exact ⟨1,_,a + 1,rfl,S5,HT⟩
   ·have HT:TagIs ts a ⟨#[]⟩ a 0:=by
     have h:=(show _ = _ from HTG)
     rw [if_neg (by simpa [isSg] using g42),if_neg g1] at h
     exact ⟨by rw [h],by rw [h],ha,.inl ⟨rfl,rfl⟩⟩
    rw [decide_eq_false g42] at h3
    clear HTG g42 g1
    go_wp2_with fail
    refine h3.mono ?_
    clear h3
    rintro e w4 ⟨rfl,b4⟩
    have S4:=S3.below b4
    clear S3 b4
    go_wp2
    go_meet
    exact ⟨0,_,a,rfl,S4,HT⟩
 case rest =>
 clear h2 h3 hf0 HTG hTm S3 hT
 obtain ⟨m0,tg,b0,rfl,S4,HT⟩:=hcut
 have hV0:=CoV.start (L:=innerV d) HT
 obtain ⟨U,hU⟩:∃ U,unitsV (innerV d) ((ts.drop a).length + 1) (.mk tg [] [] [] []) (ts.drop b0) = U:=⟨_,rfl⟩
 have HU:Hid (unitsV (innerV d) ((ts.drop a).length + 1) (.mk tg [] [] [] []) (ts.drop b0) = U):=hU
 rw [hU] at hV0
 clear hU
 go_wp2_with fail
 go_loopw [4] (fun x wr => ∃ (m b:Nat) (bad:Bool) (c:Cp) (i k a' p:Value),x = .int .i64 m ∧ CmSt n₀ R v ts d w c i k a' p b bad wr ∧ CoV (innerV d) ts a U m b bad c) (fun _ wr => (ts.length + 20) - placeOf wr R)
 case atStart => exact ⟨m0,b0,false,_,_,_,_,_,rfl,S4,hV0⟩
 case round =>
  clear S4 hV0
  obtain ⟨m,b,bad,c,i,k,a',p,rfl,S,HC⟩:=hrel
  obtain ⟨qi,ci,rfl⟩:=S.u.ri.form
  obtain ⟨qk,ck,rfl⟩:=S.u.rk.form
  obtain ⟨qa,ca,rfl⟩:=S.u.ra.form
  obtain ⟨qp,cp,rfl⟩:=S.u.rp.form
  have hbl:=S.pk.least
  have hpl:=S.pk.place
  obtain ⟨⟨p0,p1,p2,p3⟩,q0,q1,q2,q3⟩:=blk4 S.pk.blk
  cases bad with
  | true =>
   have HV2:Hid (V = none):=(show _ = V from HV).symm.trans (CoV.bad HT (by rw [show _ = U from HU];exact HC))
   have hab:a ≤ b:=HC.1
   obtain ⟨⟨c0,c1,c2,c3,c4⟩,_⟩:=blk5 S.u.blk
   obtain ⟨⟨z0,z1,z2,z3,z4⟩,y0,y1,y2,y3,y4⟩:=blk5 S.z
   obtain ⟨hL,hO⟩:=S.out hab (.inr ⟨HV2,.inl rfl⟩)
   clear HC HV HU HI HG HT
   go_wp2
   exact bodyPost_ret (results_struct rfl _ _ w.heap.size _ rfl hL) rfl hO
  | false =>
   have hb2:b ≤ ts.length:=(HC.2.2.2.2.2 rfl).1
   have hsm:Small c b:=HC.2.1
   have hmb:m ≤ b:=HC.2.2.2.1
   have hw1:IntKind.i64.wrap ((b:Int) + 1) = (b:Int) + 1:=by rw [IntKind.wrap_i64];omega
   have hw2:IntKind.i64.wrap ((b:Int) + 2) = (b:Int) + 2:=by rw [IntKind.wrap_i64];omega
   have hwm:IntKind.i64.wrap ((m:Int) + 1) = (m:Int) + 1:=by rw [IntKind.wrap_i64];omega
   have h1:=see_any n₀ R v ts b false (8 - (d:Int)) 0 wr S.pk (by omega)
   have HSee:Hid (∀ X,Pk n₀ X R v ts b false (8 - (d:Int)) → _):=fun X hX => see_any n₀ R v ts b false (8 - (d:Int)) 0 X hX (by omega)
   have HSee1:Hid (∀ X,Pk n₀ X R v ts b false (8 - (d:Int)) → _):=fun X hX => see_any n₀ R v ts b false (8 - (d:Int)) 1 X hX (by omega)
   have HDel:Hid (∀ X,Pk n₀ X R v ts b false (8 - (d:Int)) → _):=fun X hX => delim_any n₀ R v ts b false (8 - (d:Int)) 0 46 X hX (by omega)
   rw [Nat.add_zero] at h1 HSee HDel
   obtain ⟨T,hT⟩:∃ T,at' ts b = T:=⟨_,rfl⟩
   rw [hT] at h1 HSee HDel
   have HTl:Hid (T.kind ≠ 0 → b < ts.length):=fun h => at_lt (by rw [hT];exact h)
   have HTm:=Sl.Good.at HG b
   rw [hT] at HTm
   replace HTm:Hid _:=HTm
   unfold tkV at h1
   go_upto_region 11 with fail
   clear p0 p1 p2 p3 q0 q1 q2 q3
   go_wp2_with fail
   refine h1.mono ?_
   clear h1
   rintro e w2 ⟨rfl,b2⟩
   replace S:=S.below b2
   clear b2
   have hf0:=tkField0 T.kind T.text T.n T.whole T.c w2
   go_upto_region 14 with fail
   clear hf0
   by_cases g3:T.kind = 3
   ·have g3':(T.kind == 3) = true:=by simpa using g3
    have hU:begU (at' ts b) = true:=by rw [hT];simp [begU,g3]
    have hbl3:b < ts.length:=(show _ → _ from HTl) (by rw [g3];decide)
    have HC':CoV (innerV d) ts a U (m + 1) (b + 1) false (c.addId T.text):=HC.yes hU (Nat.le_refl _) hbl3 (by rw [hT];unfold unitV;rw [if_pos g3])
    clear g3 HC HI HG HT HSee1 HDel HTm HTl HU HV
    go_upto_region 15 with fail
    obtain ⟨css,r1,r2,r3,r4⟩:=S.u.ri
    obtain ⟨i0,hi,hz0,hz1,hz2⟩:=info_parts infoStr3
    have HF:Hid (∀ (X w7:World) (g7 c7:Nat),Below w2.heap.size w2 X → w7.ownsRow (w.heap.size + 1) 9 1 (.slice (some ⟨g7,0,none⟩) (c.ids.length + 1) c7) (c.ids.length + 1) (css.flatten ++ [.string T.text]) → X.grownBy w7 (Value.slice qi c.ids.length ci).ownBlock → ((Value.slice qi c.ids.length ci).ownBlock = some g7 ∨ g7 = X.heap.size) → CmSt n₀ R v ts d w (c.addId T.text) (.slice (some ⟨g7,0,none⟩) (c.ids.length + 1) c7) (.slice qk c.classes.length ck) (.slice qa c.attrs.length ca) (.slice qp c.pss.length cp) b false (w7.setCell ⟨w.heap.size + 1,1,none⟩ (.slice (some ⟨g7,0,none⟩) (c.ids.length + 1) c7))):=fun X w7 g7 c7 hX hown hg hat =>
     S.row hX hg (fun g e => (S.u.ri.lt e).1) 1 _ ((S.below hX).u.addId (x:=T.text) r2 r3 r4 hown hg (fun g hg' => by rw [slot_own hg'];exact hat.imp id (fun h => by rw [h];exact Nat.le_refl _)))
    have HR4:Hid (∀ (X:World) (o:Obj),Below w2.heap.size w2 X → (X.alloc o).ownsRow (w.heap.size + 1) 9 1 (.slice qi c.ids.length ci) c.ids.length css.flatten):=fun X o hX => owns_same r1 (fun g hg => (hX.alloc hX.size o).block g (owns_lt r1 hg).2)
    have H1:∀ u ∈ ([.string T.text]:List Value),u.oneCell' = true:=fun u hu => by simp at hu;subst hu;rfl
    have m1:c.ids.length + 1 ≤ maxLen:=by have:=hsm.1;unfold maxLen;omega
    have m2:(c.ids.length + 1) * 16 ≤ 140737488355328:=by have:=hsm.1;omega
    have HB7:Hid (∀ (X:World) (o:Obj) w7,Below w2.heap.size w2 X → (X.alloc o).grownBy w7 (Value.slice qi c.ids.length ci).ownBlock → Blk w7 (w.heap.size + 1) 140 [.string c.tag,.slice qi c.ids.length ci,.slice qk c.classes.length ck,.slice qa c.attrs.length ca,.slice qp c.pss.length cp]):=fun X o w7 hX hg => (S.below (hX.alloc hX.size o)).u.blk.kept hg (fun e => (S.below (hX.alloc hX.size o)).u.ri.off (S.below (hX.alloc hX.size o)).u.blk (by decide) e.symm)
    have HSZ:Hid (∀ (X:World) (o:Obj),Below w2.heap.size w2 X → (w.heap.size + 1) ≤ (X.alloc o).heap.size):=fun X o hX => by rw [World.size_alloc];have:=hX.size;have:=S.u.blk.lt;omega
    have HBL:Hid (∀ (X:World),Below w2.heap.size w2 X → Blk X (w.heap.size + 1) 140 [.string c.tag,.slice qi c.ids.length ci,.slice qk c.classes.length ck,.slice qa c.attrs.length ca,.slice qp c.pss.length cp]):=fun X hX => (S.below hX).u.blk
    have HSX:Hid (∀ (X:World),Below w2.heap.size w2 X → Calls Tryz.prog 49 #[.pointer (some ⟨R,0,none⟩),.int .i64 0] X fun e w' => e = .returned (.agg #[.int .i64 T.kind,.string T.text,.int .i64 T.n,.bool T.whole,.int .i64 T.c]) ∧ Below X.heap.size X w'):=fun X hX => (show ∀ X,_ → _ from HSee) X (S.pk.below hX)
    have hq0:Below w2.heap.size w2 w2.drew:=below_drew (Below.refl _ _)
    obtain ⟨⟨y0,y1,y2,y3,y4⟩,e0,e1,e2,e3,e4⟩:=blk5 S.u.blk
    clear HSee
    go_region_law (first
     | (refine step_append_lies (w:=World.alloc _ _) rfl _ _ 27 rfl (w.heap.size + 1) 9 i0 (.string ⟨#[]⟩) 1 16 Tryz.underlying27 hi hz0 hz1 hz2 rfl (by decide) (.slice qi c.ids.length ci) _ _ rfl ((show ∀ (X:World) (o:Obj),_ → _ from HR4) _ _ (by assumption)) _ 1 1 [.string T.text] rfl rfl (cells_plain _ [_] _) H1 (by decide) m1 m2 ((show ∀ (X:World) (o:Obj),_ → _ from HSZ) _ _ (by assumption)) _ rfl ?_;intro g7 c7 w7 hown7 hgrow7 hat7 hlt7;obtain ⟨⟨y0,y1,y2,y3,y4⟩,e0,e1,e2,e3,e4⟩:=blk5 ((show ∀ (X:World) (o:Obj) w7,_ → _ → _ from HB7) _ _ w7 (by assumption) hgrow7))
     | (go_simp;go_at_call 49;refine Calls.mono ((show ∀ (X:World),_ → _ from HSX) _ hq0) ?_;rintro e wN ⟨rfl,bN⟩;have hf1:=tkField1 T.kind T.text T.n T.whole T.c wN;have qN:Below w2.heap.size w2 wN:=hq0.trans (bN.mono (Nat.le_refl _));obtain ⟨⟨_,v1,v2,_,_⟩,_⟩:=blk5 ((show ∀ (X:World),_ → _ from HBL) wN qN);obtain ⟨⟨_,va1,va2,_,_⟩,_⟩:=blk5 ((show ∀ (X:World),_ → _ from HBL) (wN.alloc (.cells #[.string T.text] 9)) (qN.alloc qN.size _))))
    all_goals
     have S7:=(show ∀ (X w7:World) (g7 c7:Nat),_ → _ → _ → _ → _ from HF) _ _ _ _ (qN.alloc qN.size (.cells #[.string T.text] 9)) hown7 hgrow7 hat7
     generalize World.setCell w7 ⟨w.heap.size + 1,1,none⟩ _ = W8 at *
     obtain ⟨⟨p0,p1,p2,p3⟩,q0,q1,q2,q3⟩:=blk4 S7.pk.blk
     have S8:=S7.at (b':=b + 1) (by omega)
     rw [show ((b + 1:Nat):Int) = (b:Int) + 1 by omega] at S8
     have hms:ts.length + 20 - placeOf (W8.setCell ⟨R,1,none⟩ (.int .i64 ((b:Int) + 1))) R < ts.length + 20 - placeOf wr R:=by rw [S8.pk.place,hpl];omega
     clear HF HR4 HB7 HSZ HBL HSX S S7 hpl
     go_wp2
     exact ⟨⟨m + 1,b + 1,false,_,_,_,_,_,by go_num,S8,HC'⟩,hms⟩
   have g3':(T.kind == 3) = false:=by simpa using g3
   go_upto_region 17 with fail
   by_cases gd:T.kind = 10 ∧ T.c = 46
   ·have hd:=(show ∀ X,_ → _ from HDel) w2 S.pk
    rw [decide_eq_true gd] at hd
    have hsg:isSg (at' ts b) 46 = true:=by rw [hT];simp [isSg,gd]
    have hU:begU (at' ts b) = true:=by unfold begU;rw [hsg];simp
    have hbl3:b < ts.length:=(show _ → _ from HTl) (by rw [gd.1];decide)
    have hcl:=unit_class (L:=innerV d) (c:=c) (t:=T) (ts:=ts) (a:=b + 1) g3 (by omega) (by omega)
    replace hcl:Hid _:=hcl
    have e18:(T.kind == 18) = false:=by rw [gd.1];rfl
    have e11:(T.kind == 11) = false:=by rw [gd.1];rfl
    clear g3 HDel HTm HTl gd HSee
    go_wp2_with fail
    refine hd.mono ?_
    clear hd
    rintro e w3 ⟨rfl,b3⟩
    replace S:=S.below b3
    clear b3
    have h1:=(show ∀ X,_ → _ from HSee1) w3 S.pk
    obtain ⟨N,hN⟩:∃ N,at' ts (b + 1) = N:=⟨_,rfl⟩
    have HS1:Hid (∀ X,Pk n₀ X R v ts b false (8 - (d:Int)) → Calls Tryz.prog 49 #[.pointer (some ⟨R,0,none⟩),.int .i64 1] X fun e w' => e = .returned (.agg #[.int .i64 N.kind,.string N.text,.int .i64 N.n,.bool N.whole,.int .i64 N.c]) ∧ Below X.heap.size X w'):=fun X hX => by rw [← hN];exact (show ∀ X,_ → _ from HSee1) X hX
    clear HSee1
    have HSee1:=HS1
    clear HS1
    rw [hN] at h1
    have hcl2:unitV (innerV d) c T (ts.drop (b + 1)) = if N.kind = 1 then some (c.addClass N.text,ts.drop (b + 2)) else none:=by rw [← hN];exact hcl
    replace hcl2:Hid _:=hcl2
    clear hcl
    unfold tkV at h1
    go_wp2_with fail
    refine h1.mono ?_
    clear h1
    rintro e w4 ⟨rfl,b4⟩
    replace S:=S.below b4
    clear b4
    have hf0:=tkField0 N.kind N.text N.n N.whole N.c w4
    by_cases gn:N.kind = 1
    ·have hbl4:b + 1 < ts.length:=at_lt (by rw [hN,gn];decide)
     have HC':CoV (innerV d) ts a U (m + 1) (b + 2) false (c.addClass N.text):=HC.yes hU (by omega) hbl4 (by rw [hT,show unitV _ _ _ _ = _ from hcl2,if_pos gn])
     have gn':(N.kind == 1) = true:=by simpa using gn
     clear gn HC HI HG HT HU HV hcl2 hsg hU
     go_upto_region 18 with fail
     clear hf0
     obtain ⟨css,r1,r2,r3,r4⟩:=S.u.rk
     obtain ⟨i0,hi,hz0,hz1,hz2⟩:=info_parts infoStr3
     have HF:Hid (∀ (X w7:World) (g7 c7:Nat),Below w4.heap.size w4 X → w7.ownsRow (w.heap.size + 1) 9 1 (.slice (some ⟨g7,0,none⟩) (c.classes.length + 1) c7) (c.classes.length + 1) (css.flatten ++ [.string N.text]) → X.grownBy w7 (Value.slice qk c.classes.length ck).ownBlock → ((Value.slice qk c.classes.length ck).ownBlock = some g7 ∨ g7 = X.heap.size) → CmSt n₀ R v ts d w (c.addClass N.text) (.slice qi c.ids.length ci) (.slice (some ⟨g7,0,none⟩) (c.classes.length + 1) c7) (.slice qa c.attrs.length ca) (.slice qp c.pss.length cp) b false (w7.setCell ⟨w.heap.size + 1,2,none⟩ (.slice (some ⟨g7,0,none⟩) (c.classes.length + 1) c7))):=fun X w7 g7 c7 hX hown hg hat =>
      S.row hX hg (fun g e => (S.u.rk.lt e).1) 2 _ ((S.below hX).u.addClass (x:=N.text) r2 r3 r4 hown hg (fun g hg' => by rw [slot_own hg'];exact hat.imp id (fun h => by rw [h];exact Nat.le_refl _)))
     have HR4:Hid (∀ (X:World) (o:Obj),Below w4.heap.size w4 X → (X.alloc o).ownsRow (w.heap.size + 1) 9 1 (.slice qk c.classes.length ck) c.classes.length css.flatten):=fun X o hX => owns_same r1 (fun g hg => (hX.alloc hX.size o).block g (owns_lt r1 hg).2)
     have H1:∀ u ∈ ([.string N.text]:List Value),u.oneCell' = true:=fun u hu => by simp at hu;subst hu;rfl
     have m1:c.classes.length + 1 ≤ maxLen:=by have:=hsm.2.1;unfold maxLen;omega
     have m2:(c.classes.length + 1) * 16 ≤ 140737488355328:=by have:=hsm.2.1;omega
     have HB7:Hid (∀ (X:World) (o:Obj) w7,Below w4.heap.size w4 X → (X.alloc o).grownBy w7 (Value.slice qk c.classes.length ck).ownBlock → Blk w7 (w.heap.size + 1) 140 [.string c.tag,.slice qi c.ids.length ci,.slice qk c.classes.length ck,.slice qa c.attrs.length ca,.slice qp c.pss.length cp]):=fun X o w7 hX hg => (S.below (hX.alloc hX.size o)).u.blk.kept hg (fun e => (S.below (hX.alloc hX.size o)).u.rk.off (S.below (hX.alloc hX.size o)).u.blk (by decide) e.symm)
     have HSZ:Hid (∀ (X:World) (o:Obj),Below w4.heap.size w4 X → (w.heap.size + 1) ≤ (X.alloc o).heap.size):=fun X o hX => by rw [World.size_alloc];have:=hX.size;have:=S.u.blk.lt;omega
     have HBL:Hid (∀ (X:World),Below w4.heap.size w4 X → Blk X (w.heap.size + 1) 140 [.string c.tag,.slice qi c.ids.length ci,.slice qk c.classes.length ck,.slice qa c.attrs.length ca,.slice qp c.pss.length cp]):=fun X hX => (S.below hX).u.blk
     have HSX:Hid (∀ (X:World),Below w4.heap.size w4 X → Calls Tryz.prog 49 #[.pointer (some ⟨R,0,none⟩),.int .i64 1] X fun e w' => e = .returned (.agg #[.int .i64 N.kind,.string N.text,.int .i64 N.n,.bool N.whole,.int .i64 N.c]) ∧ Below X.heap.size X w'):=fun X hX => (show ∀ X,_ → _ from HSee1) X (S.pk.below hX)
     have hq0:Below w4.heap.size w4 w4.drew:=below_drew (Below.refl _ _)
     obtain ⟨⟨y0,y1,y2,y3,y4⟩,e0,e1,e2,e3,e4⟩:=blk5 S.u.blk
     clear HSee1
     go_region_law (first
      | (refine step_append_lies (w:=World.alloc _ _) rfl _ _ 27 rfl (w.heap.size + 1) 9 i0 (.string ⟨#[]⟩) 1 16 Tryz.underlying27 hi hz0 hz1 hz2 rfl (by decide) (.slice qk c.classes.length ck) _ _ rfl ((show ∀ (X:World) (o:Obj),_ → _ from HR4) _ _ (by assumption)) _ 1 1 [.string N.text] rfl rfl (cells_plain _ [_] _) H1 (by decide) m1 m2 ((show ∀ (X:World) (o:Obj),_ → _ from HSZ) _ _ (by assumption)) _ rfl ?_;intro g7 c7 w7 hown7 hgrow7 hat7 hlt7;obtain ⟨⟨y0,y1,y2,y3,y4⟩,e0,e1,e2,e3,e4⟩:=blk5 ((show ∀ (X:World) (o:Obj) w7,_ → _ → _ from HB7) _ _ w7 (by assumption) hgrow7))
      | (go_simp;go_at_call 49;refine Calls.mono ((show ∀ (X:World),_ → _ from HSX) _ hq0) ?_;rintro e wN ⟨rfl,bN⟩;have hf1:=tkField1 N.kind N.text N.n N.whole N.c wN;have qN:Below w4.heap.size w4 wN:=hq0.trans (bN.mono (Nat.le_refl _));obtain ⟨⟨_,v1,v2,_,_⟩,_⟩:=blk5 ((show ∀ (X:World),_ → _ from HBL) wN qN);obtain ⟨⟨_,va1,va2,_,_⟩,_⟩:=blk5 ((show ∀ (X:World),_ → _ from HBL) (wN.alloc (.cells #[.string N.text] 9)) (qN.alloc qN.size _))))
     all_goals
      have S7:=(show ∀ (X w7:World) (g7 c7:Nat),_ → _ → _ → _ → _ from HF) _ _ _ _ (qN.alloc qN.size (.cells #[.string N.text] 9)) hown7 hgrow7 hat7
      generalize World.setCell w7 ⟨w.heap.size + 1,2,none⟩ _ = W8 at *
      obtain ⟨⟨p0,p1,p2,p3⟩,q0,q1,q2,q3⟩:=blk4 S7.pk.blk
      have S8:=S7.at (b':=b + 2) (by omega)
      rw [show ((b + 2:Nat):Int) = (b:Int) + 2 by omega] at S8
      have hms:ts.length + 20 - placeOf (W8.setCell ⟨R,1,none⟩ (.int .i64 ((b:Int) + 2))) R < ts.length + 20 - placeOf wr R:=by rw [S8.pk.place,hpl];omega
      clear HF HR4 HB7 HSZ HBL HSX S S7 hpl
      go_wp2
      exact ⟨⟨m + 1,b + 2,false,_,_,_,_,_,by go_num,S8,HC'⟩,hms⟩
    ·have HEND:Hid (∀ B,decide (m = 0) = B → (B = false ∧ V = some (c,ts.drop b) ∧ b ≤ ts.length) ∨ (V = none ∧ (B = true ∨ B = false ∧ isSg (at' ts b) 46 = true))):=fun B hB => by
      rw [← hB,← show _ = V from HV]
      exact CoV.dot HT (by rw [show _ = U from HU];exact HC) hsg (by rw [hN];exact gn)
     have gn':(N.kind == 1) = false:=by simpa using gn
     have HSee:=HSee1
     clear gn HU HV HT hcl2 hsg hU
     go_upto_region 12 with fail
     clear hf0
     obtain ⟨B,HB⟩:∃ B,Hid (decide (m = 0) = B):=⟨_,rfl⟩
     have hmB:((m:Int) == 0) = B:=(mzero m).trans HB
     obtain ⟨⟨p0,p1,p2,p3⟩,q0,q1,q2,q3⟩:=blk4 S.pk.blk
     have S8:=S.spoil B
     have hab:a ≤ b:=HC.1
     have HE:Hid _:=HEND B HB
     clear HC HEND HSee HSee1 HI HG HB S
     go_upto_region 13 with fail
     generalize World.setCell _ ⟨R,2,none⟩ (.bool B) = W8 at *
     clear p0 p1 p2 p3 q0 q1 q2 q3
     obtain ⟨⟨c0,c1,c2,c3,c4⟩,_⟩:=blk5 S8.u.blk
     obtain ⟨⟨z0,z1,z2,z3,z4⟩,y0,y1,y2,y3,y4⟩:=blk5 S8.z
     obtain ⟨hL,hO⟩:=S8.out hab HE
     go_wp2
     exact bodyPost_ret (results_struct rfl _ _ w.heap.size _ rfl hL) rfl hO
   have hd:=(show ∀ X,_ → _ from HDel) w2 S.pk
   rw [decide_eq_false gd] at hd
   go_wp2_with fail
   refine hd.mono ?_
   clear hd HDel
   rintro e w3 ⟨rfl,b3⟩
   replace S:=S.below b3
   clear b3
   go_upto_region 20 with fail
   by_cases g18:T.kind = 18
   ·have g18':(T.kind == 18) = true:=by simpa using g18
    have hU:begU (at' ts b) = true:=by rw [hT];simp [begU,g18]
    have hbl3:b < ts.length:=(show _ → _ from HTl) (by rw [g18];decide)
    have hun:Hid (unitV (innerV d) c (at' ts b) (ts.drop (b + 1)) = (attrV (ts.drop (b + 1))).map fun x => (c.addAttr x.1,x.2)):=by rw [hT];show _ = _;unfold unitV;rw [if_neg g3,if_pos g18]
    have S4:=S.at (b':=b + 1) (by omega)
    rw [show ((b + 1:Nat):Int) = (b:Int) + 1 by omega] at S4
    obtain ⟨⟨p0,p1,p2,p3⟩,q0,q1,q2,q3⟩:=blk4 S.pk.blk
    clear g3 gd g18 HI HSee HSee1 HTm HTl HV HT HU
    go_upto_region 22 with fail
    clear p0 p1 p2 p3 q0 q1 q2 q3 S
    generalize World.setCell _ ⟨R,1,none⟩ _ = W4 at *
    have h4:=attr_any n₀ R v ts (b + 1) (8 - (d:Int)) W4 S4.pk hbl3 HG
    go_wp2_with fail
    refine h4.mono ?_
    clear h4 HG
    rintro e w5 ⟨x,b',bad',rfl,hPb,hbb,hres,hb5⟩
    have HC':CoV (innerV d) ts a U (m + 1) b' bad' (c.addAttr x):=by
     rcases hres with ⟨rfl,h1,h2⟩ | ⟨rfl,h1⟩
     ·exact HC.yes hU hbb h2 (by rw [show unitV _ _ _ _ = _ from hun,h1];rfl)
     ·exact HC.no hU hbb (hsm.addAttr x) (by rw [show unitV _ _ _ _ = _ from hun,h1];rfl)
    have S5:=S4.go hPb hb5
    have hbl5:=hPb.least
    clear HC hun hU hres S4 hPb hb5
    have bA:Below w5.heap.size w5 (w5.alloc (.cells #[.string x.name,.int .i64 x.op,.string x.text] 157)):=(Below.refl _ _).alloc (Nat.le_refl _) _
    have kA:Blk (w5.alloc (.cells #[.string x.name,.int .i64 x.op,.string x.text] 157)) w5.heap.size 157 [.string x.name,.int .i64 x.op,.string x.text]:=Blk.new w5 157 _
    have S6:=S5.below bA
    clear bA S5
    go_upto_region 23 with fail
    generalize w5.alloc (.cells #[.string x.name,.int .i64 x.op,.string x.text] 157) = w6 at *
    obtain ⟨css,r1,r2,r3,r4⟩:=S6.u.ra
    obtain ⟨i0,hi,hz0,hz1,hz2⟩:=info_parts infoAt3
    obtain ⟨⟨x0,x1,x2⟩,_⟩:=blk3 kA
    obtain ⟨⟨y0,y1,y2,y3,y4⟩,e0,e1,e2,e3,e4⟩:=blk5 S6.u.blk
    have bE:Below w6.heap.size w6 (w6.alloc (.cells #[.string x.name,.int .i64 x.op,.string x.text] 157)):=(Below.refl _ _).alloc (Nat.le_refl _) _
    have hR4:(w6.alloc (.cells #[.string x.name,.int .i64 x.op,.string x.text] 157)).ownsRow (w.heap.size + 1) 157 3 (.slice qa c.attrs.length ca) c.attrs.length css.flatten:=owns_same r1 (fun g hg => bE.block g (owns_lt r1 hg).2)
    have H1:∀ u ∈ ([.string x.name,.int .i64 x.op,.string x.text]:List Value),u.oneCell' = true:=fun u hu => by simp at hu;rcases hu with rfl | rfl | rfl <;> rfl
    have m1:c.attrs.length + 1 ≤ maxLen:=by have:=hsm.2.2.1;unfold maxLen;omega
    have m2:(c.attrs.length + 1) * 40 ≤ 140737488355328:=by have:=hsm.2.2.1;omega
    have hSZ:w.heap.size + 1 ≤ (w6.alloc (.cells #[.string x.name,.int .i64 x.op,.string x.text] 157)).heap.size:=by rw [World.size_alloc];have:=S6.u.blk.lt;omega
    have HB7:Hid (∀ w7,(w6.alloc (.cells #[.string x.name,.int .i64 x.op,.string x.text] 157)).grownBy w7 (Value.slice qa c.attrs.length ca).ownBlock → Blk w7 (w.heap.size + 1) 140 [.string c.tag,.slice qi c.ids.length ci,.slice qk c.classes.length ck,.slice qa c.attrs.length ca,.slice qp c.pss.length cp]):=fun w7 hg => (S6.below bE).u.blk.kept hg (fun e => (S6.below bE).u.ra.off (S6.below bE).u.blk (by decide) e.symm)
    have HF:Hid (∀ (w7:World) (g7 c7:Nat),w7.ownsRow (w.heap.size + 1) 157 3 (.slice (some ⟨g7,0,none⟩) (c.attrs.length + 1) c7) (c.attrs.length + 1) (css.flatten ++ [.string x.name,.int .i64 x.op,.string x.text]) → (w6.alloc (.cells #[.string x.name,.int .i64 x.op,.string x.text] 157)).grownBy w7 (Value.slice qa c.attrs.length ca).ownBlock → ((Value.slice qa c.attrs.length ca).ownBlock = some g7 ∨ g7 = (w6.alloc (.cells #[.string x.name,.int .i64 x.op,.string x.text] 157)).heap.size) → CmSt n₀ R v ts d w (c.addAttr x) (.slice qi c.ids.length ci) (.slice qk c.classes.length ck) (.slice (some ⟨g7,0,none⟩) (c.attrs.length + 1) c7) (.slice qp c.pss.length cp) b' bad' (w7.setCell ⟨w.heap.size + 1,3,none⟩ (.slice (some ⟨g7,0,none⟩) (c.attrs.length + 1) c7))):=fun w7 g7 c7 hown hg hat =>
     S6.row bE hg (fun g e => (S6.u.ra.lt e).1) 3 _ ((S6.below bE).u.addAttr (x:=x) r2 r3 r4 hown hg (fun g hg' => by rw [slot_own hg'];exact hat.imp id (fun h => by rw [h];exact Nat.le_refl _)))
    clear S6 bE r1 r2 r3 r4 kA
    go_wp2_with (at_builtin;refine wpList_append_lies (w6.alloc (.cells #[.string x.name,.int .i64 x.op,.string x.text] 157)) rfl _ _ 137 rfl (w.heap.size + 1) 157 i0 (.agg #[.string ⟨#[]⟩,.int .i64 0,.string ⟨#[]⟩]) 3 40 Tryz.underlying137 hi hz0 hz1 hz2 rfl (by decide) (.slice qa c.attrs.length ca) _ _ rfl hR4 ⟨w6.heap.size,0,none⟩ 1 1 [.string x.name,.int .i64 x.op,.string x.text] rfl rfl (cells_plain w6 [.string x.name,.int .i64 x.op,.string x.text] 157) H1 (by decide) m1 m2 hSZ _ rfl ?_;intro g7 c7 w7 hown7 hgrow7 hat7 hlt7;obtain ⟨⟨y0,y1,y2,y3,y4⟩,e0,e1,e2,e3,e4⟩:=blk5 ((show ∀ w7,_ → _ from HB7) w7 hgrow7))
    have S7:=(show ∀ (w7:World) (g7 c7:Nat),_ → _ → _ → _ from HF) _ _ _ hown7 hgrow7 hat7
    have hms:ts.length + 20 - placeOf (w7.setCell ⟨w.heap.size + 1,3,none⟩ (.slice (some ⟨g7,0,none⟩) (c.attrs.length + 1) c7)) R < ts.length + 20 - placeOf wr R:=by rw [S7.pk.place,hpl];omega
    exact ⟨⟨m + 1,b',bad',_,_,_,_,_,by go_num,S7,HC'⟩,hms⟩
   have g18':(T.kind == 18) = false:=by simpa using g18
   by_cases g11:T.kind = 11
   ·have g11':(T.kind == 11) = true:=by simpa using g11
    have hU:begU (at' ts b) = true:=by rw [hT];simp [begU,g11]
    have hbl3:b < ts.length:=(show _ → _ from HTl) (by rw [g11];decide)
    have hun:Hid (unitV (innerV d) c (at' ts b) (ts.drop (b + 1)) = (pseudoV (innerV d) (ts.drop (b + 1))).map fun x => (c.addPs x.1,x.2)):=by rw [hT];show _ = _;unfold unitV;rw [if_neg g3,if_neg g18,if_pos g11]
    have S4:=S.at (b':=b + 1) (by omega)
    rw [show ((b + 1:Nat):Int) = (b:Int) + 1 by omega] at S4
    obtain ⟨⟨p0,p1,p2,p3⟩,q0,q1,q2,q3⟩:=blk4 S.pk.blk
    clear g3 gd g18 g11 HSee HSee1 HTm HTl HV HT HU
    go_upto_region 26 with fail
    clear p0 p1 p2 p3 q0 q1 q2 q3 S
    generalize World.setCell _ ⟨R,1,none⟩ _ = W4 at *
    have h4:=pseudo_any n₀ R v ts (b + 1) d W4 S4.pk hbl3 HG HI
    go_wp2_with fail
    refine h4.mono ?_
    clear h4 HG HI
    rintro e w5 ⟨x,y,b',bad',rfl,hsl,hPb,hbb,hres,hb5⟩
    obtain ⟨py,my,cy,rfl⟩:∃ p m c,y = .slice p m c:=by
     cases d with
     | zero => exact ⟨_,_,_,hsl.2⟩
     | succ d => obtain ⟨p,c,h,_⟩:=FinRow.form hsl;exact ⟨_,_,_,h⟩
    have HC':CoV (innerV d) ts a U (m + 1) b' bad' (c.addPs x):=by
     rcases hres with ⟨rfl,h1,h2⟩ | ⟨rfl,h1⟩
     ·exact HC.yes hU (by omega) h2 (by rw [show unitV _ _ _ _ = _ from hun,h1];rfl)
     ·exact HC.no hU (by omega) (hsm.addPs x) (by rw [show unitV _ _ _ _ = _ from hun,h1];rfl)
    have S5:=S4.go hPb hb5
    have hbl5:=hPb.least
    have hmC:w.heap.size + 1 < W4.heap.size:=S4.u.blk.lt
    have hmR:∀ g,((Value.slice qi c.ids.length ci).ownBlock = some g ∨ (Value.slice qk c.classes.length ck).ownBlock = some g ∨ (Value.slice qa c.attrs.length ca).ownBlock = some g ∨ (Value.slice qp c.pss.length cp).ownBlock = some g) → g < W4.heap.size:=fun g hg => by
     rcases hg with h | h | h | h
     ·exact (S4.u.ri.lt h).2
     ·exact (S4.u.rk.lt h).2
     ·exact (S4.u.ra.lt h).2
     ·exact (S4.u.rp.lt h).2
    replace hmR:Hid _:=hmR
    clear HC hun hU hres S4 hPb hb5
    have bA:Below w5.heap.size w5 (w5.alloc (.cells #[.int .i64 x.kind,.int .i64 x.a,.int .i64 x.b,.slice py my cy] 160)):=(Below.refl _ _).alloc (Nat.le_refl _) _
    have kA:Blk (w5.alloc (.cells #[.int .i64 x.kind,.int .i64 x.a,.int .i64 x.b,.slice py my cy] 160)) w5.heap.size 160 [.int .i64 x.kind,.int .i64 x.a,.int .i64 x.b,.slice py my cy]:=Blk.new w5 160 _
    have S6:=S5.below bA
    have hsl6:=hsl.fr d (Fr.of_below (P':=fun b => W4.heap.size ≤ b) bA (fun b hb _ => hb))
    clear bA S5 hsl
    go_upto_region 27 with fail
    generalize w5.alloc (.cells #[.int .i64 x.kind,.int .i64 x.a,.int .i64 x.b,.slice py my cy] 160) = w6 at *
    obtain ⟨css,r1,r2,r3,r4⟩:=S6.u.rp
    obtain ⟨i0,hi,hz0,hz1,hz2⟩:=info_parts infoPs3
    obtain ⟨⟨x0,x1,x2,x3⟩,_⟩:=blk4 kA
    obtain ⟨⟨y0,y1,y2,y3,y4⟩,e0,e1,e2,e3,e4⟩:=blk5 S6.u.blk
    have bE:Below w6.heap.size w6 (w6.alloc (.cells #[.int .i64 x.kind,.int .i64 x.a,.int .i64 x.b,.slice py my cy] 160)):=(Below.refl _ _).alloc (Nat.le_refl _) _
    have hsl7:=hsl6.fr d (Fr.of_below (P':=fun b => W4.heap.size ≤ b) bE (fun b hb _ => hb))
    have hR4:(w6.alloc (.cells #[.int .i64 x.kind,.int .i64 x.a,.int .i64 x.b,.slice py my cy] 160)).ownsRow (w.heap.size + 1) 160 4 (.slice qp c.pss.length cp) c.pss.length css.flatten:=owns_same r1 (fun g hg => bE.block g (owns_lt r1 hg).2)
    have H1:∀ u ∈ ([.int .i64 x.kind,.int .i64 x.a,.int .i64 x.b,.slice py my cy]:List Value),u.oneCell' = true:=fun u hu => by simp at hu;rcases hu with rfl | rfl | rfl | rfl <;> rfl
    have m1:c.pss.length + 1 ≤ maxLen:=by have:=hsm.2.2.2;unfold maxLen;omega
    have m2:(c.pss.length + 1) * 48 ≤ 140737488355328:=by have:=hsm.2.2.2;omega
    have hSZ:w.heap.size + 1 ≤ (w6.alloc (.cells #[.int .i64 x.kind,.int .i64 x.a,.int .i64 x.b,.slice py my cy] 160)).heap.size:=by rw [World.size_alloc];have:=S6.u.blk.lt;omega
    have HB7:Hid (∀ w7,(w6.alloc (.cells #[.int .i64 x.kind,.int .i64 x.a,.int .i64 x.b,.slice py my cy] 160)).grownBy w7 (Value.slice qp c.pss.length cp).ownBlock → Blk w7 (w.heap.size + 1) 140 [.string c.tag,.slice qi c.ids.length ci,.slice qk c.classes.length ck,.slice qa c.attrs.length ca,.slice qp c.pss.length cp]):=fun w7 hg => (S6.below bE).u.blk.kept hg (fun e => (S6.below bE).u.rp.off (S6.below bE).u.blk (by decide) e.symm)
    have HF:Hid (∀ (w7:World) (g7 c7:Nat),w7.ownsRow (w.heap.size + 1) 160 4 (.slice (some ⟨g7,0,none⟩) (c.pss.length + 1) c7) (c.pss.length + 1) (css.flatten ++ [.int .i64 x.kind,.int .i64 x.a,.int .i64 x.b,.slice py my cy]) → (w6.alloc (.cells #[.int .i64 x.kind,.int .i64 x.a,.int .i64 x.b,.slice py my cy] 160)).grownBy w7 (Value.slice qp c.pss.length cp).ownBlock → ((Value.slice qp c.pss.length cp).ownBlock = some g7 ∨ g7 = (w6.alloc (.cells #[.int .i64 x.kind,.int .i64 x.a,.int .i64 x.b,.slice py my cy] 160)).heap.size) → CmSt n₀ R v ts d w (c.addPs x) (.slice qi c.ids.length ci) (.slice qk c.classes.length ck) (.slice qa c.attrs.length ca) (.slice (some ⟨g7,0,none⟩) (c.pss.length + 1) c7) b' bad' (w7.setCell ⟨w.heap.size + 1,4,none⟩ (.slice (some ⟨g7,0,none⟩) (c.pss.length + 1) c7))):=fun w7 g7 c7 hown hg hat =>
     S6.row bE hg (fun g e => (S6.u.rp.lt e).1) 4 _ ((S6.below bE).u.addPs (x:=x) (y:=.slice py my cy) (m:=W4.heap.size) r2 r3 (fun j q z hq hz => psT_stays d _ _ _ _ _ _ (r4 j q z hq hz) (Fr.of_below bE (fun b hb _ => hb))) hsl7 hmC hmR hown hg (fun g hg' => by rw [slot_own hg'];exact hat.imp id (fun h => by rw [h];exact Nat.le_refl _)))
    clear S6 bE r1 r2 r3 r4 kA hsl6 hsl7
    go_wp2_with (at_builtin;refine wpList_append_lies (w6.alloc (.cells #[.int .i64 x.kind,.int .i64 x.a,.int .i64 x.b,.slice py my cy] 160)) rfl _ _ 138 rfl (w.heap.size + 1) 160 i0 (.agg #[.int .i64 0,.int .i64 0,.int .i64 0,.slice none 0 0]) 4 48 Tryz.underlying138 hi hz0 hz1 hz2 rfl (by decide) (.slice qp c.pss.length cp) _ _ rfl hR4 ⟨w6.heap.size,0,none⟩ 1 1 [.int .i64 x.kind,.int .i64 x.a,.int .i64 x.b,.slice py my cy] rfl rfl (cells_plain w6 [.int .i64 x.kind,.int .i64 x.a,.int .i64 x.b,.slice py my cy] 160) H1 (by decide) m1 m2 hSZ _ rfl ?_;intro g7 c7 w7 hown7 hgrow7 hat7 hlt7;obtain ⟨⟨y0,y1,y2,y3,y4⟩,e0,e1,e2,e3,e4⟩:=blk5 ((show ∀ w7,_ → _ from HB7) w7 hgrow7))
    have S7:=(show ∀ (w7:World) (g7 c7:Nat),_ → _ → _ → _ from HF) _ _ _ hown7 hgrow7 hat7
    have hms:ts.length + 20 - placeOf (w7.setCell ⟨w.heap.size + 1,4,none⟩ (.slice (some ⟨g7,0,none⟩) (c.pss.length + 1) c7)) R < ts.length + 20 - placeOf wr R:=by rw [S7.pk.place,hpl];omega
    exact ⟨⟨m + 1,b',bad',_,_,_,_,_,by go_num,S7,HC'⟩,hms⟩
   have g11':(T.kind == 11) = false:=by simpa using g11
   have hnU:begU (at' ts b) = false:=by
    rw [hT]
    unfold begU isSg
    simp [g3,g18,g11,gd]
   have HEND:Hid (∀ B,decide (m = 0) = B → (B = false ∧ V = some (c,ts.drop b) ∧ b ≤ ts.length) ∨ (V = none ∧ (B = true ∨ B = false ∧ isSg (at' ts b) 46 = true))):=fun B hB => by
    rw [← hB,← show _ = V from HV]
    exact CoV.done HT (by rw [show _ = U from HU];exact HC) hnU
   clear hnU g3 g18 g11 gd HT HU HV
   go_upto_region 12 with fail
   obtain ⟨B,HB⟩:∃ B,Hid (decide (m = 0) = B):=⟨_,rfl⟩
   have hmB:((m:Int) == 0) = B:=(mzero m).trans HB
   obtain ⟨⟨p0,p1,p2,p3⟩,q0,q1,q2,q3⟩:=blk4 S.pk.blk
   have S8:=S.spoil B
   have hab:a ≤ b:=HC.1
   have HE:Hid _:=HEND B HB
   clear HC HEND HSee HSee1 HI HG HB S
   go_upto_region 13 with fail
   generalize World.setCell _ ⟨R,2,none⟩ (.bool B) = W8 at *
   clear p0 p1 p2 p3 q0 q1 q2 q3
   obtain ⟨⟨c0,c1,c2,c3,c4⟩,_⟩:=blk5 S8.u.blk
   obtain ⟨⟨z0,z1,z2,z3,z4⟩,y0,y1,y2,y3,y4⟩:=blk5 S8.z
   obtain ⟨hL,hO⟩:=S8.out hab HE
   go_wp2
   exact bodyPost_ret (results_struct rfl _ _ w.heap.size _ rfl hL) rfl hO
end Go.Proofs.YtcmmdojlhfmddaaGreat.Sr
