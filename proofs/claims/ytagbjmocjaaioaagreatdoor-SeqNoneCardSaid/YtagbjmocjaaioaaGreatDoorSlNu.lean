/- A law of the walk: a range over a function whose iterator, between two rounds, changes what the rounds read; a round may return early, and its assignment may lay blocks. -/
import Derived.Test.YtagbjmocjaaioaaGreatDoorSlMem
import Derived.Test.YtagbjmocjaaioaaGreatDoorAlive
import Derived.Test.YtagbjmocjaaioaaGreatDoorSlUnit
import Derived.RangeFuncBox
import Derived.Maps.OwnIn
namespace Go.Proofs.YtagbjmocjaaioaaGreatDoor.Sl
open Go.Proofs.YtagbjmocjaaioaaGreatDoor.Tre
open Go Go.RowKit
def postQ (lo:Nat) (A B:World → Prop) (W:World):Exit → Act → World → Prop
 | .normal,_,W' => (W.heap.size ≤ W'.heap.size ∧ W'.heap[lo]? = W.heap[lo]? ∧ W'.heap[lo + 1]? = W.heap[lo + 1]?) ∧ A W'
 | .ret,_,W' => (W.heap.size ≤ W'.heap.size ∧ W'.heap[lo]? = W.heap[lo]? ∧ W'.heap[lo + 1]? = W.heap[lo + 1]?) ∧ B W'
 | _,_,_ => False
def AbidesL (l:Nat) (A:World → Prop):Prop:=∀ X r,A X → l < X.heap.size → A (X.putObj l (.loop r))
def OnTwo (lo:Nat) (A:World → Prop):Prop:=∀ X Y,A X → Y.heap[lo]? = X.heap[lo]? → Y.heap[lo + 1]? = X.heap[lo + 1]? → A Y
theorem kept_putObj (X:World) (l:Nat) (o:Obj):Kept (fun b => b ≠ l) X (X.putObj l o):=Kept.of_grown (grownBy_putObj' X l o) (fun k e h => by cases e;exact h rfl)
variable {F:Fence} {n:Nat} {P:Program}
theorem wpIn_rangeFunc_Q {α σ:Type} {g:Operand} {ps:Array Tmp} {assign body:Code} {Q:Exit → Act → World → Prop} {a:Act} {w:World}
  (hro:F.round = none) (h1:1 ≤ n) {gf:Nat} {lb:Array Value} (hg:a.eval g = .func (.func gf) #[] lb) (hFg:F.fn gf) (eg:∀ args w,(callFunc gf args).run P w = .ok (.enter gf args) w)
  {encs:α → Array Value} (hps:∀ x,(encs x).size = ps.size)
  (lay:α → World → World) (hlay:∀ x W,Below W.heap.size W (lay x W)) (a₁:α → World → Act)
  (Pre Post Stop:σ → α → World → Prop) (StopD Done:World → Prop)
  (hPost:∀ s x,AbidesL (w.heap.size + 1) (Post s x)) (hStop:∀ s x,AbidesL (w.heap.size + 1) (Stop s x)) (hStopD:AbidesL (w.heap.size + 1) StopD) (hDone:AbidesL (w.heap.size + 1) Done)
  (hassign:∀ (l:Nat) (x:α) (W:World) (K:Act → World → Prop),K (a₁ x W) (lay x W) →
   assign.wpIn (F.inRound l) (n - 1 - 1) P (Exit.then K (fun _ _ _ => False)) { tmps:=(ps.zip (encs x)).foldl (fun t (p,v) => t.setIfInBounds p v) a.tmps,defers:=[] } W)
  (hbody:∀ (l:Nat) (s:σ) (x:α) (W0 W:World),Pre s x W0 → w.heap.size + 2 ≤ W0.heap.size → (∃ r,W = (lay x W0).putObj (w.heap.size + 1) (.loop r)) → W.heap[w.heap.size]? = some (.deferred (some [])) → (∃ r,W.heap[w.heap.size + 1]? = some (.loop r)) →
   body.wpIn (F.inRound l) (n - 1 - 1) P (postQ w.heap.size (Post s x) (Stop s x) W) (a₁ x W0) W)
  (hcall:∀ (Lp Lx:World → Prop) (W1:World),OnTwo w.heap.size Lp → OnTwo w.heap.size Lx → Below w.heap.size w W1 → W1.heap.size = w.heap.size + 2 → (∃ r,W1.heap[w.heap.size + 1]? = some (.loop r)) → Lp W1 →
   (∀ s x W,Lp W → Pre s x W → w.heap.size + 2 ≤ W.heap.size → YieldAt F (n - 1 - 1) P (w.heap.size + 1) (encs x) W fun e W' => (e = .returned (.bool true) ∧ Lp W' ∧ Post s x W') ∨ (e = .returned (.bool false) ∧ Lx W' ∧ Stop s x W')) →
   CallsIn F (n - 1) P gf (#[.func (.yield (w.heap.size + 1)) #[] #[]] ++ lb) W1 fun e W' => (∃ v,e = .returned v) ∧ ((Lp W' ∧ Done W') ∨ (Lx W' ∧ StopD W')))
  (hdone:∀ (W:World),Done W → W.heap[w.heap.size]? = some (.deferred (some [])) → Q .normal { a with defers:={ target:=.collected w.heap.size,args:=#[] } :: a.defers } W)
  (hstop:∀ (W:World),StopD W → W.heap[w.heap.size]? = some (.deferred (some [])) → Code.ret.wpIn F n P Q { a with defers:={ target:=.collected w.heap.size,args:=#[] } :: a.defers } W) :
  (Code.rangeFunc g ps assign body).wpIn F n P Q a w:=by
 refine wpIn_rangeFunc ?_
 intro fn hfn
 rw [hro]
 obtain ⟨rec,hrec⟩:∃ rec:LoopState → Option Code → Loop,rec = fun st pe => { state:=st,pending:=pe,fn,tmps:=a.tmps,params:=ps,assign,body,defers:=w.heap.size }:=⟨_,rfl⟩
 obtain ⟨W1,hW1⟩:∃ W1,(w.alloc (.deferred (some []))).alloc (.loop (rec .ready none)) = W1:=⟨_,rfl⟩
 have hL1:W1.heap[w.heap.size + 1]? = some (.loop (rec .ready none)):=by
  rw [← hW1];have:=World.alloc_heap_new (w.alloc (.deferred (some []))) (.loop (rec .ready none));rwa [World.size_alloc] at this
 have hK1:W1.heap[w.heap.size]? = some (.deferred (some [])):=by
  rw [← hW1];exact (Below.heap_alloc _ _ _ (by simp)).trans (World.alloc_heap_new w _)
 have hs1:W1.heap.size = w.heap.size + 2:=by rw [← hW1];simp
 have hb1:Below w.heap.size w W1:=by
  rw [← hW1];exact ((Below.refl _ w).alloc (Nat.le_refl _) _).alloc (by simp) _
 refine ⟨w.heap.size + 1,[{ target:=.collected w.heap.size,args:=#[] }],W1,{ target:=.fn (.func gf) lb,args:=#[.func (.yield (w.heap.size + 1)) #[] #[]] },W1,gf,
  #[.func (.yield (w.heap.size + 1)) #[] #[]] ++ lb,W1,?_,?_,?_,?_,fun _ => h1,?_⟩
 ·rw [← hW1,hrec];exact run_enterLoop_outer _ _ _ _ _
 ·simp only [resolve,hg]
  simp [go_sem]
 ·intro f' hf';simp [Target.leads] at hf';subst hf';exact hFg
 ·simp [invoke,go_sem,eg]
 ·refine (hcall (fun W => W.heap[w.heap.size + 1]? = some (.loop (rec .ready none)) ∧ W.heap[w.heap.size]? = some (.deferred (some [])))
   (fun W => W.heap[w.heap.size + 1]? = some (.loop (rec .done (some .ret))) ∧ W.heap[w.heap.size]? = some (.deferred (some [])))
   W1 (fun X Y h e1 e2 => ⟨e2.trans h.1,e1.trans h.2⟩) (fun X Y h e1 e2 => ⟨e2.trans h.1,e1.trans h.2⟩) hb1 hs1 ⟨_,hL1⟩ ⟨hL1,hK1⟩ ?_).mono ?_
  ·rintro s x W0 ⟨hl0,hk0⟩ hpre hsz
   have hy:=run_yield (P:=P) (args:=encs x) hl0 (by rw [hrec];exact hps x)
   rw [hrec] at hy
   have hla:=hlay x W0
   have hlt0:w.heap.size + 1 < W0.heap.size:=(Array.getElem?_eq_some_iff.1 hl0).1
   have hl:(lay x W0).heap[w.heap.size + 1]? = some (.loop (rec .ready none)):=(hla.block _ hlt0).trans hl0
   have hk:(lay x W0).heap[w.heap.size]? = some (.deferred (some [])):=(hla.block _ (by omega)).trans hk0
   refine ⟨fn,_,assign,body,hy,roundIn_of_wpIn hfn (hassign _ x W0 _ ⟨_,run_beginRound hl (by rw [hrec]),?_⟩)⟩
   have hlt:w.heap.size + 1 < (lay x W0).heap.size:=(Array.getElem?_eq_some_iff.1 hl).1
   have hl2:((lay x W0).putObj (w.heap.size + 1) (.loop { rec .ready none with state:=.busy })).heap[w.heap.size + 1]? = some (.loop { rec .ready none with state:=.busy }):=World.putObj_heap_same hlt
   have hk2:((lay x W0).putObj (w.heap.size + 1) (.loop { rec .ready none with state:=.busy })).heap[w.heap.size]? = some (.deferred (some [])):=(World.putObj_heap_other (by omega)).trans hk
   refine wpIn_mono (hbody _ s x W0 _ hpre hsz ⟨_,rfl⟩ hk2 ⟨_,hl2⟩) ?_
   rintro e a3 W3 hp
   cases e with
   | normal =>
    obtain ⟨⟨hs3,e0,e1⟩,hi3⟩:=hp
    have hl3:=e1.trans hl2
    have hd3:=e0.trans hk2
    have hr:=run_endRound (P:=P) none hl3
    rw [hrec] at hr
    refine ⟨_,_,hr,.inl ⟨rfl,⟨?_,(World.putObj_heap_other (by omega)).trans hd3⟩,hPost s x _ _ hi3 (Array.getElem?_eq_some_iff.1 hl3).1⟩⟩
    rw [hrec];exact World.putObj_heap_same (Array.getElem?_eq_some_iff.1 hl3).1
   | ret =>
    obtain ⟨⟨hs3,e0,e1⟩,hi3⟩:=hp
    have hl3:=e1.trans hl2
    have hd3:=e0.trans hk2
    have hr:=run_endRound (P:=P) (some .ret) hl3
    rw [hrec] at hr
    refine ⟨_,_,hr,.inr ⟨rfl,⟨?_,(World.putObj_heap_other (by omega)).trans hd3⟩,hStop s x _ _ hi3 (Array.getElem?_eq_some_iff.1 hl3).1⟩⟩
    rw [hrec];exact World.putObj_heap_same (Array.getElem?_eq_some_iff.1 hl3).1
   | exit id => exact hp.elim
   | goto t => exact hp.elim
   | panic ch => exact hp.elim
   | outgrown => exact hp.elim
  ·rintro e W2 ⟨⟨v,rfl⟩,⟨⟨hl,hk⟩,hi⟩ | ⟨⟨hl,hk⟩,hi⟩⟩
   ·exact ⟨none,_,by have:=run_endLoop (P:=P) hl (by rw [hrec];simp);rw [hrec] at this;exact this,hdone _ (hDone _ _ hi (Array.getElem?_eq_some_iff.1 hl).1) ((World.putObj_heap_other (by omega)).trans hk)⟩
   ·exact ⟨some .ret,_,by have:=run_endLoop (P:=P) hl (by rw [hrec];simp);rw [hrec] at this;exact this,hstop _ (hStopD _ _ hi (Array.getElem?_eq_some_iff.1 hl).1) ((World.putObj_heap_other (by omega)).trans hk)⟩
end Go.Proofs.YtagbjmocjaaioaaGreatDoor.Sl

/- The reader of selectors: pseudo-classes, over what lists within them are. -/
namespace Go.Proofs.YtagbjmocjaaioaaGreatDoor.Sl
open Go.Proofs.YtagbjmocjaaioaaGreatDoor.Tre
open Go Go.RowKit Go.Shelf
theorem SelsAt.form {d:Nat} {P:Nat → Prop} {W:World} {v:Value} {l:List Sel} (h:SelsAt d P W v l):∃ p c,v = .slice p l.length c:=by
 cases d with
 | zero => obtain ⟨rfl,rfl⟩:=h;exact ⟨none,0,rfl⟩
 | succ d => obtain ⟨p,c,hv,_⟩:=FinRow.form h;exact ⟨p,c,hv⟩
theorem OpsAt.kept {n₀ R:Nat} {w W:World} (h:OpsAt n₀ w) (hb:But R w W) (hn:n₀ ≤ R) (hR:R < w.heap.size):OpsAt n₀ W:=h.below (hb.below (by omega) (fun b hb => by omega))
/-! ### a pseudo-class, by its first token -/
end Go.Proofs.YtagbjmocjaaioaaGreatDoor.Sl

/- A compound under way in memory. -/
namespace Go.Proofs.YtagbjmocjaaioaaGreatDoor.Sl
open Go.Proofs.YtagbjmocjaaioaaGreatDoor.Tre
open Go Go.RowKit Go.Shelf
def StrT (_:Nat → Prop) (_:World) (c:List Value) (x:ByteArray):Prop:=c = [Value.string x]
def AtT (_:Nat → Prop) (_:World) (c:List Value) (x:At):Prop:=c = atCells x
def PsTd (d:Nat) (P:Nat → Prop) (W:World) (c:List Value) (p:Ps):Prop:=PsT (SelsAt d P W) c p
theorem strT_stays:Stays StrT:=fun _ _ _ _ _ _ h _ => h
theorem atT_stays:Stays AtT:=fun _ _ _ _ _ _ h _ => h
theorem psT_stays (d:Nat):Stays (PsTd d):=fun _ _ _ _ _ _ ⟨x,e,h⟩ f => ⟨x,e,SelsAt.fr d h f⟩
def Off (n C:Nat) (i k a p:Value) (b:Nat):Prop:=n ≤ b ∧ b ≠ C ∧ i.ownBlock ≠ some b ∧ k.ownBlock ≠ some b ∧ a.ownBlock ≠ some b ∧ p.ownBlock ≠ some b
structure CUx (d n:Nat) (W:World) (C:Nat) (c:Cp) (i k a p:Value):Prop where
 blk:Blk W C 154 [.string c.tag,i,k,a,p]
 nC:n ≤ C
 ri:UndRow 9 1 StrT n (Off n C i k a p) W i c.ids
 rk:UndRow 9 1 StrT n (Off n C i k a p) W k c.classes
 ra:UndRow 231 3 AtT n (Off n C i k a p) W a c.attrs
 rp:UndRow 174 4 (PsTd d) n (Off n C i k a p) W p c.pss
 ik:∀ g,i.ownBlock = some g → k.ownBlock ≠ some g
def CU (d n:Nat) (W:World) (C:Nat) (c:Cp):Prop:=∃ i k a p,CUx d n W C c i k a p
theorem UndRow.off {α:Type} {e:TypeId} {sz:Nat} {T:(Nat → Prop) → World → List Value → α → Prop} {n:Nat} {P:Nat → Prop} {W:World} {v:Value} {l:List α} (h:UndRow e sz T n P W v l) {C:Nat} {t:TypeId} {cs:List Value} (hC:Blk W C t cs) (hne:t ≠ e):v.ownBlock ≠ some C:=
 owns_apart h.choose_spec.1 hC (fun c f e => by injection e with _ e2;exact hne e2)
theorem UndRow.cl {α:Type} {e:TypeId} {sz:Nat} {T:(Nat → Prop) → World → List Value → α → Prop} {n:Nat} {P:Nat → Prop} {W:World} {v:Value} {l:List α} (h:UndRow e sz T n P W v l) (he:e ≠ 108) {g:Nat} (hg:v.ownBlock = some g):Cl W g:=by
 obtain ⟨css,h1,_⟩:=h
 rcases h1.2 with ⟨rfl,_⟩ | ⟨g',cap,cur,rfl,_,hb,_⟩
 ·simp [Value.ownBlock] at hg
 ·simp [Value.ownBlock] at hg
  subst hg
  exact ⟨_,_,_,hb,he⟩
theorem CUx.kept {d n:Nat} {W W':World} {C:Nat} {c:Cp} {i k a p:Value} (h:CUx d n W C c i k a p) {keep:Nat → Prop} (hk:Kept keep W W') (hn:∀ b,n ≤ b → Cl W b → keep b):CUx d n W' C c i k a p:=by
 have f:Fr (Off n C i k a p) (Off n C i k a p) W W':=Fr.of_kept hk (fun b hb hl => ⟨hn b hb.1 hl,hb⟩)
 have row:∀ {α:Type} {e:TypeId} {sz:Nat} {T:(Nat → Prop) → World → List Value → α → Prop} {P:Nat → Prop} {v:Value} {l:List α},UndRow e sz T n P W v l → e ≠ 108 → ∀ g,v.ownBlock = some g → W'.heap[g]? = W.heap[g]?:=fun hr he g hg => hk.block g (hr.lt hg).2 (hn g (hr.lt hg).1 (hr.cl he hg))
 exact ⟨hk.blk h.blk (hn C h.nC (h.blk.cl (by decide))),h.nC,h.ri.kept strT_stays f (row h.ri (by decide)),h.rk.kept strT_stays f (row h.rk (by decide)),h.ra.kept atT_stays f (row h.ra (by decide)),h.rp.kept (psT_stays d) f (row h.rp (by decide)),h.ik⟩
theorem CUx.below {d n:Nat} {W W':World} {C:Nat} {c:Cp} {i k a p:Value} (h:CUx d n W C c i k a p) (hb:Below W.heap.size W W'):CUx d n W' C c i k a p:=h.kept (keep:=fun _ => True) (.of_below hb) (fun _ _ _ => trivial)
theorem CUx.new (d n:Nat) (W:World) (tag:ByteArray) (hn:n ≤ W.heap.size):CUx d n (W.alloc (.cells #[.string tag,.slice none 0 0,.slice none 0 0,.slice none 0 0,.slice none 0 0] 154)) W.heap.size (.mk tag [] [] [] []) (.slice none 0 0) (.slice none 0 0) (.slice none 0 0) (.slice none 0 0):=
 ⟨Blk.new W 154 _,hn,UndRow.nil _ _ _ _ _ _,UndRow.nil _ _ _ _ _ _,UndRow.nil _ _ _ _ _ _,UndRow.nil _ _ _ _ _ _,fun g hg => by simp [Value.ownBlock] at hg⟩
theorem und_push {α:Type} {e:TypeId} {sz:Nat} {T:(Nat → Prop) → World → List Value → α → Prop} (hT:Stays T) {n:Nat} {P P':Nat → Prop} {W W':World} {v':Value} {l:List α} {css:List (List Value)} (h2:css.length = l.length) (h3:∀ c ∈ css,c.length = sz) (h4:∀ (j:Nat) (c:List Value) (x:α),css[j]? = some c → l[j]? = some x → T P W c x) {c:List Value} {x:α}
  (hc:c.length = sz) (hx:T P' W' c x) (f:Fr P P' W W') (hr:W'.ownsRow n e sz v' (l.length + 1) (css.flatten ++ c)):UndRow e sz T n P' W' v' (l ++ [x]):=by
 refine ⟨css ++ [c],?_,by simp [h2],fun d hd => ?_,fun j d y hd hy => ?_⟩
 ·rw [List.length_append]
  simpa using hr
 ·rcases List.mem_append.1 hd with hd | hd
  ·exact h3 d hd
  ·obtain rfl:d = c:=by simpa using hd
   exact hc
 ·by_cases hj:j < css.length
  ·rw [List.getElem?_append_left hj] at hd
   rw [List.getElem?_append_left (by rw [← h2];exact hj)] at hy
   exact hT _ _ _ _ _ _ (h4 j d y hd hy) f
  ·have hj':j = css.length:=by
    have:=(List.getElem?_eq_some_iff.1 hd).1
    simp at this
    omega
   subst hj'
   rw [List.getElem?_append_right (Nat.le_refl _)] at hd
   rw [h2,List.getElem?_append_right (Nat.le_refl _)] at hy
   obtain rfl:c = d:=by simpa using hd
   obtain rfl:x = y:=by simpa using hy
   exact hx
theorem CUx.done {d n:Nat} {W:World} {C:Nat} {c:Cp} {i k a p:Value} (h:CUx d n W C c i k a p):CpT (SelsAt d (fun b => n ≤ b) W) (fun b => n ≤ b) W [.string c.tag,i,k,a,p] c:=
 ⟨i,k,a,p,rfl,h.ri.done (by decide) strT_stays (fun _ hb => hb.1) (fun _ hg => (h.ri.lt hg).1),h.rk.done (by decide) strT_stays (fun _ hb => hb.1) (fun _ hg => (h.rk.lt hg).1),h.ra.done (by decide) atT_stays (fun _ hb => hb.1) (fun _ hg => (h.ra.lt hg).1),h.rp.done (by decide) (psT_stays d) (fun _ hb => hb.1) (fun _ hg => (h.rp.lt hg).1)⟩
end Go.Proofs.YtagbjmocjaaioaaGreatDoor.Sl

/- The reader of selectors: one unit of a compound. -/
namespace Go.Proofs.YtagbjmocjaaioaaGreatDoor.Sl
open Go.Proofs.YtagbjmocjaaioaaGreatDoor.Tre
open Go Go.RowKit Go.Shelf
theorem cells_drew (w:World) (l:List Value) (ty:TypeId):∀ j u,l[j]? = some u → (w.alloc (.cells l.toArray ty)).drew.cell? ((⟨w.heap.size,0,none⟩:Addr).add j) = some u:=fun j u hj => by
 rw [show (⟨w.heap.size,0,none⟩:Addr).add j = ⟨w.heap.size,j,none⟩ by cases j with | zero => rfl | succ j => simp [Addr.add]]
 show (w.alloc (.cells l.toArray ty)).cell? _ = _
 rw [cell_of_block (heap_alloc_new w _) j]
 simpa using hj
theorem cells_plain (w:World) (l:List Value) (ty:TypeId):∀ j u,l[j]? = some u → (w.alloc (.cells l.toArray ty)).cell? ((⟨w.heap.size,0,none⟩:Addr).add j) = some u:=cells_drew w l ty
end Go.Proofs.YtagbjmocjaaioaaGreatDoor.Sl

/- The reader of selectors: the iterator over a compound's units. -/
namespace Go.Proofs.YtagbjmocjaaioaaGreatDoor.Sl
open Go.Proofs.YtagbjmocjaaioaaGreatDoor.Tre
open Go Go.RowKit Go.Shelf
attribute [local go_sem] Oper.semAt_some
theorem units_no {L:Inner} {f:Nat} {c:Cp} {ts:List Bt} {a:Nat} (hf:(ts.drop a).length < f) (h:begU (at' ts a) = false):unitsV L f c (ts.drop a) = some (c,ts.drop a):=by
 obtain ⟨f,rfl⟩:∃ g,f = g + 1:=⟨f - 1,by omega⟩
 by_cases hl:a < ts.length
 ·rw [at_cons hl]
  simp only [unitsV,h,Bool.false_eq_true,if_false]
 ·rw [List.drop_eq_nil_of_le (by omega)]
  rfl
end Go.Proofs.YtagbjmocjaaioaaGreatDoor.Sl

/- The reader of selectors: one compound. -/
namespace Go.Proofs.YtagbjmocjaaioaaGreatDoor.Sl
open Go.Proofs.YtagbjmocjaaioaaGreatDoor.Tre
open Go Go.RowKit Go.Shelf
attribute [local go_sem] Oper.semAt_some
theorem infoCp:(Tryz.prog.info? 154).map (·.size) = some 5:=by kernel_rfl
theorem load_cp {w:World} {g:Nat} {a b c d e:Value} (h:Blk w g 154 [a,b,c,d,e]):(loadVar 154 ⟨g,0,none⟩).run Tryz.prog w = .ok (.agg #[a,b,c,d,e]) w:=
 run_loadVar_row w g _ 154 #[a,b,c,d,e] (0,0) _ h Tryz.underlying154 rfl infoCp
theorem load_bool {w:World} {g:Nat} {b:Bool} (h:Blk w g 4 [.bool b]):(loadVar 4 ⟨g,0,none⟩).run Tryz.prog w = .ok (.bool b) w:=by
 have hc:=(blk1 h).1
 simp [loadVar,isAgg,Sem.run_bind,Result.andThen,load,hc,Sem.run]
theorem results_cells {fn:Func} {p q:Tmp} {ty ty2:TypeId} (h:fn.results = #[.cell p ty,.cell q ty2]) (tmps:Array Value) (w:World) (g g2:Nat) (x y:Value)
  (hp:tmps.getD p undef = .pointer (some ⟨g,0,none⟩)) (hq:tmps.getD q undef = .pointer (some ⟨g2,0,none⟩)) (hl:(loadVar ty ⟨g,0,none⟩).run Tryz.prog w = .ok x w) (hl2:(loadVar ty2 ⟨g2,0,none⟩).run Tryz.prog w = .ok y w) :
  (results fn tmps).run Tryz.prog w = .ok (.tuple #[x,y]) w:=by
 have hp':tmps[p]?.getD undef = .pointer (some ⟨g,0,none⟩):=by simpa using hp
 have hq':tmps[q]?.getD undef = .pointer (some ⟨g2,0,none⟩):=by simpa using hq
 simp [results,h,hp',hq',asAddr,hl,hl2]
theorem egUnits:∀ args w,(callFunc 271 args).run Tryz.prog w = .ok (.enter 271 args) w:=enters_of Tryz.func271 (by kernel_rfl) rfl
theorem units_in (N R:Nat) (w:World) :
  CallsIn Fence.wide N Tryz.prog 240 #[.pointer (some ⟨R,0,none⟩)] w fun e w' => e = .returned (.func (.func 271) #[] #[.pointer (some ⟨w.heap.size,0,none⟩)]) ∧ w' = w.alloc (.cells #[.pointer (some ⟨R,0,none⟩)] 210):=by
 refine callsIn_of_wp Tryz.func240 rfl trivial ?_ rfl
 simp only [Tryz.ntmps240,List.size_toArray,List.length_cons,List.length_nil,Nat.reduceAdd,Nat.reduceSub,Array.replicate_succ,Array.replicate_zero,List.push_toArray,List.append_toArray,List.nil_append,List.cons_append]
 gi_wp2
 go_ret
 exact ⟨rfl,rfl⟩
abbrev nilS:Value:=.slice none 0 0
def CompOut (n₀ R:Nat) (v:Value) (ts:List Bt) (d:Nat) (w:World) (V:Option (Cp × List Bt)) (e:Ending) (w':World):Prop:=
 ((∃ c b i k a p,V = some (c,ts.drop b) ∧ e = .returned (.tuple #[.agg #[.string c.tag,i,k,a,p],.bool true]) ∧ CpT (SelsAt d (fun b => w.heap.size ≤ b) w') (fun b => w.heap.size ≤ b) w' [.string c.tag,i,k,a,p] c ∧ Rd n₀ w' R v ts b (8 - (d:Int))) ∨
  (V = none ∧ (∃ tg q1 m1 c1 q2 m2 c2 q3 m3 c3 q4 m4 c4,e = .returned (.tuple #[.agg #[.string tg,.slice q1 m1 c1,.slice q2 m2 c2,.slice q3 m3 c3,.slice q4 m4 c4],.bool false])) ∧ ∃ b,Rd n₀ w' R v ts b (8 - (d:Int)))) ∧ But R w w'
structure CompK (d n₀ R:Nat) (w:World) (C l:Nat) (c:Cp) (X:World):Prop where
 cu:CU d C X C c
 cge:w.heap.size + 1 + 1 < C
 box:Blk X w.heap.size 210 [.pointer (some ⟨R,0,none⟩)]
 r1:Blk X (w.heap.size + 1) 154 [.string ⟨#[]⟩,nilS,nilS,nilS,nilS]
 r2:Blk X (w.heap.size + 1 + 1) 4 [.bool false]
 box2:Blk X (C + 1) 210 [.pointer (some ⟨R,0,none⟩)]
 ops:OpsAt n₀ X
 old:Kept (fun b => b ≠ R ∧ b < w.heap.size) w X
 lp:∃ r,X.heap[l]? = some (.loop r)
theorem old_kept {R:Nat} {w X Y:World} (h:Kept (fun b => b ≠ R ∧ b < w.heap.size) w X) {keep:Nat → Prop} (hk:Kept keep X Y) (hold:∀ b,b < w.heap.size → b ≠ R → keep b):Kept (fun b => b ≠ R ∧ b < w.heap.size) w Y:=h.trans (hk.mono (fun b _ hb => hold b hb.2 hb.1))
theorem CompK.kept {d n₀ R:Nat} {w:World} {C l:Nat} {c:Cp} {X Y:World} (h:CompK d n₀ R w C l c X) {keep:Nat → Prop} (hk:Kept keep X Y) (hn₀:n₀ ≤ R) (hRw:R < w.heap.size) (hold:∀ b,b < w.heap.size → b ≠ R → keep b) (hnew:∀ b,w.heap.size ≤ b → Cl X b → keep b) (hl:∃ r,Y.heap[l]? = some (.loop r)):CompK d n₀ R w C l c Y:=by
 obtain ⟨i,k,a,p,hc⟩:=h.cu
 have hC:=h.cge
 refine ⟨⟨i,k,a,p,hc.kept hk (fun b hb => hnew b (by omega))⟩,h.cge,hk.blk h.box (hnew _ (Nat.le_refl _) (h.box.cl (by decide))),hk.blk h.r1 (hnew _ (by omega) (h.r1.cl (by decide))),hk.blk h.r2 (hnew _ (by omega) (h.r2.cl (by decide))),hk.blk h.box2 (hnew _ (by omega) (h.box2.cl (by decide))),h.ops.below (hk.below ?_ (fun b hb => hold b (by omega) (by omega))),old_kept h.old hk hold,hl⟩
 have:=h.old.size
 omega
theorem comp_yes {L:Inner} {ts:List Bt} {a0 b0 b:Nat} {tg:ByteArray} {c:Cp} (h1:(tagV (ts.drop a0)).1 = tg) (h2:(tagV (ts.drop a0)).2 = ts.drop b0) (h:unitsV L ((ts.drop a0).length + 1) (.mk tg [] [] [] []) (ts.drop b0) = some (c,ts.drop b)) (hb:b ≤ ts.length) (hlt:a0 < b):compV L (ts.drop a0) = some (c,ts.drop b):=by
 unfold compV
 rw [h1,h2,h]
 simp only [Option.bind_some,List.length_drop]
 rw [if_pos (by omega)]
theorem comp_no {L:Inner} {ts:List Bt} {a0 b0 b:Nat} {tg:ByteArray} {c:Cp} (h1:(tagV (ts.drop a0)).1 = tg) (h2:(tagV (ts.drop a0)).2 = ts.drop b0) (h:unitsV L ((ts.drop a0).length + 1) (.mk tg [] [] [] []) (ts.drop b0) = some (c,ts.drop b)) (hlt:¬ a0 < b):compV L (ts.drop a0) = none:=by
 unfold compV
 rw [h1,h2,h]
 simp only [Option.bind_some,List.length_drop]
 rw [if_neg (by omega)]
set_option maxHeartbeats 2000000 in
theorem comp_end {d n₀ R:Nat} {w:World} {C l:Nat} {c:Cp} {W:World} {v:Value} {ts:List Bt} {b:Nat} {i k a p:Value} (lo:Nat) (hK:CompK d n₀ R w C l c W) (hc:CUx d C W C c i k a p) (hPb:Rd n₀ W R v ts b (8 - (d:Int))) (hdf:W.heap[lo]? = some (.deferred (some []))) (hR:R < w.heap.size) (hlo:C < lo) (hC:w.heap.size + 1 + 1 < C) (B:Bool) :
  ((set5 W (w.heap.size + 1) (.string c.tag) i k a p).setCell ⟨w.heap.size + 1 + 1,0,none⟩ (.bool B)).drew.heap[lo]? = some (.deferred (some [])) ∧
  Blk (((set5 W (w.heap.size + 1) (.string c.tag) i k a p).setCell ⟨w.heap.size + 1 + 1,0,none⟩ (.bool B)).drew.putObj lo (.deferred none)) (w.heap.size + 1) 154 [.string c.tag,i,k,a,p] ∧
  Blk (((set5 W (w.heap.size + 1) (.string c.tag) i k a p).setCell ⟨w.heap.size + 1 + 1,0,none⟩ (.bool B)).drew.putObj lo (.deferred none)) (w.heap.size + 1 + 1) 4 [.bool B] ∧
  But R w (((set5 W (w.heap.size + 1) (.string c.tag) i k a p).setCell ⟨w.heap.size + 1 + 1,0,none⟩ (.bool B)).drew.putObj lo (.deferred none)) ∧
  CpT (SelsAt d (fun b => w.heap.size ≤ b) (((set5 W (w.heap.size + 1) (.string c.tag) i k a p).setCell ⟨w.heap.size + 1 + 1,0,none⟩ (.bool B)).drew.putObj lo (.deferred none))) (fun b => w.heap.size ≤ b) (((set5 W (w.heap.size + 1) (.string c.tag) i k a p).setCell ⟨w.heap.size + 1 + 1,0,none⟩ (.bool B)).drew.putObj lo (.deferred none)) [.string c.tag,i,k,a,p] c ∧
  Rd n₀ (((set5 W (w.heap.size + 1) (.string c.tag) i k a p).setCell ⟨w.heap.size + 1 + 1,0,none⟩ (.bool B)).drew.putObj lo (.deferred none)) R v ts b (8 - (d:Int)) ∧ True:=by
 have hlo2:=hPb.low
 have hk0:Kept (fun b => b ≠ w.heap.size + 1 ∧ b ≠ w.heap.size + 1 + 1) W ((set5 W (w.heap.size + 1) (.string c.tag) i k a p).setCell ⟨w.heap.size + 1 + 1,0,none⟩ (.bool B)):=
  Kept.trans (Kept.of_grown (grown_set5 W (w.heap.size + 1) (.string c.tag) i k a p) (fun k e h => by cases e;exact h.1 rfl)) (Kept.of_grown (grown_set _ (w.heap.size + 1 + 1) 0 (.bool B)) (fun k e h => by cases e;exact h.2 rfl))
 have hB10:Blk ((set5 W (w.heap.size + 1) (.string c.tag) i k a p).setCell ⟨w.heap.size + 1 + 1,0,none⟩ (.bool B)) (w.heap.size + 1) 154 [.string c.tag,i,k,a,p]:=
  (blk_set5 hK.r1 (.string c.tag) i k a p).kept (grown_set (set5 W (w.heap.size + 1) (.string c.tag) i k a p) (w.heap.size + 1 + 1) 0 (.bool B)) (by simp)
 have hB20:Blk ((set5 W (w.heap.size + 1) (.string c.tag) i k a p).setCell ⟨w.heap.size + 1 + 1,0,none⟩ (.bool B)) (w.heap.size + 1 + 1) 4 [.bool B]:=
  blk_set1 (hK.r2.kept (grown_set5 W (w.heap.size + 1) (.string c.tag) i k a p) (by simp)) (.bool B)
 generalize (set5 W (w.heap.size + 1) (.string c.tag) i k a p).setCell ⟨w.heap.size + 1 + 1,0,none⟩ (.bool B) = Z0 at *
 have hkz:=hk0.drew
 have hB1:Blk Z0.drew _ _ _:=hB10
 have hB2:Blk Z0.drew _ _ _:=hB20
 generalize Z0.drew = Z at *
 have hll:lo < W.heap.size:=(Array.getElem?_eq_some_iff.1 hdf).1
 have hdz:Z.heap[lo]? = some (.deferred (some [])):=(hkz.block lo hll ⟨by omega,by omega⟩).trans hdf
 have hkp:=kept_putObj Z lo (.deferred none)
 have hall:Kept (fun b => b ≠ w.heap.size + 1 ∧ b ≠ w.heap.size + 1 + 1 ∧ b ≠ lo) W (Z.putObj lo (.deferred none)):=(hkz.mono (fun b _ h => ⟨h.1,h.2.1⟩)).trans (hkp.mono (fun b _ h => h.2.2))
 have fr:Fr (fun b => C ≤ b) (fun b => w.heap.size ≤ b) W (Z.putObj lo (.deferred none)):=Fr.of_kept hall (fun b hb hcl => ⟨⟨by omega,by omega,fun e => by obtain ⟨cs,t,f,h,_⟩:=hcl;rw [e,hdf] at h;cases h⟩,by omega⟩)
 exact ⟨hdz,hkp.blk hB1 (by omega),hkp.blk hB2 (by omega),(old_kept hK.old hall (fun b hb _ => ⟨by omega,by omega,by omega⟩)).mono (fun b hb h => ⟨h,hb⟩),hc.done.fr fr (fun _ _ h => SelsAt.fr d h fr),hPb.kept hall ⟨by omega,by omega,by omega⟩ (fun b hb => ⟨by omega,by omega,by omega⟩),trivial⟩
end Go.Proofs.YtagbjmocjaaioaaGreatDoor.Sl

/- The reader of selectors: the iterator over what stands between compounds. -/
set_option maxRecDepth 100000
namespace Go.Proofs.YtagbjmocjaaioaaGreatDoor.Sl
open Go.Proofs.YtagbjmocjaaioaaGreatDoor.Tre
open Go Go.RowKit Go.Shelf
attribute [local go_sem] Oper.semAt_some
theorem parts_none {L:Inner} {f:Nat} {cb:Int} {pre:List Pt} {r:List Bt} (h:compV L r = none):partsV L f cb pre r = none:=by
 cases f with
 | zero => rfl
 | succ f => simp only [partsV,h,Option.bind_none]
theorem parts_more {L:Inner} {f:Nat} {cb cb':Int} {pre:List Pt} {ts:List Bt} {a b b':Nat} {c:Cp} (hf:(ts.drop a).length < f) (h:compV L (ts.drop a) = some (c,ts.drop b)) (h2:betwV (ts.drop b) = some (cb',ts.drop b')):∃ g,(ts.drop b').length < g ∧ partsV L f cb pre (ts.drop a) = partsV L g cb' (pre ++ [(cb,c)]) (ts.drop b'):=by
 obtain ⟨f,rfl⟩:∃ g,f = g + 1:=⟨f - 1,by omega⟩
 have h3:=compV_lt h
 have h4:=betwV_le h2
 refine ⟨f,?_,?_⟩
 ·simp only at h3 h4
  omega
 ·simp only [partsV,h,Option.bind_some,h2]
theorem parts_end {L:Inner} {f:Nat} {cb:Int} {pre:List Pt} {ts:List Bt} {a b b':Nat} {c:Cp} (hf:(ts.drop a).length < f) (h:compV L (ts.drop a) = some (c,ts.drop b)) (h2:betwV (ts.drop b) = none) (h3:ts.drop b' = dropW (ts.drop b)):partsV L f cb pre (ts.drop a) = some (pre ++ [(cb,c)],ts.drop b'):=by
 obtain ⟨f,rfl⟩:∃ g,f = g + 1:=⟨f - 1,by omega⟩
 simp only [partsV,h,Option.bind_some,h2,h3]
set_option maxHeartbeats 4000000 in
theorem combs1_in (N l R B n₀:Nat) (v:Value) (ts:List Bt) (d:Nat) (K:List Pt → World → Prop) (Kx:World → Prop) (W:World) (a0:Nat)
  (hP:Rd n₀ W R v ts a0 (8 - (d:Int))) (h0:K [] W)
  (hbox:∀ c X,K c X → X.cell? ⟨B,0,none⟩ = some (.pointer (some ⟨R,0,none⟩)))
  (hK:∀ c X Y,K c X → But R X Y → K c Y)
  (hY:∀ pre cb a W1,K pre W1 → Rd n₀ W1 R v ts a (8 - (d:Int)) → pre.length ≤ a → W.heap.size ≤ W1.heap.size → YieldAt Fence.wide (N - 1) Tryz.prog l #[.int .i64 cb] W1 fun e W' =>
   (e = .returned (.bool true) ∧ (∃ c b,compV (innerV d) (ts.drop a) = some (c,ts.drop b) ∧ K (pre ++ [(cb,c)]) W' ∧ Rd n₀ W' R v ts b (8 - (d:Int))) ∧ W.heap.size ≤ W'.heap.size) ∨ (e = .returned (.bool false) ∧ compV (innerV d) (ts.drop a) = none ∧ Kx W')) :
  CallsIn Fence.wide N Tryz.prog 236 #[.func (.yield l) #[] #[],.pointer (some ⟨B,0,none⟩)] W fun e W' => (∃ v,e = .returned v) ∧ ((∃ ps b,selV (innerV d) (ts.drop a0) = some (ps,ts.drop b) ∧ K ps W' ∧ Rd n₀ W' R v ts b (8 - (d:Int))) ∨ (selV (innerV d) (ts.drop a0) = none ∧ Kx W')):=by
 have hlm:=hP.most
 obtain ⟨V,hV⟩:∃ V,selV (innerV d) (ts.drop a0) = V:=⟨_,rfl⟩
 rw [hV]
 have hb0:=hbox [] W h0
 have h1:=passWhite_any n₀ R v ts a0 (8 - (d:Int)) W hP
 have HB:Hid (∀ c X,K c X → X.cell? ⟨B,0,none⟩ = some (.pointer (some ⟨R,0,none⟩))):=hbox
 have HK:Hid (∀ c X Y,K c X → But R X Y → K c Y):=hK
 have HY:Hid (∀ pre cb a W1,K pre W1 → Rd n₀ W1 R v ts a (8 - (d:Int)) → pre.length ≤ a → W.heap.size ≤ W1.heap.size → YieldAt Fence.wide (N - 1) Tryz.prog l #[.int .i64 cb] W1 fun e W' =>
   (e = .returned (.bool true) ∧ (∃ c b,compV (innerV d) (ts.drop a) = some (c,ts.drop b) ∧ K (pre ++ [(cb,c)]) W' ∧ Rd n₀ W' R v ts b (8 - (d:Int))) ∧ W.heap.size ≤ W'.heap.size) ∨ (e = .returned (.bool false) ∧ compV (innerV d) (ts.drop a) = none ∧ Kx W')):=hY
 clear hbox hK hY
 refine callsIn_of_wp Tryz.func236 rfl trivial ?_ rfl
 simp only [Tryz.ntmps236,List.size_toArray,List.length_cons,List.length_nil,Nat.reduceAdd,Nat.reduceSub,Array.replicate_succ,Array.replicate_zero,List.push_toArray,List.append_toArray,List.nil_append,List.cons_append]
 gi_wp2_with fail
 refine ⟨trivial,fun h => (by cases h),?_⟩
 refine (callsIn_wide.2 h1).mono ?_
 clear h1
 rintro e w1 ⟨b1,rfl,hab,hbl,hd1,hP1,hb1⟩
 have hK1:=(show ∀ c X Y,_ → _ → _ from HK) [] W w1 h0 hb1
 have hs1:=hb1.size
 have hfu:(ts.drop b1).length < (ts.drop a0).length + 1:=by rw [List.length_drop,List.length_drop];omega
 have HV1:Hid (partsV (innerV d) ((ts.drop a0).length + 1) 0 [] (ts.drop b1) = V):=by
  unfold Hid
  rw [hd1,← hV]
  rfl
 clear hV hd1
 gi_wp2
 gi_loopw [3,4] (fun x y wr => (∃ (cb:Int) (a f:Nat) (pre:List Pt),x = .int .i64 cb ∧ y = .bool true ∧ (ts.drop a).length < f ∧ Hid (partsV (innerV d) f cb pre (ts.drop a) = V) ∧ K pre wr ∧ pre.length ≤ a ∧ Rd n₀ wr R v ts a (8 - (d:Int)) ∧ W.heap.size ≤ wr.heap.size) ∨ (∃ (ps:List Pt) (b:Nat),x = .int .i64 0 ∧ y = .bool false ∧ Hid (V = some (ps,ts.drop b)) ∧ K ps wr ∧ Rd n₀ wr R v ts b (8 - (d:Int)))) (fun _ y wr => match y with | .bool true => ts.length + 1 - placeOf wr R | _ => 0)
 case atStart => exact .inl ⟨0,b1,_,[],rfl,rfl,hfu,HV1,hK1,Nat.zero_le _,hP1,hs1⟩
 case round =>
  clear hK1 hP1 HV1 hP h0 hb0 hb1
  rcases hrel with ⟨cb,a,f,pre,rfl,rfl,hf,HV,hKc,hpl,hPa,hsz⟩ | ⟨ps,b,rfl,rfl,HV,hKc,hPb⟩
  ·have hal:=hPa.least
   obtain ⟨fn,tmps,assign,body,hyi,hR3⟩:=(show ∀ pre cb a W1,_ → _ → _ → _ → _ from HY) pre cb a _ hKc hPa hpl hsz
   gi_wp2_with fail
   refine ⟨fun h => (by cases h),hR3.mono ?_⟩
   clear hR3 hyi
   rintro e w4 (⟨rfl,⟨c,b,hcv,hK4,hP4⟩,hs4⟩ | ⟨rfl,hcv,hKx⟩)
   ·have hc4:=(show ∀ c X,_ → _ from HB) _ w4 hK4
    have h5:=combinator_any n₀ R v ts b (8 - (d:Int)) w4 hP4
    have hlb:=hP4.least
    have hlt:=compV_lt hcv
    simp only [List.length_drop] at hlt
    gi_wp2_with fail
    refine ⟨trivial,fun h => (by cases h),?_⟩
    refine (callsIn_wide.2 h5).mono ?_
    clear h5
    rintro e w5 ⟨hcs,hb5⟩
    have hK5:=(show ∀ c X Y,_ → _ → _ from HK) _ w4 w5 hK4 hb5
    have hs5:=hb5.size
    rcases hcs with ⟨cb',b',hbw,rfl,hP5⟩ | ⟨hbw,rfl,b',hdd,hP5⟩
    ·obtain ⟨g,hg,hv⟩:=parts_more (cb:=cb) (pre:=pre) hf hcv hbw
     have hle:=betwV_le hbw
     have hlb':=hP5.least
     simp only [List.length_drop] at hle
     rw [show _ = V from HV] at hv
     have HV':Hid (partsV (innerV d) g cb' (pre ++ [(cb,c)]) (ts.drop b') = V):=hv.symm
     have hpl':(pre ++ [(cb,c)]).length ≤ b':=by rw [List.length_append];simp;omega
     clear HV hv hcv hbw
     gi_wp2
     go_roundw
     case rel => exact .inl ⟨cb',b',g,pre ++ [(cb,c)],rfl,rfl,hg,HV',hK5,hpl',hP5,by omega⟩
     case measure =>
      show ts.length + 1 - placeOf _ R < ts.length + 1 - placeOf _ R
      rw [hP5.place,hPa.place]
      omega
    ·have hv:=parts_end (cb:=cb) (pre:=pre) hf hcv hbw hdd
     rw [show _ = V from HV] at hv
     have HV':Hid (V = some (pre ++ [(cb,c)],ts.drop b')):=hv
     clear HV hv hcv hbw
     gi_wp2
     go_roundw
     case rel => exact .inr ⟨_,b',rfl,rfl,HV',hK5,hP5⟩
     case measure =>
      show 0 < ts.length + 1 - placeOf _ R
      rw [hPa.place]
      omega
   ·have hv:=parts_none (f:=f) (cb:=cb) (pre:=pre) hcv
    rw [show _ = V from HV] at hv
    have HV':Hid (V = none):=hv
    clear HV hv hcv
    gi_wp2
    refine bodyPost_ret (results_none rfl _ _ _) rfl ?_
    exact ⟨⟨_,rfl⟩,.inr ⟨HV',hKx⟩⟩
  ·gi_wp2
   go_end0
   exact ⟨⟨_,rfl⟩,.inl ⟨ps,b,HV,hKc,hPb⟩⟩
end Go.Proofs.YtagbjmocjaaioaaGreatDoor.Sl

/- The reader of selectors: one selector. -/
namespace Go.Proofs.YtagbjmocjaaioaaGreatDoor.Sl
open Go.Proofs.YtagbjmocjaaioaaGreatDoor.Tre
open Go Go.RowKit Go.Shelf
attribute [local go_sem] Oper.semAt_some
theorem infoPt3:(Tryz.prog.info? 156).map (fun i => (i.zero,i.size,i.bytes)) = some (some (.agg #[.int .i64 0,.string ⟨#[]⟩,.slice none 0 0,.slice none 0 0,.slice none 0 0,.slice none 0 0]),6,120):=by kernel_rfl
theorem infoSl:(Tryz.prog.info? 86).map (·.size) = some 1:=by kernel_rfl
theorem load_sl {w:World} {g:Nat} {a:Value} (h:Blk w g 86 [a]):(loadVar 86 ⟨g,0,none⟩).run Tryz.prog w = .ok (.agg #[a]) w:=
 run_loadVar_row w g _ 86 #[a] (0,0) _ h Tryz.underlying86 rfl infoSl
theorem egCombs:∀ args w,(callFunc 236 args).run Tryz.prog w = .ok (.enter 236 args) w:=enters_of Tryz.func236 (by kernel_rfl) rfl
theorem combs_in (N R:Nat) (w:World) :
  CallsIn Fence.wide N Tryz.prog 199 #[.pointer (some ⟨R,0,none⟩)] w fun e w' => e = .returned (.func (.func 236) #[] #[.pointer (some ⟨w.heap.size,0,none⟩)]) ∧ w' = w.alloc (.cells #[.pointer (some ⟨R,0,none⟩)] 210):=by
 refine callsIn_of_wp Tryz.func199 rfl trivial ?_ rfl
 simp only [Tryz.ntmps199,List.size_toArray,List.length_cons,List.length_nil,Nat.reduceAdd,Nat.reduceSub,Array.replicate_succ,Array.replicate_zero,List.push_toArray,List.append_toArray,List.nil_append,List.cons_append]
 gi_wp2
 go_ret
 exact ⟨rfl,rfl⟩
def PtTd (d:Nat) (P:Nat → Prop) (W:World) (c:List Value) (q:Pt):Prop:=PtT (SelsAt d P W) P W c q
theorem ptT_stays (d:Nat):Stays (PtTd d):=fun _ _ _ _ _ _ ⟨c',e,h⟩ f => ⟨c',e,h.fr f (fun _ _ hx => SelsAt.fr d hx f)⟩
def OffS (S:Nat) (v:Value) (b:Nat):Prop:=S < b ∧ v.ownBlock ≠ some b
structure SelU (d S:Nat) (X:World) (v:Value) (ps:List Pt):Prop where
 blk:Blk X S 86 [v]
 row:UndRow 156 6 (PtTd d) S (OffS S v) X v ps
theorem SelU.kept {d S:Nat} {X Y:World} {v:Value} {ps:List Pt} (h:SelU d S X v ps) {keep:Nat → Prop} (hk:Kept keep X Y) (hn:∀ b,S ≤ b → Cl X b → keep b):SelU d S Y v ps:=
 ⟨hk.blk h.blk (hn S (Nat.le_refl _) (h.blk.cl (by decide))),h.row.kept (ptT_stays d) (Fr.of_kept hk (fun b hb hcl => ⟨hn b (Nat.le_of_lt hb.1) hcl,hb⟩)) (fun g hg => hk.block g (h.row.lt hg).2 (hn g (h.row.lt hg).1 (h.row.cl (by decide) hg)))⟩
theorem SelU.below {d S:Nat} {X Y:World} {v:Value} {ps:List Pt} (h:SelU d S X v ps) (hb:Below X.heap.size X Y):SelU d S Y v ps:=h.kept (keep:=fun _ => True) (.of_below hb) (fun _ _ _ => trivial)
theorem SelU.new (d:Nat) (W:World):SelU d W.heap.size (W.alloc (.cells #[nilS] 86)) nilS []:=⟨Blk.new W 86 _,UndRow.nil _ _ _ _ _ _⟩
theorem SelU.push {d S:Nat} {W W':World} {v v':Value} {ps:List Pt} (h:SelU d S W v ps) {css:List (List Value)} (h2:css.length = ps.length) (h3:∀ c ∈ css,c.length = 6) (h4:∀ (j:Nat) (q:List Value) (x:Pt),css[j]? = some q → ps[j]? = some x → PtTd d (OffS S v) W q x) {cb:Int} {q:Cp} {i k a p:Value} {m:Nat}
  (hx:CpT (SelsAt d (fun b => m ≤ b) W) (fun b => m ≤ b) W [.string q.tag,i,k,a,p] q) (hmS:S < m) (hm:∀ g,v.ownBlock = some g → g < m)
  (hr:W'.ownsRow S 156 6 v' (ps.length + 1) (css.flatten ++ [.int .i64 cb,.string q.tag,i,k,a,p])) (hg:W.grownBy W' v.ownBlock) (hat:∀ g,v'.ownBlock = some g → v.ownBlock = some g ∨ W.heap.size ≤ g):SelU d S (W'.setCell ⟨S,0,none⟩ v') v' (ps ++ [(cb,q)]):=by
 have hSW:=h.blk.lt
 have ov:=h.row.off h.blk (by decide)
 have keep:∀ b,b < W.heap.size → b ≠ S → v.ownBlock ≠ some b → (W'.setCell ⟨S,0,none⟩ v').heap[b]? = W.heap[b]?:=fun b hb h1 h2 =>
  (Below.heap_setCell _ _ _ _ (fun e => h1 (by simpa using e))).trans (hg.block b hb (fun e => h2 e.symm))
 have hsz:W.heap.size ≤ (W'.setCell ⟨S,0,none⟩ v').heap.size:=by rw [World.size_setCell];exact hg.size
 have f:Fr (OffS S v) (OffS S v') W (W'.setCell ⟨S,0,none⟩ v'):=⟨hsz,fun b hb hl => ⟨keep b hl.lt (by have:=hb.1;omega) hb.2,hb.1,fun e => (hat b e).elim hb.2 (fun h => by have:=hl.lt;omega)⟩⟩
 have f2:Fr (fun b => m ≤ b) (OffS S v') W (W'.setCell ⟨S,0,none⟩ v'):=⟨hsz,fun b hb hl => ⟨keep b hl.lt (by omega) (fun e => by have:=hm b e;omega),by omega,fun e => (hat b e).elim (fun e => by have:=hm b e;omega) (fun h => by have:=hl.lt;omega)⟩⟩
 have hvS:v'.ownBlock ≠ some S:=fun e => (hat S e).elim ov (fun h => by omega)
 have hr':(W'.setCell ⟨S,0,none⟩ v').ownsRow S 156 6 v' _ _:=owns_same hr (fun g hg' => Below.heap_setCell _ _ _ _ (fun e => hvS (by simp at e;rw [← e];exact hg')))
 exact ⟨blk_set1 ((show Blk W' S _ _ from (hg.block S hSW (fun e => ov e.symm)).trans h.blk)) v',und_push (ptT_stays d) h2 h3 h4 rfl ⟨_,rfl,hx.fr f2 (fun _ _ h => SelsAt.fr d h f2)⟩ f hr'⟩
theorem SelU.done {d S:Nat} {X:World} {v:Value} {ps:List Pt} (h:SelU d S X v ps):PtsF (SelsAt d (fun b => S ≤ b) X) (fun b => S ≤ b) X v ps:=h.row.done (by decide) (ptT_stays d) (fun b hb => Nat.le_of_lt hb.1) (fun g hg => (h.row.lt hg).1)
structure SelK (d n₀ R:Nat) (w:World) (l:Nat) (ps:List Pt) (X:World):Prop where
 su:∃ v,SelU d (w.heap.size + 1 + 1 + 1) X v ps
 box:Blk X w.heap.size 210 [.pointer (some ⟨R,0,none⟩)]
 r1:Blk X (w.heap.size + 1) 86 [nilS]
 r2:Blk X (w.heap.size + 1 + 1) 4 [.bool false]
 box2:Blk X (w.heap.size + 1 + 1 + 1 + 1) 210 [.pointer (some ⟨R,0,none⟩)]
 ops:OpsAt n₀ X
 old:Kept (fun b => b ≠ R ∧ b < w.heap.size) w X
 lp:∃ r,X.heap[l]? = some (.loop r)
structure SelX (n₀ R:Nat) (v:Value) (ts:List Bt) (d:Nat) (w:World) (X:World):Prop where
 r1:Blk X (w.heap.size + 1) 86 [nilS]
 r2:Blk X (w.heap.size + 1 + 1) 4 [.bool false]
 old:Kept (fun b => b ≠ R ∧ b < w.heap.size) w X
 rd:∃ b,Rd n₀ X R v ts b (8 - (d:Int))
theorem SelK.kept {d n₀ R:Nat} {w:World} {l:Nat} {ps:List Pt} {X Y:World} (h:SelK d n₀ R w l ps X) {keep:Nat → Prop} (hk:Kept keep X Y) (hn₀:n₀ ≤ R) (hRw:R < w.heap.size) (hold:∀ b,b < w.heap.size → b ≠ R → keep b) (hnew:∀ b,w.heap.size ≤ b → Cl X b → keep b) (hl:∃ r,Y.heap[l]? = some (.loop r)):SelK d n₀ R w l ps Y:=by
 obtain ⟨u,hu⟩:=h.su
 refine ⟨⟨u,hu.kept hk (fun b hb => hnew b (by omega))⟩,hk.blk h.box (hnew _ (Nat.le_refl _) (h.box.cl (by decide))),hk.blk h.r1 (hnew _ (by omega) (h.r1.cl (by decide))),hk.blk h.r2 (hnew _ (by omega) (h.r2.cl (by decide))),hk.blk h.box2 (hnew _ (by omega) (h.box2.cl (by decide))),h.ops.below (hk.below ?_ (fun b hb => hold b (by omega) (by omega))),old_kept h.old hk hold,hl⟩
 have:=h.old.size
 omega
theorem SelX.kept {n₀ R:Nat} {v:Value} {ts:List Bt} {d:Nat} {w X Y:World} (h:SelX n₀ R v ts d w X) {keep:Nat → Prop} (hk:Kept keep X Y) (hn₀:n₀ ≤ R) (hRw:R < w.heap.size) (hold:∀ b,b < w.heap.size + 3 → keep b):SelX n₀ R v ts d w Y:=
 ⟨hk.blk h.r1 (hold _ (by omega)),hk.blk h.r2 (hold _ (by omega)),old_kept h.old hk (fun b hb _ => hold b (by omega)),h.rd.elim fun b hb => ⟨b,hb.kept hk (hold _ (by omega)) (fun c hc => hold c (by omega))⟩⟩
theorem SelK.turn {d n₀ R:Nat} {w:World} {l:Nat} {ps:List Pt} {X:World} (h:SelK d n₀ R w l ps X) (r:Loop) (hn₀:n₀ ≤ R) (hRw:R < w.heap.size) (hlw:w.heap.size ≤ l):SelK d n₀ R w l ps (X.putObj l (.loop r)):=by
 obtain ⟨r0,h0⟩:=h.lp
 exact h.kept (kept_putObj X l (.loop r)) hn₀ hRw (fun b hb _ => by omega) (fun b _ hb e => by obtain ⟨cs,t,f,hc,_⟩:=hb;rw [e,h0] at hc;cases hc) ⟨r,World.putObj_heap_same (Array.getElem?_eq_some_iff.1 h0).1⟩
theorem SelK.step {d n₀ R:Nat} {w:World} {l:Nat} {ps ps':List Pt} {X Y:World} {v v':Value} (h:SelK d n₀ R w l ps X) (hu:SelU d (w.heap.size + 1 + 1 + 1) X v ps) (hk:Kept (fun b => b ≠ w.heap.size + 1 + 1 + 1 ∧ v.ownBlock ≠ some b) X Y) (hu':SelU d (w.heap.size + 1 + 1 + 1) Y v' ps') (hn₀:n₀ ≤ R) (hRw:R < w.heap.size):SelK d n₀ R w l ps' Y:=by
 have hs:=hu.row
 have lo:∀ b,b < w.heap.size + 1 + 1 + 1 → b ≠ w.heap.size + 1 + 1 + 1 ∧ v.ownBlock ≠ some b:=fun b hb => ⟨by omega,fun e => by have:=(hs.lt e).1;omega⟩
 obtain ⟨r,hr⟩:=h.lp
 refine ⟨⟨v',hu'⟩,hk.blk h.box (lo _ (by omega)),hk.blk h.r1 (lo _ (by omega)),hk.blk h.r2 (lo _ (by omega)),hk.blk h.box2 ⟨by omega,hs.off h.box2 (by decide)⟩,h.ops.below (hk.below ?_ (fun b hb => lo b (by omega))),old_kept h.old hk (fun b hb _ => lo b (by omega)),⟨r,(hk.block l (Array.getElem?_eq_some_iff.1 hr).1 ⟨fun e => ?_,owns_apart hs.choose_spec.1 hr (fun _ _ e => by cases e)⟩).trans hr⟩⟩
 ·have:=h.old.size
  omega
 ·have:=hu.blk
  rw [← e] at this
  rw [show X.heap[l]? = _ from this] at hr
  cases hr
def SelOut (n₀ R:Nat) (v:Value) (ts:List Bt) (d:Nat) (w:World) (V:Option (Sel × List Bt)) (e:Ending) (w':World):Prop:=
 ((∃ s b x,V = some (s,ts.drop b) ∧ e = .returned (.tuple #[.agg #[x],.bool true]) ∧ PtsF (SelsAt d (fun b => w.heap.size ≤ b) w') (fun b => w.heap.size ≤ b) w' x s ∧ Rd n₀ w' R v ts b (8 - (d:Int))) ∨
  (V = none ∧ e = .returned (.tuple #[.agg #[nilS],.bool false]) ∧ ∃ b,Rd n₀ w' R v ts b (8 - (d:Int)))) ∧ But R w w'
end Go.Proofs.YtagbjmocjaaioaaGreatDoor.Sl

/- The reader of selectors: a list, and sel.Parse at every slice of tokens. -/
namespace Go.Proofs.YtagbjmocjaaioaaGreatDoor.Sl
open Go.Proofs.YtagbjmocjaaioaaGreatDoor.Tre
open Go Go.RowKit Go.Shelf
theorem list_none {L:Inner} {f:Nat} {pre:List Sel} {r:List Bt} (h:selV L r = none):listF L f pre r = none:=by
 cases f with
 | zero => rfl
 | succ f => simp only [listF,h,Option.bind_none]
theorem list_more {L:Inner} {f:Nat} {pre:List Sel} {ts:List Bt} {a b:Nat} {s:Sel} (hf:(ts.drop a).length < f) (h:selV L (ts.drop a) = some (s,ts.drop b)) (h2:(at' ts b).kind = 13):∃ g,(ts.drop (b + 1)).length < g ∧ listF L f pre (ts.drop a) = listF L g (pre ++ [s]) (ts.drop (b + 1)):=by
 obtain ⟨f,rfl⟩:∃ g,f = g + 1:=⟨f - 1,by omega⟩
 have h3:=selV_lt h
 have hl:b < ts.length:=at_lt (by rw [h2];decide)
 refine ⟨f,?_,?_⟩
 ·simp only [List.length_drop] at h3 hf ⊢
  omega
 ·simp only [listF,h,Option.bind_some]
  rw [at_cons hl]
  simp only [if_pos h2]
theorem list_end {L:Inner} {f:Nat} {pre:List Sel} {ts:List Bt} {a b:Nat} {s:Sel} (hf:(ts.drop a).length < f) (h:selV L (ts.drop a) = some (s,ts.drop b)) (h2:¬ (at' ts b).kind = 13):listF L f pre (ts.drop a) = some (pre ++ [s],ts.drop b):=by
 obtain ⟨f,rfl⟩:∃ g,f = g + 1:=⟨f - 1,by omega⟩
 simp only [listF,h,Option.bind_some]
 by_cases hl:b < ts.length
 ·rw [at_cons hl]
  simp only [if_neg h2]
 ·rw [List.drop_eq_nil_of_le (by omega)]
def SlTd (d:Nat) (P:Nat → Prop) (W:World) (c:List Value) (s:Sel):Prop:=SlT (SelsAt d P W) P W c s
theorem slT_stays (d:Nat):Stays (SlTd d):=fun _ _ _ _ _ _ ⟨x,e,h⟩ f => ⟨x,e,PtsF.fr h f (fun _ _ hx => SelsAt.fr d hx f)⟩
def OffL (n:Nat) (v:Value) (b:Nat):Prop:=n ≤ b ∧ v.ownBlock ≠ some b
theorem infoSl3:(Tryz.prog.info? 86).map (fun i => (i.zero,i.size,i.bytes)) = some (some (.agg #[.slice none 0 0]),1,24):=by kernel_rfl
theorem parse_long {ts:List Bt} (h:1000 < ts.length):parseV ts = none:=by unfold parseV;rw [if_pos h]
theorem parse_short {ts:List Bt} (h:¬ 1000 < ts.length):parseV ts = match listV 8 ts with
 | some (l,[]) => some l
 | _ => none:=by
 unfold parseV
 rw [if_neg h]
 rfl
end Go.Proofs.YtagbjmocjaaioaaGreatDoor.Sl

/- The reader of selectors, where no token begins a unit (tags and combinators alone): so what reads units is not wanted. -/
set_option maxRecDepth 100000
namespace Go.Proofs.YtagbjmocjaaioaaGreatDoor.Sl
open Go.Proofs.YtagbjmocjaaioaaGreatDoor.Tre
open Go Go.RowKit Go.Shelf
attribute [local go_sem] Oper.semAt_some
set_option maxHeartbeats 4000000 in
theorem units0_in (N l R B n₀:Nat) (v:Value) (ts:List Bt) (d:Nat) (K:World → Prop) (W:World) (a0:Nat) (hNU:begU (at' ts a0) = false)
  (hP:Rd n₀ W R v ts a0 (8 - (d:Int))) (h0:K W)
  (hbox:∀ X,K X → X.cell? ⟨B,0,none⟩ = some (.pointer (some ⟨R,0,none⟩)))
  (hK:∀ X Y,K X → Below X.heap.size X Y → K Y) :
  CallsIn Fence.wide N Tryz.prog 271 #[.func (.yield l) #[] #[],.pointer (some ⟨B,0,none⟩)] W fun e W' => (∃ v,e = .returned v) ∧ K W' ∧ Rd n₀ W' R v ts a0 (8 - (d:Int)):=by
 have hlm:=hP.most
 have hlow:=hP.low
 have hb0:=hbox W h0
 have h1:=ahead_any n₀ R v ts a0 (8 - (d:Int)) W hP
 have HKb:Hid (∀ X Y,K X → Below X.heap.size X Y → K Y):=hK
 have HB:Hid (∀ X,K X → X.cell? ⟨B,0,none⟩ = some (.pointer (some ⟨R,0,none⟩))):=hbox
 clear hbox hK
 refine callsIn_of_wp Tryz.func271 rfl trivial ?_ rfl
 simp only [Tryz.ntmps271,List.size_toArray,List.length_cons,List.length_nil,Nat.reduceAdd,Nat.reduceSub,Array.replicate_succ,Array.replicate_zero,List.push_toArray,List.append_toArray,List.nil_append,List.cons_append]
 have hTb:∀ T:Bt,at' ts a0 = T → Calls Tryz.prog 235 #[.pointer (some ⟨R,0,none⟩)] W fun e w' => e = .returned (.agg #[.int .i64 T.kind,.string T.text,.int .i64 T.n,.bool T.whole,.int .i64 T.c]) ∧ Below W.heap.size W w':=fun T hT => by rw [← hT];exact h1
 clear h1
 obtain ⟨T,hT⟩:∃ T,at' ts a0 = T:=⟨_,rfl⟩
 rw [hT] at hNU
 have h1:=hTb T hT
 clear hTb
 gi_wp2_with fail
 refine ⟨trivial,fun h => (by cases h),?_⟩
 refine (callsIn_wide.2 h1).mono ?_
 clear h1
 rintro e w1 ⟨rfl,b1⟩
 obtain ⟨bO,kO⟩:=tok_new w1 T
 have bWO:=below_next b1 bO
 have hPO:=hP.below bWO
 have hKO:=(show ∀ X Y,_ → _ → _ from HKb) W _ h0 bWO
 gi_wp2
 gi_loopw [3] (fun x wr => ∃ (F:Nat),x = .pointer (some ⟨F,0,none⟩) ∧ Blk wr F 108 [.int .i64 T.kind,.string T.text,.int .i64 T.n,.bool T.whole,.int .i64 T.c] ∧ K wr ∧ Rd n₀ wr R v ts a0 (8 - (d:Int))) (fun _ wr => 0)
 case atStart => exact ⟨w1.heap.size,rfl,kO,hKO,hPO⟩
 case round =>
  clear h0 hP hPO hKO kO bO bWO hT hb0
  obtain ⟨F,rfl,kF,hKc,hPa⟩:=hrel
  have hF:=kF.lt
  obtain ⟨⟨t0,t1,t2,t3,t4⟩,_⟩:=blk5 kF
  have h2:=beginsUnit_any T wr
  rw [hNU] at h2
  unfold tkV at h2
  gi_wp2_with fail
  refine ⟨trivial,fun h => (by cases h),?_⟩
  refine (callsIn_wide.2 h2).mono ?_
  clear h2
  rintro e w2 ⟨rfl,b2⟩
  have hP2:=hPa.below b2
  have hK2:=(show ∀ X Y,_ → _ → _ from HKb) wr w2 hKc b2
  gi_wp2
  go_end0
  exact ⟨⟨_,rfl⟩,hK2,hP2⟩
set_option maxHeartbeats 4000000 in
theorem compound0_any (n₀ R:Nat) (v:Value) (ts:List Bt) (a0:Nat) (d:Nat) (w:World) (hP:Rd n₀ w R v ts a0 (8 - (d:Int))) (hS:OpsAt n₀ w) (hG:Good ts) (_hd:d ≤ 8) (hNU:∀ b,begU (at' ts b) = false) :
  Calls Tryz.prog 200 #[.pointer (some ⟨R,0,none⟩)] w (CompOut n₀ R v ts d w (compV (innerV d) (ts.drop a0))):=by
 have hR:=hP.lt
 have hlo:=hP.low
 have hlm:=hP.most
 have hal0:=hP.least
 obtain ⟨Q,hQ⟩:∃ Q,CompOut n₀ R v ts d w (compV (innerV d) (ts.drop a0)) = Q:=⟨_,rfl⟩
 rw [hQ]
 refine (callsIn_wide (n:=2)).1 ?_
 refine callsIn_of_wp_marks Tryz.func200 rfl trivial ?_ rfl
 simp only [Tryz.ntmps200,List.size_toArray,List.length_cons,List.length_nil,Nat.reduceAdd,Nat.reduceSub,Array.replicate_succ,Array.replicate_zero,List.push_toArray,List.append_toArray,List.nil_append,List.cons_append]
 obtain ⟨w3,hw3⟩:∃ w3,((w.alloc (.cells #[.pointer (some ⟨R,0,none⟩)] 210)).alloc (.cells #[.string ⟨#[]⟩,nilS,nilS,nilS,nilS] 154)).alloc (.cells #[.bool false] 4) = w3:=⟨_,rfl⟩
 have hs3:w3.heap.size = w.heap.size + 3:=by rw [← hw3];simp
 have hB3:Below w.heap.size w w3:=by rw [← hw3];exact (((Below.refl _ w).alloc (Nat.le_refl _) _).alloc (by simp) _).alloc (by simp;omega) _
 have kB:Blk w3 w.heap.size 210 [.pointer (some ⟨R,0,none⟩)]:=by
  rw [← hw3]
  exact ((Blk.new w 210 _).kept (World.grownBy_alloc _ _ none) (by simp)).kept (World.grownBy_alloc _ _ none) (by simp)
 have k1:Blk w3 (w.heap.size + 1) 154 [.string ⟨#[]⟩,nilS,nilS,nilS,nilS]:=by
  rw [← hw3]
  have:=(Blk.new (w.alloc (.cells #[.pointer (some ⟨R,0,none⟩)] 210)) 154 [.string ⟨#[]⟩,nilS,nilS,nilS,nilS]).kept (World.grownBy_alloc _ (.cells #[.bool false] 4) none) (by simp)
  rwa [World.size_alloc] at this
 have k2:Blk w3 (w.heap.size + 1 + 1) 4 [.bool false]:=by
  rw [← hw3]
  have:=Blk.new ((w.alloc (.cells #[.pointer (some ⟨R,0,none⟩)] 210)).alloc (.cells #[.string ⟨#[]⟩,nilS,nilS,nilS,nilS] 154)) 4 [.bool false]
  rwa [World.size_alloc,World.size_alloc] at this
 have hP3:=hP.below hB3
 have cB:=(blk1 kB).1
 obtain ⟨⟨p0,p1,p2⟩,_⟩:=blk3 hP3.blk
 gi_wp2_with fail
 refine ⟨trivial,?_⟩
 clear hw3 cB p0 p1 p2
 have htg:=tag_any n₀ R v ts a0 (8 - (d:Int)) w3 hP3 hG
 obtain ⟨tg,htg1⟩:∃ tg,(tagV (ts.drop a0)).1 = tg:=⟨_,rfl⟩
 rw [htg1] at htg
 refine (callsIn_wide.2 htg).mono ?_
 clear htg
 rintro e w4 ⟨rfl,⟨b0,htd,hab0,hP4⟩,hb4⟩
 replace kB:=hb4.blk kB (by omega)
 replace k1:=hb4.blk k1 (by omega)
 replace k2:=hb4.blk k2 (by omega)
 have hbw4:But R w w4:=(Kept.of_below hB3).trans hb4
 have hs4:=k2.lt
 have bC:Below w4.heap.size w4 (w4.alloc (.cells #[.string tg,nilS,nilS,nilS,nilS] 154)):=(Below.refl _ _).alloc (Nat.le_refl _) _
 have hCU:=CUx.new d w4.heap.size w4 tg (Nat.le_refl _)
 have hP5:=hP4.below bC
 have hbw5:But R w _:=hbw4.trans (.of_below bC)
 replace kB:=kB.below bC kB.lt
 replace k1:=k1.below bC k1.lt
 replace k2:=k2.below bC hs4
 have hR4:=hP4.lt
 have hs5:(w4.alloc (.cells #[.string tg,nilS,nilS,nilS,nilS] 154)).heap.size = w4.heap.size + 1:=World.size_alloc _ _
 have cB:=(blk1 kB).1
 gi_wp2_with fail
 refine ⟨trivial,?_⟩
 generalize w4.alloc (.cells #[.string tg,nilS,nilS,nilS,nilS] 154) = w5 at *
 refine (units_in _ R w5).mono ?_
 rintro e w6 ⟨rfl,hw6⟩
 have b6:Below w5.heap.size w5 w6:=by rw [hw6];exact (Below.refl _ _).alloc (Nat.le_refl _) _
 have kX:Blk w6 w5.heap.size 210 [.pointer (some ⟨R,0,none⟩)]:=by rw [hw6];exact Blk.new w5 _ _
 have hs6:w6.heap.size = w5.heap.size + 1:=by rw [hw6];exact World.size_alloc _ _
 replace kB:=kB.below b6 kB.lt
 replace k1:=k1.below b6 k1.lt
 replace k2:=k2.below b6 k2.lt
 have hCU6:=hCU.below b6
 have hP6:=hP5.below b6
 have hbw6:But R w w6:=hbw5.trans (.of_below b6)
 have hO6:=hS.kept hbw6 hlo hR
 clear hw6 hCU hP5 hbw5 b6 bC hB3 hP3 hP4 hb4 hbw4 cB
 have hfu:(ts.drop b0).length < (ts.drop a0).length + 1:=by rw [List.length_drop,List.length_drop];omega
 have hCw:w4.heap.size < w6.heap.size:=by omega
 gi_wp2_with fail
 rw [hs5] at kX hs6
 clear hs5
 generalize w4.heap.size = C at *
 have hs6':C + 2 ≤ w6.heap.size:=by omega
 clear hs6 hs3
 refine wpIn_rangeFunc_Q (σ:=Unit) (α:=Bt) rfl (by decide) (gf:=271) (lb:=#[.pointer (some ⟨C + 1,0,none⟩)]) rfl trivial egUnits (encs:=fun t => #[tkV t]) (fun _ => rfl)
  (fun t W => W.alloc (.cells #[.int .i64 t.kind,.string t.text,.int .i64 t.n,.bool t.whole,.int .i64 t.c] 108)) (fun t W => (Below.refl _ _).alloc (Nat.le_refl _) _)
  (fun t W => { tmps:=#[.pointer (some ⟨R,0,none⟩),.pointer (some ⟨w.heap.size,0,none⟩),.pointer (some ⟨w.heap.size + 1,0,none⟩),.pointer (some ⟨w.heap.size + 1 + 1,0,none⟩),.int .i64 a0,.pointer (some ⟨C,0,none⟩),.pointer (some ⟨W.heap.size,0,none⟩),.pointer (some ⟨R,0,none⟩),.pointer (some ⟨R,0,none⟩),.pointer (some ⟨R,1,none⟩),.int .i64 a0,.pointer (some ⟨R,0,none⟩),.string tg,.agg #[.string tg,.slice none 0 0,.slice none 0 0,.slice none 0 0,.slice none 0 0],.pointer (some ⟨R,0,none⟩),.func (.func 271) #[] #[.pointer (some ⟨C + 1,0,none⟩)],tkV t,undef,undef,undef,undef,undef,undef,undef,undef,undef,undef,undef,undef],defers:=[] })
  (fun _ _ _ => False) (fun _ _ _ => False) (fun _ _ _ => False) (fun _ => False)
  (fun W => CompK d n₀ R w C (w6.heap.size + 1) (.mk tg [] [] [] []) W ∧ Rd n₀ W R v ts b0 (8 - (d:Int)))
  ?hPost ?hStop ?hStopD ?hDone ?assign ?body ?call ?done ?stop
 case hPost => exact fun _ _ _ _ h _ => h.elim
 case hStop => exact fun _ _ _ _ h _ => h.elim
 case hStopD => exact fun _ _ h _ => h.elim
 case hDone =>
  rintro X r ⟨h2,h3⟩ hlt
  have hk:=kept_putObj X (w6.heap.size + 1) (.loop r)
  exact ⟨h2.kept hk hlo hR (fun b hb _ => by omega) (fun b _ hb e => by obtain ⟨r0,h0⟩:=h2.lp;obtain ⟨cs,t,f,hc,_⟩:=hb;rw [e,h0] at hc;cases hc) ⟨r,World.putObj_heap_same hlt⟩,h3.kept hk (by omega) (fun b hb => by omega)⟩
 case assign =>
  intro l x X K hK
  unfold tkV
  gi_wp2
  exact hK
 case body =>
  intro l' s x W0 W h
  exact False.elim h
 case call =>
  rintro Lp Lx W1 hLp hLx hb1 hsz1 hr1 hlp1 hY
  have hk1:Kept (fun _ => True) w6 W1:=.of_below hb1
  have hfl:w.heap.size + 3 ≤ w6.heap.size:=by omega
  refine (units0_in 1 (w6.heap.size + 1) R (C + 1) n₀ v ts d (fun X => CompK d n₀ R w C (w6.heap.size + 1) (.mk tg [] [] [] []) X ∧ Lp X) W1 b0 (hNU b0) (hP6.below hb1) ⟨⟨⟨_,_,_,_,hCU6.below hb1⟩,hs4,kB.below hb1 kB.lt,k1.below hb1 k1.lt,k2.below hb1 k2.lt,kX.below hb1 kX.lt,hO6.below (hb1.mono (by omega)),((hbw6.mono (fun b _ hb => hb.1)).trans (hk1.mono (fun _ _ _ => trivial))),hr1⟩,hlp1⟩ ?_ ?_).mono ?_
  ·exact fun X h => (blk1 h.1.box2).1
  ·rintro X Y ⟨h,hx⟩ hk
   obtain ⟨r0,h0⟩:=h.lp
   have hlx:=(Array.getElem?_eq_some_iff.1 h0).1
   have hlk:∀ b,w6.heap.size ≤ b → b < w6.heap.size + 2 → Y.heap[b]? = X.heap[b]?:=fun b h1 h2 => hk.block b (by omega)
   exact ⟨h.kept (keep:=fun _ => True) (.of_below hk) hlo hR (fun _ _ _ => trivial) (fun _ _ _ => trivial) ⟨r0,(hlk _ (by omega) (by omega)).trans h0⟩,hLp X Y hx (hlk _ (by omega) (by omega)) (hlk _ (by omega) (by omega))⟩
  ·rintro e W' ⟨⟨v0,rfl⟩,⟨h2,h3⟩,h4⟩
   exact ⟨⟨_,rfl⟩,.inl ⟨h3,h2,h4⟩⟩
 case done =>
  rintro W ⟨hK,hPb⟩ hdf
  obtain ⟨c,hc0⟩:∃ c,Cp.mk tg [] [] [] [] = c:=⟨_,rfl⟩
  rw [hc0] at hK
  obtain ⟨b,hb0⟩:∃ b,b0 = b:=⟨_,rfl⟩
  have hu:=show unitsV (innerV d) ((ts.drop a0).length + 1) (.mk tg [] [] [] []) (ts.drop b0) = some (c,ts.drop b) by rw [units_no (L:=innerV d) (c:=.mk tg [] [] [] []) hfu (hNU b0),hc0,hb0]
  rw [hb0] at hPb
  have hlb:=hPb.least
  have hyes:=fun h => comp_yes htg1 htd hu hlb h
  have hno:=fun h => comp_no htg1 htd hu h
  obtain ⟨V,hV⟩:∃ V,compV (innerV d) (ts.drop a0) = V:=⟨_,rfl⟩
  rw [hV] at hyes hno hQ
  have HQ:Hid (CompOut n₀ R v ts d w V = Q):=hQ
  obtain ⟨i,k,a',p,hc⟩:=hK.cu
  obtain ⟨qi,ci,rfl⟩:=hc.ri.form
  obtain ⟨qk,ck,rfl⟩:=hc.rk.form
  obtain ⟨qa,ca,rfl⟩:=hc.ra.form
  obtain ⟨qp,cp,rfl⟩:=hc.rp.form
  clear hQ hV hu hNU hG hS hP hP6 hbw6 hO6 kB k1 k2 kX hCU6 hfu htd htg1 hab0
  have cBx:=(blk1 hK.box).1
  obtain ⟨⟨z0,z1,z2,z3,z4⟩,f0,f1,f2,f3,f4⟩:=blk5 hK.r1
  obtain ⟨y0,g0⟩:=blk1 hK.r2
  obtain ⟨⟨x0,x1,x2,x3,x4⟩,_⟩:=blk5 hc.blk
  obtain ⟨⟨p0,p1,p2⟩,_⟩:=blk3 hPb.blk
  have HK:Hid (CompK d n₀ R w C (w6.heap.size + 1) c W):=hK
  have HC:Hid (CUx d C W C c (.slice qi c.ids.length ci) (.slice qk c.classes.length ck) (.slice qa c.attrs.length ca) (.slice qp c.pss.length cp)):=hc
  have HPb:Hid (Rd n₀ W R v ts b (8 - (d:Int))):=hPb
  clear hK hc hPb
  have n1:R ≠ w.heap.size + 1:=by omega
  have n2:w.heap.size + 1 ≠ R:=by omega
  have n3:C ≠ w.heap.size + 1:=by omega
  have n4:w.heap.size + 1 ≠ C:=by omega
  have n5:R ≠ w.heap.size + 1 + 1:=by omega
  have n6:w.heap.size + 1 + 1 ≠ R:=by omega
  have n7:C ≠ w.heap.size + 1 + 1:=by omega
  have n8:w.heap.size + 1 + 1 ≠ C:=by omega
  have n9:w.heap.size ≠ w.heap.size + 1:=by omega
  have n10:w.heap.size ≠ w.heap.size + 1 + 1:=by omega
  obtain ⟨B,hB⟩:∃ B,decide (a0 < b) = B:=⟨_,rfl⟩
  have hBi:decide ((a0:Int) < (b:Int)) = B:=by rw [← hB];simp
  have hres:Hid ((B = true ∧ V = some (c,ts.drop b)) ∨ (B = false ∧ V = none)):=by
   by_cases hgt:a0 < b
   ·exact .inl ⟨by rw [← hB,decide_eq_true hgt],hyes hgt⟩
   ·exact .inr ⟨by rw [← hB,decide_eq_false hgt],hno hgt⟩
  clear hyes hno
  gi_wp2_with fail
  refine wpIn_wide.2 ?_
  first | go_region_law (fail) | fail
  all_goals
   gi_wp2
   obtain ⟨hdfW,hB1,hB2,hoz,hcz,hPz,_⟩:=comp_end w6.heap.size (show CompK d n₀ R w C (w6.heap.size + 1) c W from HK) (show CUx d C W C c _ _ _ _ from HC) (show Rd n₀ W R v ts b (8 - (d:Int)) from HPb) hdf hR (by omega) hs4 B
   unfold set5 at hdfW hB1 hB2 hoz hcz hPz
   refine ⟨by simp,.inl ⟨_,_,rfl,run_takeDeferred hdfW,?_⟩⟩
   refine ⟨_,results_cells rfl _ _ (w.heap.size + 1) (w.heap.size + 1 + 1) _ _ rfl rfl (load_cp hB1) (load_bool hB2),?_⟩
   rw [← (show _ = _ from HQ)]
   rcases (show _ ∨ _ from hres) with ⟨rfl,hv⟩ | ⟨rfl,hv⟩
   ·exact ⟨.inl ⟨c,b,_,_,_,_,hv,rfl,hcz,hPz⟩,hoz⟩
   ·exact ⟨.inr ⟨hv,⟨c.tag,_,_,_,_,_,_,_,_,_,_,_,_,rfl⟩,b,hPz⟩,hoz⟩
 case stop => exact fun _ h _ => h.elim
set_option maxHeartbeats 4000000 in
theorem selector0_any (n₀ R:Nat) (v:Value) (ts:List Bt) (a0:Nat) (d:Nat) (w:World) (hP:Rd n₀ w R v ts a0 (8 - (d:Int))) (hS:OpsAt n₀ w) (hG:Good ts) (hd:d ≤ 8) (hNU:∀ b,begU (at' ts b) = false) :
  Calls Tryz.prog 158 #[.pointer (some ⟨R,0,none⟩)] w (SelOut n₀ R v ts d w (selV (innerV d) (ts.drop a0))):=by
 have hR:=hP.lt
 have hlo:=hP.low
 have hlm:=hP.most
 have hal0:=hP.least
 obtain ⟨V,hV⟩:∃ V,selV (innerV d) (ts.drop a0) = V:=⟨_,rfl⟩
 rw [hV]
 obtain ⟨Q,hQ⟩:∃ Q,SelOut n₀ R v ts d w V = Q:=⟨_,rfl⟩
 rw [hQ]
 refine (callsIn_wide (n:=2)).1 ?_
 refine callsIn_of_wp_marks Tryz.func158 rfl trivial ?_ rfl
 simp only [Tryz.ntmps158,List.size_toArray,List.length_cons,List.length_nil,Nat.reduceAdd,Nat.reduceSub,Array.replicate_succ,Array.replicate_zero,List.push_toArray,List.append_toArray,List.nil_append,List.cons_append]
 obtain ⟨w3,hw3⟩:∃ w3,((w.alloc (.cells #[.pointer (some ⟨R,0,none⟩)] 210)).alloc (.cells #[nilS] 86)).alloc (.cells #[.bool false] 4) = w3:=⟨_,rfl⟩
 have hs3:w3.heap.size = w.heap.size + 1 + 1 + 1:=by rw [← hw3];simp
 have hB3:Below w.heap.size w w3:=by rw [← hw3];exact (((Below.refl _ w).alloc (Nat.le_refl _) _).alloc (by simp) _).alloc (by simp;omega) _
 have kB:Blk w3 w.heap.size 210 [.pointer (some ⟨R,0,none⟩)]:=by
  rw [← hw3]
  exact ((Blk.new w 210 _).kept (World.grownBy_alloc _ _ none) (by simp)).kept (World.grownBy_alloc _ _ none) (by simp)
 have k1:Blk w3 (w.heap.size + 1) 86 [nilS]:=by
  rw [← hw3]
  have:=(Blk.new (w.alloc (.cells #[.pointer (some ⟨R,0,none⟩)] 210)) 86 [nilS]).kept (World.grownBy_alloc _ (.cells #[.bool false] 4) none) (by simp)
  rwa [World.size_alloc] at this
 have k2:Blk w3 (w.heap.size + 1 + 1) 4 [.bool false]:=by
  rw [← hw3]
  have:=Blk.new ((w.alloc (.cells #[.pointer (some ⟨R,0,none⟩)] 210)).alloc (.cells #[nilS] 86)) 4 [.bool false]
  rwa [World.size_alloc,World.size_alloc] at this
 have b5:Below w3.heap.size w3 (w3.alloc (.cells #[nilS] 86)):=(Below.refl _ _).alloc (Nat.le_refl _) _
 have hSU:=SelU.new d w3
 obtain ⟨w5,hw5⟩:∃ w5,w3.alloc (.cells #[nilS] 86) = w5:=⟨_,rfl⟩
 rw [hw5] at b5 hSU
 have hs5:w5.heap.size = w.heap.size + 1 + 1 + 1 + 1:=by rw [← hw5,World.size_alloc,hs3]
 rw [hs3] at hSU
 have hP5:=(hP.below hB3).below b5
 have hbw5:But R w w5:=(Kept.of_below hB3).trans (.of_below b5)
 replace kB:=kB.below b5 kB.lt
 replace k1:=k1.below b5 k1.lt
 replace k2:=k2.below b5 k2.lt
 have cB:=(blk1 kB).1
 gi_wp2_with fail
 refine ⟨trivial,?_⟩
 clear hw3 hw5
 refine (combs_in _ R w5).mono ?_
 rintro e w6 ⟨rfl,hw6⟩
 have b6:Below w5.heap.size w5 w6:=by rw [hw6];exact (Below.refl _ _).alloc (Nat.le_refl _) _
 have kX:Blk w6 w5.heap.size 210 [.pointer (some ⟨R,0,none⟩)]:=by rw [hw6];exact Blk.new w5 _ _
 have hs6:w6.heap.size = w5.heap.size + 1:=by rw [hw6];exact World.size_alloc _ _
 replace kB:=kB.below b6 kB.lt
 replace k1:=k1.below b6 k1.lt
 replace k2:=k2.below b6 k2.lt
 have hSU6:=hSU.below b6
 have hP6:=hP5.below b6
 have hbw6:But R w w6:=hbw5.trans (.of_below b6)
 have hO6:=hS.kept hbw6 hlo hR
 clear hw6 hSU hP5 hbw5 b6 b5 hB3 cB
 rw [hs5] at kX hs6
 gi_wp2_with fail
 have hs6':w6.heap.size = w.heap.size + 5:=by omega
 have hs6g:w.heap.size + 5 ≤ w6.heap.size:=by omega
 clear hs6 hs5 hs3 hs6'
 have HQ:Hid (SelOut n₀ R v ts d w V = Q):=hQ
 clear hQ
 refine wpIn_rangeFunc_Q (σ:=List Pt × Nat) (α:=Int) rfl (by decide) (gf:=236) (lb:=#[.pointer (some ⟨w.heap.size + 1 + 1 + 1 + 1,0,none⟩)]) rfl trivial egCombs (encs:=fun t => #[.int .i64 t]) (fun _ => rfl)
  (fun _ W => W) (fun _ W => Below.refl _ _)
  (fun t _ => { tmps:=#[.pointer (some ⟨R,0,none⟩),.pointer (some ⟨w.heap.size,0,none⟩),.pointer (some ⟨w.heap.size + 1,0,none⟩),.pointer (some ⟨w.heap.size + 1 + 1,0,none⟩),.pointer (some ⟨w.heap.size + 1 + 1 + 1,0,none⟩),.int .i64 t,undef,undef,.pointer (some ⟨R,0,none⟩),.func (.func 236) #[] #[.pointer (some ⟨w.heap.size + 1 + 1 + 1 + 1,0,none⟩)],.int .i64 t,undef,undef,undef,undef,undef,undef,undef,undef,undef,undef,undef,undef,undef,undef,undef,undef,undef],defers:=[] })
  (fun s _ W => s.1.length ≤ s.2 ∧ SelK d n₀ R w (w6.heap.size + 1) s.1 W ∧ Rd n₀ W R v ts s.2 (8 - (d:Int)))
  (fun s x W => ∃ c b,compV (innerV d) (ts.drop s.2) = some (c,ts.drop b) ∧ SelK d n₀ R w (w6.heap.size + 1) (s.1 ++ [(x,c)]) W ∧ Rd n₀ W R v ts b (8 - (d:Int)))
  (fun s _ W => compV (innerV d) (ts.drop s.2) = none ∧ SelX n₀ R v ts d w W)
  (fun W => V = none ∧ SelX n₀ R v ts d w W)
  (fun W => ∃ ps b,V = some (ps,ts.drop b) ∧ SelK d n₀ R w (w6.heap.size + 1) ps W ∧ Rd n₀ W R v ts b (8 - (d:Int)))
  ?hPost ?hStop ?hStopD ?hDone ?assign ?body ?call ?done ?stop
 case hPost =>
  rintro ⟨pre,a⟩ x X r ⟨c,b,h1,h2,h3⟩ hlt
  exact ⟨c,b,h1,h2.turn r hlo hR (by omega),h3.kept (kept_putObj X _ _) (by omega) (fun b hb => by omega)⟩
 case hStop =>
  rintro s x X r ⟨h0,h⟩ hlt
  exact ⟨h0,h.kept (kept_putObj X (w6.heap.size + 1) (.loop r)) hlo hR (fun b hb => by omega)⟩
 case hStopD =>
  rintro X r ⟨h0,h⟩ hlt
  exact ⟨h0,h.kept (kept_putObj X (w6.heap.size + 1) (.loop r)) hlo hR (fun b hb => by omega)⟩
 case hDone =>
  rintro X r ⟨ps,b,h1,h2,h3⟩ hlt
  exact ⟨ps,b,h1,h2.turn r hlo hR (by omega),h3.kept (kept_putObj X _ _) (by omega) (fun b hb => by omega)⟩
 case assign =>
  intro l x X K hK
  gi_wp2
  exact hK
 case body =>
  rintro l' ⟨pre,a⟩ x W0 W ⟨hpl,hK,hPa⟩ hsz ⟨r,rfl⟩ hdf hlp
  have hKW:=hK.turn r hlo hR (show w.heap.size ≤ w6.heap.size + 1 by omega)
  have hPW:=hPa.kept (kept_putObj W0 (w6.heap.size + 1) (.loop r)) (by omega) (fun b hb => by omega)
  have hal:=hPa.least
  obtain ⟨i0,hi,hz0,hz1,hz2⟩:=info_parts infoPt3
  clear hK hPa
  simp only at hpl hKW hPW
  generalize W0.putObj (w6.heap.size + 1) (.loop r) = W at *
  have hcp:=compound0_any n₀ R v ts a d W hPW hKW.ops hG hd hNU
  have cBx:=(blk1 hKW.box).1
  have hszW:w6.heap.size + 1 < W.heap.size:=by obtain ⟨r0,h0⟩:=hlp;exact (Array.getElem?_eq_some_iff.1 h0).1
  have HKW:Hid (SelK d n₀ R w (w6.heap.size + 1) pre W):=hKW
  clear hNU hG hS hP hP6 hbw6 hO6 kB k1 k2 kX hSU6 hV hKW
  generalize hU:compV (innerV d) (ts.drop a) = U at *
  gi_wp2_with fail
  refine ⟨trivial,by first | rfl | exact fun h => (by cases h),?_⟩
  refine (CallsIn.inRound l' (callsIn_wide.2 hcp)).mono ?_
  clear hcp
  rintro e w1 ⟨hcs,hb1⟩
  have hKW:=(show SelK d n₀ R w (w6.heap.size + 1) pre W from HKW)
  obtain ⟨r0,h0⟩:=hlp
  have hlb1:w1.heap[w6.heap.size]? = W.heap[w6.heap.size]? ∧ w1.heap[w6.heap.size + 1]? = W.heap[w6.heap.size + 1]?:=⟨hb1.block _ (by omega) (by omega),hb1.block _ (by omega) (by omega)⟩
  have hK1:SelK d n₀ R w (w6.heap.size + 1) pre w1:=hKW.kept hb1 hlo hR (fun b _ h => h) (fun b hb _ => by omega) ⟨r0,hlb1.2.trans h0⟩
  have hs1:=hb1.size
  clear HKW cBx
  rcases hcs with ⟨c,b,i,k,ea,ep,hv,rfl,hcpt,hPb⟩ | ⟨hv,⟨tg,q1,m1,c1,q2,m2,c2,q3,m3,c3,q4,m4,c4,rfl⟩,b,hPb⟩
  ·obtain ⟨_,_,_,_,heq,f1,f2,f3,f4⟩:=hcpt
   have hcpt:CpT (SelsAt d (fun b => W.heap.size ≤ b) w1) (fun b => W.heap.size ≤ b) w1 [.string c.tag,i,k,ea,ep] c:=⟨_,_,_,_,heq,f1,f2,f3,f4⟩
   simp only [List.cons.injEq,and_true,true_and] at heq
   obtain ⟨rfl,rfl,rfl,rfl⟩:=heq
   obtain ⟨qi,ci,rfl,_⟩:=FinRow.form f1
   obtain ⟨qk,ck,rfl,_⟩:=FinRow.form f2
   obtain ⟨qa,ca,rfl,_⟩:=FinRow.form f3
   obtain ⟨qp,cp,rfl,_⟩:=FinRow.form f4
   clear f1 f2 f3 f4
   obtain ⟨u,huw⟩:=hKW.su
   have hu:SelU d (w.heap.size + 1 + 1 + 1) w1 u pre:=huw.kept hb1 (fun b hb _ => by omega)
   have hSW:w.heap.size + 1 + 1 + 1 < W.heap.size:=by omega
   have huW:∀ g,u.ownBlock = some g → g < W.heap.size:=fun g hg => (huw.row.lt hg).2
   clear huw hKW
   obtain ⟨qu,cu,rfl⟩:=hu.row.form
   have bA:Below w1.heap.size w1 (w1.alloc (.cells #[.string c.tag,.slice qi c.ids.length ci,.slice qk c.classes.length ck,.slice qa c.attrs.length ca,.slice qp c.pss.length cp] 154)):=(Below.refl _ _).alloc (Nat.le_refl _) _
   have kA:Blk (w1.alloc (.cells #[.string c.tag,.slice qi c.ids.length ci,.slice qk c.classes.length ck,.slice qa c.attrs.length ca,.slice qp c.pss.length cp] 154)) w1.heap.size 154 [.string c.tag,.slice qi c.ids.length ci,.slice qk c.classes.length ck,.slice qa c.attrs.length ca,.slice qp c.pss.length cp]:=Blk.new w1 _ _
   have huA:=hu.below bA
   have cSA:=(blk1 huA.blk).1
   obtain ⟨⟨x0,x1,x2,x3,x4⟩,_⟩:=blk5 kA
   obtain ⟨w2,hw2⟩:∃ w2,w1.alloc (.cells #[.string c.tag,.slice qi c.ids.length ci,.slice qk c.classes.length ck,.slice qa c.attrs.length ca,.slice qp c.pss.length cp] 154) = w2:=⟨_,rfl⟩
   rw [hw2] at bA kA huA cSA x0 x1 x2 x3 x4
   have bE:Below w1.heap.size w1 (w2.alloc (.cells #[.int .i64 x,.string c.tag,.slice qi c.ids.length ci,.slice qk c.classes.length ck,.slice qa c.attrs.length ca,.slice qp c.pss.length cp] 156)):=below_next bA ((Below.refl _ _).alloc (Nat.le_refl _) _)
   have huE:=hu.below bE
   obtain ⟨css,r1,r2,r3,r4⟩:=huE.row
   have hcE:=hcpt.fr (Fr.of_below (P':=fun b => W.heap.size ≤ b) bE (fun _ h _ => h)) (fun _ _ h => SelsAt.fr d h (Fr.of_below bE (fun _ h _ => h)))
   have HS4:Hid (∀ w4,(w2.alloc (.cells #[.int .i64 x,.string c.tag,.slice qi c.ids.length ci,.slice qk c.classes.length ck,.slice qa c.attrs.length ca,.slice qp c.pss.length cp] 156)).grownBy w4 (Value.slice qu pre.length cu).ownBlock → Blk w4 (w.heap.size + 1 + 1 + 1) 86 [.slice qu pre.length cu]):=fun w4 hg => huE.blk.kept hg (fun e => huE.row.off huE.blk (by decide) e.symm)
   have H1:∀ u ∈ ([.int .i64 x,.string c.tag,.slice qi c.ids.length ci,.slice qk c.classes.length ck,.slice qa c.attrs.length ca,.slice qp c.pss.length cp]:List Value),u.oneCell' = true:=fun u hu => by simp at hu;rcases hu with rfl | rfl | rfl | rfl | rfl | rfl <;> rfl
   have HV:Hid (U = some (c,ts.drop b)):=hv
   have hSE:w.heap.size + 1 + 1 + 1 ≤ (w2.alloc (.cells #[.int .i64 x,.string c.tag,.slice qi c.ids.length ci,.slice qk c.classes.length ck,.slice qa c.attrs.length ca,.slice qp c.pss.length cp] 156)).heap.size:=by have:=bE.size;omega
   clear hv hU hcpt
   gi_wp2_with (gi_at_builtin;refine wpListIn_append_own_at _ rfl _ _ 84 rfl (w.heap.size + 1 + 1 + 1) 156 i0 (.agg #[.int .i64 0,.string ⟨#[]⟩,.slice none 0 0,.slice none 0 0,.slice none 0 0,.slice none 0 0]) 6 120 Tryz.underlying84 hi hz0 hz1 hz2 rfl (by decide) (.slice qu pre.length cu) _ _ rfl r1 ⟨w2.heap.size,0,none⟩ 1 1 [.int .i64 x,.string c.tag,.slice qi c.ids.length ci,.slice qk c.classes.length ck,.slice qa c.attrs.length ca,.slice qp c.pss.length cp] rfl rfl (cells_plain w2 [.int .i64 x,.string c.tag,.slice qi c.ids.length ci,.slice qk c.classes.length ck,.slice qa c.attrs.length ca,.slice qp c.pss.length cp] _) H1 (by unfold maxLen;omega) (by omega) hSE ?_;intro v' w4 hown4 hgrow4 hnil4 hat4;obtain ⟨q4,c4,rfl⟩:=owns_form hown4;obtain ⟨s0,s1⟩:=blk1 ((show ∀ w4,_ → _ from HS4) w4 hgrow4))
   have hat:∀ g,(Value.slice q4 (pre.length + 1) c4).ownBlock = some g → (Value.slice qu pre.length cu).ownBlock = some g ∨ (w2.alloc (.cells #[.int .i64 x,.string c.tag,.slice qi c.ids.length ci,.slice qk c.classes.length ck,.slice qa c.attrs.length ca,.slice qp c.pss.length cp] 156)).heap.size ≤ g:=fun g hg => hat4.elim (fun h => .inl (by rw [← h];exact hg)) (fun h => .inr (by rw [h] at hg;injection hg with hg;omega))
   have hu5:=huE.push (cb:=x) (q:=c) r2 r3 r4 hcE hSW huW hown4 hgrow4 hat
   have hk5:Kept (fun b => b ≠ w.heap.size + 1 + 1 + 1 ∧ (Value.slice qu pre.length cu).ownBlock ≠ some b) w1 (w4.setCell ⟨w.heap.size + 1 + 1 + 1,0,none⟩ (.slice q4 (pre.length + 1) c4)):=((Kept.of_below bE).trans (Kept.of_grown hgrow4 (fun g e h => h.2 e))).trans (Kept.setCell _ _ _ (fun h => h.1 rfl))
   have hK5:=hK1.step hu hk5 hu5 hlo hR
   have hP5:=hPb.kept hk5 ⟨by omega,fun e => by have:=(hu.row.lt e).1;omega⟩ (fun b hb => ⟨by omega,fun e => by have:=(hu.row.lt e).1;omega⟩)
   have hd5:(w4.setCell ⟨w.heap.size + 1 + 1 + 1,0,none⟩ (.slice q4 (pre.length + 1) c4)).heap[w6.heap.size]? = W.heap[w6.heap.size]?:=(hk5.block _ (by omega) ⟨by omega,owns_apart hu.row.choose_spec.1 (hlb1.1.trans hdf) (fun _ _ e => by cases e)⟩).trans hlb1.1
   have hl5:(w4.setCell ⟨w.heap.size + 1 + 1 + 1,0,none⟩ (.slice q4 (pre.length + 1) c4)).heap[w6.heap.size + 1]? = W.heap[w6.heap.size + 1]?:=(hk5.block _ (by omega) ⟨by omega,owns_apart hu.row.choose_spec.1 (hlb1.2.trans h0) (fun _ _ e => by cases e)⟩).trans hlb1.2
   have hz5:W.heap.size ≤ (w4.setCell ⟨w.heap.size + 1 + 1 + 1,0,none⟩ (.slice q4 (pre.length + 1) c4)).heap.size:=Nat.le_trans hs1 hk5.size
   clear hk5 hu5 hat hat4 hgrow4 hown4 hcE r1 r2 r3 r4 huE bE HS4 H1 hw2
   gi_wp2
   exact ⟨⟨hz5,hd5,hl5⟩,c,b,HV,hK5,hP5⟩
  ·have bA:Below w1.heap.size w1 (w1.alloc (.cells #[.string tg,.slice q1 m1 c1,.slice q2 m2 c2,.slice q3 m3 c3,.slice q4 m4 c4] 154)):=(Below.refl _ _).alloc (Nat.le_refl _) _
   obtain ⟨w2,hw2⟩:∃ w2,w1.alloc (.cells #[.string tg,.slice q1 m1 c1,.slice q2 m2 c2,.slice q3 m3 c3,.slice q4 m4 c4] 154) = w2:=⟨_,rfl⟩
   rw [hw2] at bA
   have hB1:=hK1.r1.below bA hK1.r1.lt
   have hB2:=hK1.r2.below bA hK1.r2.lt
   have hold:=old_kept hK1.old (Kept.of_below (keep:=fun _ => True) bA) (fun _ _ _ => trivial)
   have hP2:=hPb.below bA
   have hd2:w2.heap[w6.heap.size]? = W.heap[w6.heap.size]? ∧ w2.heap[w6.heap.size + 1]? = W.heap[w6.heap.size + 1]?:=⟨(bA.block _ (by omega)).trans hlb1.1,(bA.block _ (by omega)).trans hlb1.2⟩
   have hs2:W.heap.size ≤ w2.heap.size:=Nat.le_trans hs1 bA.size
   obtain ⟨z0,f0⟩:=blk1 hB1
   obtain ⟨y0,g0⟩:=blk1 hB2
   have hB1':=(blk_set1 hB1 nilS).kept (grown_set (w2.setCell ⟨w.heap.size + 1,0,none⟩ nilS) (w.heap.size + 1 + 1) 0 (.bool false)) (by simp)
   have hB2':=blk_set1 (hB2.kept (grown_set w2 (w.heap.size + 1) 0 nilS) (by simp)) (.bool false)
   have hkz:Kept (fun b => b ≠ w.heap.size + 1 ∧ b ≠ w.heap.size + 1 + 1) w2 ((w2.setCell ⟨w.heap.size + 1,0,none⟩ nilS).setCell ⟨w.heap.size + 1 + 1,0,none⟩ (.bool false)):=Kept.trans (Kept.of_grown (grown_set w2 (w.heap.size + 1) 0 nilS) (fun k e h => by cases e;exact h.1 rfl)) (Kept.of_grown (grown_set _ (w.heap.size + 1 + 1) 0 (.bool false)) (fun k e h => by cases e;exact h.2 rfl))
   have hPz:=hP2.kept hkz ⟨by omega,by omega⟩ (fun b hb => ⟨by omega,by omega⟩)
   have hoz:=old_kept hold hkz (fun b hb _ => ⟨by omega,by omega⟩)
   have hfz:W.heap.size ≤ ((w2.setCell ⟨w.heap.size + 1,0,none⟩ nilS).setCell ⟨w.heap.size + 1 + 1,0,none⟩ (.bool false)).heap.size ∧ ((w2.setCell ⟨w.heap.size + 1,0,none⟩ nilS).setCell ⟨w.heap.size + 1 + 1,0,none⟩ (.bool false)).heap[w6.heap.size]? = W.heap[w6.heap.size]? ∧ ((w2.setCell ⟨w.heap.size + 1,0,none⟩ nilS).setCell ⟨w.heap.size + 1 + 1,0,none⟩ (.bool false)).heap[w6.heap.size + 1]? = W.heap[w6.heap.size + 1]?:=⟨Nat.le_trans hs2 hkz.size,(hkz.block _ (by omega) ⟨by omega,by omega⟩).trans hd2.1,(hkz.block _ (by omega) ⟨by omega,by omega⟩).trans hd2.2⟩
   have HV:Hid (U = none):=hv
   clear hv hU hkz hs2 hd2 hold hP2 hB1 hB2 bA hK1 hKW
   gi_wp2
   exact ⟨hfz,HV,hB1',hB2',hoz,b,hPz⟩
 case call =>
  rintro Lp Lx W1 hLp hLx hb1 hsz1 hr1 hlp1 hY
  have hk1:Kept (fun _ => True) w6 W1:=.of_below hb1
  rw [← hV]
  refine (combs1_in 1 (w6.heap.size + 1) R (w.heap.size + 1 + 1 + 1 + 1) n₀ v ts d (fun c X => SelK d n₀ R w (w6.heap.size + 1) c X ∧ Lp X) (fun X => Lx X ∧ SelX n₀ R v ts d w X) W1 a0 (hP6.below hb1) ⟨⟨⟨_,hSU6.below hb1⟩,kB.below hb1 kB.lt,k1.below hb1 k1.lt,k2.below hb1 k2.lt,kX.below hb1 kX.lt,hO6.below (hb1.mono (by omega)),((hbw6.mono (fun b _ hb => hb.1)).trans (hk1.mono (fun _ _ _ => trivial))),hr1⟩,hlp1⟩ ?_ ?_ ?_).mono ?_
  ·exact fun c X h => (blk1 h.1.box2).1
  ·rintro c X Y ⟨h,hx⟩ hk
   obtain ⟨r0,h0⟩:=h.lp
   have hlx:=(Array.getElem?_eq_some_iff.1 h0).1
   refine ⟨h.kept hk hlo hR (fun b _ hne => hne) (fun b hb _ => by omega) ⟨r0,(hk.block _ hlx (by omega)).trans h0⟩,hLp X Y hx (hk.block _ (by omega) (by omega)) (hk.block _ hlx (by omega))⟩
  ·rintro pre cb a X ⟨h,hx⟩ hPa hpl hszX
   refine (hY (pre,a) cb X hx ⟨hpl,h,hPa⟩ (by omega)).mono ?_
   rintro e W' (⟨rfl,hl',c,b,h1,h2,h3⟩ | ⟨rfl,hl',h6,h5⟩)
   ·exact .inl ⟨rfl,⟨c,b,h1,⟨h2,hl'⟩,h3⟩,by obtain ⟨r0,h0⟩:=h2.lp;have:=(Array.getElem?_eq_some_iff.1 h0).1;omega⟩
   ·exact .inr ⟨rfl,h6,hl',h5⟩
  ·rintro e W' ⟨⟨v0,rfl⟩,⟨ps,b,h1,⟨h2,h3⟩,h4⟩ | ⟨h1,h2,h3⟩⟩
   ·exact ⟨⟨_,rfl⟩,.inl ⟨h3,ps,b,h1,h2,h4⟩⟩
   ·exact ⟨⟨_,rfl⟩,.inr ⟨h2,h1,h3⟩⟩
 case done =>
  rintro W ⟨ps,b,hv,hK,hPb⟩ hdf
  obtain ⟨u,hu⟩:=hK.su
  obtain ⟨qu,cu,rfl⟩:=hu.row.form
  have c0:=(blk1 hu.blk).1
  obtain ⟨z0,f0⟩:=blk1 hK.r1
  obtain ⟨y0,g0⟩:=blk1 hK.r2
  have hk0:Kept (fun b => b ≠ w.heap.size + 1 ∧ b ≠ w.heap.size + 1 + 1) W ((W.setCell ⟨w.heap.size + 1,0,none⟩ (.slice qu ps.length cu)).setCell ⟨w.heap.size + 1 + 1,0,none⟩ (.bool true)):=Kept.trans (Kept.of_grown (grown_set W (w.heap.size + 1) 0 (.slice qu ps.length cu)) (fun k e h => by cases e;exact h.1 rfl)) (Kept.of_grown (grown_set _ (w.heap.size + 1 + 1) 0 (.bool true)) (fun k e h => by cases e;exact h.2 rfl))
  have hB1:=(blk_set1 hK.r1 (.slice qu ps.length cu)).kept (grown_set (W.setCell ⟨w.heap.size + 1,0,none⟩ (.slice qu ps.length cu)) (w.heap.size + 1 + 1) 0 (.bool true)) (by simp)
  have hB2:=blk_set1 (hK.r2.kept (grown_set W (w.heap.size + 1) 0 (.slice qu ps.length cu)) (by simp)) (.bool true)
  obtain ⟨Z,hZ⟩:∃ Z,(W.setCell ⟨w.heap.size + 1,0,none⟩ (.slice qu ps.length cu)).setCell ⟨w.heap.size + 1 + 1,0,none⟩ (.bool true) = Z:=⟨_,rfl⟩
  rw [hZ] at hk0 hB1 hB2
  have hll:w6.heap.size < W.heap.size:=(Array.getElem?_eq_some_iff.1 hdf).1
  have hdz:Z.heap[w6.heap.size]? = some (.deferred (some [])):=(hk0.block _ hll ⟨by omega,by omega⟩).trans hdf
  have hkp:=kept_putObj Z w6.heap.size (.deferred none)
  have hall:Kept (fun b => b ≠ w.heap.size + 1 ∧ b ≠ w.heap.size + 1 + 1 ∧ b ≠ w6.heap.size) W (Z.putObj w6.heap.size (.deferred none)):=(hk0.mono (fun b _ h => ⟨h.1,h.2.1⟩)).trans (hkp.mono (fun b _ h => h.2.2))
  have fr:Fr (fun b => w.heap.size + 1 + 1 + 1 ≤ b) (fun b => w.heap.size ≤ b) W (Z.putObj w6.heap.size (.deferred none)):=Fr.of_kept hall (fun b hb hcl => ⟨⟨by omega,by omega,fun e => by obtain ⟨cs,t,f,h,_⟩:=hcl;rw [e,hdf] at h;cases h⟩,by omega⟩)
  have hfin:=PtsF.fr hu.done fr (fun _ _ h => SelsAt.fr d h fr)
  have hPz:=hPb.kept hall ⟨by omega,by omega,by omega⟩ (fun b hb => ⟨by omega,by omega,by omega⟩)
  have hoz:But R w (Z.putObj w6.heap.size (.deferred none)):=(old_kept hK.old hall (fun b hb _ => ⟨by omega,by omega,by omega⟩)).mono (fun b hb h => ⟨h,hb⟩)
  replace hB1:=hkp.blk hB1 (by omega)
  replace hB2:=hkp.blk hB2 (by omega)
  have HV:Hid (V = some (ps,ts.drop b)):=hv
  clear hv hV hNU hG hS hP hP6 hbw6 hO6 kB k1 k2 kX hSU6 hall hkp hk0 fr hK hu hPb
  gi_wp2
  refine ⟨by simp,.inl ⟨_,_,rfl,run_takeDeferred hdz,?_⟩⟩
  refine ⟨_,results_cells rfl _ _ (w.heap.size + 1) (w.heap.size + 1 + 1) _ _ rfl rfl (load_sl hB1) (load_bool hB2),?_⟩
  rw [← (show _ = _ from HQ)]
  exact ⟨.inl ⟨ps,b,_,HV,rfl,hfin,hPz⟩,hoz⟩
 case stop =>
  rintro W ⟨hv,hX⟩ hdf
  have hkp:=kept_putObj W w6.heap.size (.deferred none)
  have hP3:∃ b,Rd n₀ (W.putObj w6.heap.size (.deferred none)) R v ts b (8 - (d:Int)):=hX.rd.elim fun b hb => ⟨b,hb.kept hkp (by omega) (fun c hc => by omega)⟩
  have hB1:=hkp.blk hX.r1 (by omega)
  have hB2:=hkp.blk hX.r2 (by omega)
  have hoz:But R w (W.putObj w6.heap.size (.deferred none)):=(old_kept hX.old hkp (fun b hb _ => by omega)).mono (fun b hb h => ⟨h,hb⟩)
  have HV:Hid (V = none):=hv
  clear hv hV hNU hG hS hP hP6 hbw6 hO6 kB k1 k2 kX hSU6 hkp hX
  gi_wp2
  refine ⟨by simp,.inl ⟨_,_,rfl,run_takeDeferred hdf,?_⟩⟩
  refine ⟨_,results_cells rfl _ _ (w.heap.size + 1) (w.heap.size + 1 + 1) _ _ rfl rfl (load_sl hB1) (load_bool hB2),?_⟩
  rw [← (show _ = _ from HQ)]
  exact ⟨.inr ⟨HV,rfl,hP3⟩,hoz⟩
set_option maxHeartbeats 4000000 in
theorem list0_any (n₀ d:Nat) (hd:d ≤ 8) (R:Nat) (v:Value) (ts:List Bt) (a0:Nat) (w:World) (hP:Rd n₀ w R v ts a0 (8 - (d:Int))) (hS:OpsAt n₀ w) (hG:Good ts) (hNU:∀ b,begU (at' ts b) = false) :
  Calls Tryz.prog 115 #[.pointer (some ⟨R,0,none⟩)] w fun e w' => ((∃ l b x,listV d (ts.drop a0) = some (l,ts.drop b) ∧ e = .returned (.tuple #[x,.bool true]) ∧ SelsAt (d + 1) (fun b => w.heap.size ≤ b) w' x l ∧ Rd n₀ w' R v ts b (8 - (d:Int))) ∨ (listV d (ts.drop a0) = none ∧ e = .returned (.tuple #[.slice none 0 0,.bool false]) ∧ ∃ b,Rd n₀ w' R v ts b (8 - (d:Int)))) ∧ But R w w':=by
 have hR:=hP.lt
 have hlo:=hP.low
 have hlm:=hP.most
 obtain ⟨i0,hi,hz0,hz1,hz2⟩:=info_parts infoSl3
 obtain ⟨V,hV⟩:∃ V,listV d (ts.drop a0) = V:=⟨_,rfl⟩
 rw [hV]
 rw [listV_eq] at hV
 have HS:Hid (∀ X a,But R w X → Rd n₀ X R v ts a (8 - (d:Int)) → Calls Tryz.prog 158 #[.pointer (some ⟨R,0,none⟩)] X (SelOut n₀ R v ts d X (selV (innerV d) (ts.drop a)))):=fun X a hX hr => selector0_any n₀ R v ts a d X hr (hS.kept hX hlo hR) hG hd hNU
 clear hNU
 go_enter Tryz.func115,Tryz.ntmps115
 go_wp2
 go_loopw [4,5] (fun x y wr => (∃ (a f:Nat) (pre:List Sel) (out:Value),x = out ∧ y = .bool true ∧ (ts.drop a).length < f ∧ Hid (listF (innerV d) f pre (ts.drop a) = V) ∧ UndRow 86 1 (SlTd d) w.heap.size (OffL w.heap.size out) wr out pre ∧ pre.length ≤ a ∧ Rd n₀ wr R v ts a (8 - (d:Int)) ∧ But R w wr) ∨ (∃ (l:List Sel) (b:Nat) (out:Value),x = out ∧ y = .bool false ∧ Hid (V = some (l,ts.drop b)) ∧ UndRow 86 1 (SlTd d) w.heap.size (OffL w.heap.size out) wr out l ∧ Rd n₀ wr R v ts b (8 - (d:Int)) ∧ But R w wr)) (fun _ y wr => match y with | .bool true => ts.length + 1 - placeOf wr R | _ => 0)
 case atStart => exact .inl ⟨a0,_,[],_,rfl,rfl,Nat.lt_succ_self _,hV,UndRow.nil _ _ _ _ _ _,Nat.zero_le _,hP,Kept.refl _ _⟩
 case round =>
  clear hP hV hS
  rcases hrel with ⟨a,f,pre,out,rfl,rfl,hf,HV,hU,hpl,hPa,hbw⟩ | ⟨l,b,out,rfl,rfl,HV,hU,hPb,hbw⟩
  ·have hal:=hPa.least
   have hsw:=hbw.size
   have h1:=(show ∀ X a,_ → _ → _ from HS) wr a hbw hPa
   generalize hSV:selV (innerV d) (ts.drop a) = SV at *
   obtain ⟨qo,co,rfl⟩:=hU.form
   go_wp2_with fail
   refine h1.mono ?_
   clear h1
   rintro e w1 ⟨hcs,hb1⟩
   have hb1w:=hbw.trans hb1
   have hs1:=hb1.size
   have hR1:=hPa.lt
   rcases hcs with ⟨s,b,x,rfl,rfl,hx,hP1⟩ | ⟨rfl,rfl,b,hP1⟩
   ·have hlt:=selV_lt hSV
    have hlb:=hP1.least
    simp only [List.length_drop] at hlt
    obtain ⟨qx,cx,rfl,_⟩:=FinRow.form hx
    have hfr1:Fr (OffL w.heap.size (.slice qo pre.length co)) (OffL w.heap.size (.slice qo pre.length co)) wr w1:=Fr.of_kept hb1 (fun b hb _ => ⟨by have:=hb.1;omega,hb⟩)
    have hU1:=hU.kept (slT_stays d) hfr1 (fun g hg => hb1.block g (hU.lt hg).2 (by have:=(hU.lt hg).1;omega))
    have hg1:∀ g,(Value.slice qo pre.length co).ownBlock = some g → g < wr.heap.size:=fun g hg => (hU.lt hg).2
    have b2:Below w1.heap.size w1 (w1.alloc (.cells #[.slice qx s.length cx] 86)):=(Below.refl _ _).alloc (Nat.le_refl _) _
    have k2:Blk (w1.alloc (.cells #[.slice qx s.length cx] 86)) w1.heap.size 86 [.slice qx s.length cx]:=Blk.new w1 _ _
    go_upto_region 8 with fail
    generalize w1.alloc (.cells #[.slice qx s.length cx] 86) = w2 at *
    have c2:=(blk1 k2).1
    have b3:Below w2.heap.size w2 (w2.alloc (.cells #[.slice qx s.length cx] 86)):=(Below.refl _ _).alloc (Nat.le_refl _) _
    have b13:=below_next b2 b3
    have hU3:=hU1.kept (slT_stays d) (Fr.of_below (P':=OffL w.heap.size (.slice qo pre.length co)) b13 (fun _ h _ => h)) (fun g hg => b13.block g (by have:=hg1 g hg;omega))
    obtain ⟨css,r1,r2,r3,r4⟩:=hU3
    have hs3:w1.heap.size ≤ (w2.alloc (.cells #[.slice qx s.length cx] 86)).heap.size:=b13.size
    go_wp2_with (at_builtin;refine wpList_append_own_at _ rfl _ _ 54 rfl w.heap.size 86 i0 (.agg #[.slice none 0 0]) 1 24 Tryz.underlying54 hi hz0 hz1 hz2 rfl (by decide) (.slice qo pre.length co) _ _ rfl r1 ⟨w2.heap.size,0,none⟩ 1 1 [.slice qx s.length cx] rfl rfl (cells_plain w2 [.slice qx s.length cx] _) (fun u hu => by simp at hu;subst hu;rfl) (by unfold maxLen;omega) (by omega) (by omega) ?_;intro v' w4 hown4 hgrow4 hnil4 hat4;obtain ⟨q4,c4,rfl⟩:=owns_form hown4)
    have hat:∀ g,(Value.slice q4 (pre.length + 1) c4).ownBlock = some g → (Value.slice qo pre.length co).ownBlock = some g ∨ (w2.alloc (.cells #[.slice qx s.length cx] 86)).heap.size ≤ g:=fun g hg => hat4.elim (fun h => .inl (by rw [← h];exact hg)) (fun h => .inr (by rw [h] at hg;injection hg with hg;omega))
    have hsz4:=hgrow4.size
    have f1:Fr (OffL w.heap.size (.slice qo pre.length co)) (OffL w.heap.size (.slice q4 (pre.length + 1) c4)) (w2.alloc (.cells #[.slice qx s.length cx] 86)) w4:=⟨hsz4,fun g hg hl => ⟨hgrow4.block g hl.lt (fun e => hg.2 e.symm),hg.1,fun e => (hat g e).elim hg.2 (fun h => by have:=hl.lt;omega)⟩⟩
    have f2:Fr (fun b => wr.heap.size ≤ b) (OffL w.heap.size (.slice q4 (pre.length + 1) c4)) (w2.alloc (.cells #[.slice qx s.length cx] 86)) w4:=⟨hsz4,fun g hg hl => ⟨hgrow4.block g hl.lt (fun e => by have:=hg1 g e.symm;omega),by omega,fun e => (hat g e).elim (fun e => by have:=hg1 g e;omega) (fun h => by have:=hl.lt;omega)⟩⟩
    have f0:Fr (fun b => wr.heap.size ≤ b) (fun b => wr.heap.size ≤ b) w1 (w2.alloc (.cells #[.slice qx s.length cx] 86)):=Fr.of_below b13 (fun _ h _ => h)
    have hxE:=PtsF.fr (PtsF.fr hx f0 (fun _ _ h => SelsAt.fr d h f0)) f2 (fun _ _ h => SelsAt.fr d h f2)
    have hU4:UndRow 86 1 (SlTd d) w.heap.size (OffL w.heap.size (.slice q4 (pre.length + 1) c4)) w4 (.slice q4 (pre.length + 1) c4) (pre ++ [s]):=und_push (slT_stays d) r2 r3 r4 rfl ⟨_,rfl,hxE⟩ f1 hown4
    have hk4:But R w w4:=(hb1w.trans (.of_below b13)).grown hgrow4 (fun g e => .inl (by have:=owns_lt r1 e;omega))
    have hP4:=(hP1.below b13).kept (keep:=fun b => b ≤ R) (Kept.of_grown hgrow4 (fun g e h => by have:=(owns_lt r1 e).1;omega)) (Nat.le_refl _) (fun b hb => by omega)
    clear hU1 r1 r2 r3 r4 hown4 hgrow4 hat hat4 hnil4 hx hxE f0 f1 f2 hfr1 hg1 c2 k2 b2 b3 b13 hs3 hP1 hb1 hU
    have h5:=passes_any n₀ R v ts b (8 - (d:Int)) 13 w4 hP4 (by decide)
    by_cases h13:(at' ts b).kind = 13
    ·obtain ⟨g,hg,hv⟩:=list_more (pre:=pre) hf hSV h13
     have hbl:b < ts.length:=at_lt (by rw [h13];decide)
     rw [decide_eq_true h13,if_pos h13] at h5
     rw [show _ = V from HV] at hv
     have HV':Hid (listF (innerV d) g (pre ++ [s]) (ts.drop (b + 1)) = V):=hv.symm
     clear HV hv hSV h13
     go_wp2_with fail
     refine h5.mono ?_
     clear h5
     rintro e w5 ⟨rfl,hP5,hb5⟩
     have hU5:=hU4.kept (slT_stays d) (Fr.of_kept (P':=OffL w.heap.size (.slice q4 (pre.length + 1) c4)) hb5 (fun g hg _ => ⟨by have:=hg.1;omega,hg⟩)) (fun g hg => hb5.block g (hU4.lt hg).2 (by have:=(hU4.lt hg).1;omega))
     have hpl5:(pre ++ [s]).length ≤ b + 1:=by rw [List.length_append];simp;omega
     go_wp2
     refine ⟨.inl ⟨b + 1,g,pre ++ [s],_,rfl,rfl,hg,HV',hU5,hpl5,hP5,hk4.trans hb5⟩,?_⟩
     show ts.length + 1 - placeOf _ R < ts.length + 1 - placeOf _ R
     rw [hP5.place,hPa.place]
     omega
    ·have hv:=list_end (pre:=pre) hf hSV h13
     rw [decide_eq_false h13,if_neg h13] at h5
     rw [show _ = V from HV] at hv
     have HV':Hid (V = some (pre ++ [s],ts.drop b)):=hv
     clear HV hv hSV h13
     go_wp2_with fail
     refine h5.mono ?_
     clear h5
     rintro e w5 ⟨rfl,hP5,hb5⟩
     have hU5:=hU4.kept (slT_stays d) (Fr.of_kept (P':=OffL w.heap.size (.slice q4 (pre.length + 1) c4)) hb5 (fun g hg _ => ⟨by have:=hg.1;omega,hg⟩)) (fun g hg => hb5.block g (hU4.lt hg).2 (by have:=(hU4.lt hg).1;omega))
     go_wp2
     refine ⟨.inr ⟨pre ++ [s],b,_,rfl,rfl,HV',hU5,hP5,hk4.trans hb5⟩,?_⟩
     show 0 < ts.length + 1 - placeOf _ R
     rw [hPa.place]
     omega
   ·have hv:=list_none (f:=f) (pre:=pre) hSV
    rw [show _ = V from HV] at hv
    clear HV HS hSV hU
    have b2:Below w1.heap.size w1 (w1.alloc (.cells #[nilS] 86)):=(Below.refl _ _).alloc (Nat.le_refl _) _
    have HV':Hid (V = none):=hv
    clear hv
    go_wp2
    go_ret2
    exact ⟨.inr ⟨HV',rfl,b,hP1.below b2⟩,hb1w.trans (.of_below b2)⟩
  ·clear HS
   have hfin0:=UndRow.done (P':=fun b => w.heap.size ≤ b) hU (by decide) (slT_stays d) (fun _ h => h.1) (fun g hg => (hU.lt hg).1)
   have hfin:SelsAt (d + 1) (fun b => w.heap.size ≤ b) wr _ l:=hfin0
   go_wp2
   go_ret2
   exact ⟨.inl ⟨l,b,_,HV,rfl,hfin,hPb⟩,hbw⟩
theorem parse0_any (v:Value) (ts:List Bt) (w:World) (hv:BtsAt w.heap.size w v ts) (hS:OpsAt w.heap.size w) (hG:Good ts) (hNU:∀ b,begU (at' ts b) = false) :
  Calls Tryz.prog 68 #[v] w fun e w' => ((∃ l x,parseV ts = some l ∧ e = .returned (.tuple #[x,.bool true]) ∧ SelsAt 9 (fun b => w.heap.size ≤ b) w' x l) ∨ (parseV ts = none ∧ e = .returned (.tuple #[nilS,.bool false]))) ∧ Below w.heap.size w w':=by
 have hsh:=hv.short
 obtain ⟨q,cap,rfl⟩:=hv.len
 obtain ⟨V,hV⟩:∃ V,parseV ts = V:=⟨_,rfl⟩
 rw [hV]
 by_cases hlong:1000 < ts.length
 ·rw [parse_long hlong] at hV
  subst hV
  have hli:(1000:Int) < (ts.length:Int):=by omega
  go_enter Tryz.func68,Tryz.ntmps68
  go_wp2
  go_ret2
  first
  | exact ⟨.inr ⟨rfl,rfl⟩,Below.refl _ _⟩
  | exact ⟨.inr ⟨trivial,rfl⟩,Below.refl _ _⟩
 ·rw [parse_short hlong] at hV
  have hli:¬ (1000:Int) < (ts.length:Int):=by omega
  have b0:Below w.heap.size w (w.alloc (.cells #[.slice q ts.length cap,.int .i64 0,.int .i64 0] 185)):=(Below.refl _ _).alloc (Nat.le_refl _) _
  have hP0:Rd w.heap.size (w.alloc (.cells #[.slice q ts.length cap,.int .i64 0,.int .i64 0] 185)) w.heap.size (.slice q ts.length cap) ts 0 (8 - ((8:Nat):Int)):=⟨Blk.new w 185 _,hv.below b0,Nat.le_refl _,Nat.zero_le _,by omega⟩
  have hO0:OpsAt w.heap.size _:=hS.below b0
  have h1:=list0_any w.heap.size 8 (Nat.le_refl _) w.heap.size (.slice q ts.length cap) ts 0 _ hP0 hO0 hG hNU
  rw [List.drop_zero] at h1
  have hs0:w.heap.size ≤ (w.alloc (.cells #[.slice q ts.length cap,.int .i64 0,.int .i64 0] 185)).heap.size:=by rw [World.size_alloc];omega
  clear hP0 hO0 hNU
  go_enter Tryz.func68,Tryz.ntmps68
  go_upto_region 4 with fail
  generalize w.alloc (.cells #[.slice q ts.length cap,.int .i64 0,.int .i64 0] 185) = W at *
  go_wp2_with fail
  refine h1.mono ?_
  clear h1
  rintro e w1 ⟨hcs,hb1⟩
  have hbw:Below w.heap.size w w1:=((Kept.of_below (keep:=fun b => b ≠ w.heap.size) b0).trans hb1).below (Nat.le_refl _) (fun b hb => by omega)
  rcases hcs with ⟨l,b,x,hlv,rfl,hx,hP1⟩ | ⟨hlv,rfl,b,hP1⟩
  ·rw [hlv] at hV
   have hlb:=hP1.least
   obtain ⟨px,cx,rfl⟩:=hx.form
   obtain ⟨⟨p0,p1,p2⟩,_⟩:=blk3 hP1.blk
   have hxx:=SelsAt.fr 9 hx (⟨Nat.le_refl _,fun b hb _ => ⟨rfl,by omega⟩⟩:Fr (fun b => W.heap.size ≤ b) (fun b => w.heap.size ≤ b) w1 w1)
   clear hlv hx
   by_cases hlt:b < ts.length
   ·have hbi:(b:Int) < (ts.length:Int):=by omega
    rw [at_cons hlt] at hV
    have HV:Hid (V = none):=hV.symm
    clear hV
    go_wp2
    go_ret2
    exact ⟨.inr ⟨HV,rfl⟩,hbw⟩
   ·have hbi:¬ (b:Int) < (ts.length:Int):=by omega
    rw [List.drop_eq_nil_of_le (by omega)] at hV
    have HV:Hid (V = some l):=hV.symm
    clear hV
    go_wp2
    go_ret2
    exact ⟨.inl ⟨l,_,HV,rfl,hxx⟩,hbw⟩
  ·rw [hlv] at hV
   have HV:Hid (V = none):=hV.symm
   clear hV hlv
   go_wp2
   go_ret2
   exact ⟨.inr ⟨HV,rfl⟩,hbw⟩
end Go.Proofs.YtagbjmocjaaioaaGreatDoor.Sl
