/- A law of the walk, beside Seq's: a range over a function whose body may return early. -/
import Derived.Test.YtcmmdojlhfmddaaGreatSeq
namespace Go.Proofs.YtcmmdojlhfmddaaGreat
open Go Go.RowKit
def SeqZ {α:Type} (F:Fence) (n:Nat) (P:Program) (g:Nat) (lb:Array Value) (encs:α → Array Value) (n₀:Nat) (S Sp:List α → Prop) (Ok:List α → α → Prop) (k:Nat) (w:World):Prop:=
 ∀ (l:Nat) (J Jx:List α → World → Prop) (W:World),Below w.heap.size w W → AbidesIn W.heap.size (W.heap.size + k) J → AbidesIn W.heap.size (W.heap.size + k) Jx →
  (∀ pre x W1,J pre W1 → Ok pre x → W.heap.size + k ≤ W1.heap.size → YieldAt F (n - 1) P l (encs x) W1 fun e W' =>
   (e = .returned (.bool true) ∧ J (pre ++ [x]) W' ∧ KeepsIn n₀ W.heap.size (W.heap.size + k) W1 W') ∨ (e = .returned (.bool false) ∧ Jx (pre ++ [x]) W')) →
  J [] W →
  CallsIn F n P g (#[.func (.yield l) #[] #[]] ++ lb) W fun e W' => (∃ v,e = .returned v) ∧ ((∃ xs,S xs ∧ J xs W') ∨ (∃ pre,Sp pre ∧ Jx pre W'))
def postZ {α:Type} (n₀ lo hi:Nat) (I Ix:List α → World → Prop) (xs:List α) (W:World):Exit → Act → World → Prop
 | .normal,_,W' => KeepsIn n₀ lo hi W W' ∧ I xs W'
 | .ret,_,W' => KeepsIn 0 lo hi W W' ∧ Ix xs W'
 | _,_,_ => False
variable {F:Fence} {n:Nat} {P:Program}
theorem wpIn_rangeFunc_Z {α:Type} {g:Operand} {ps:Array Tmp} {assign body:Code} {Q:Exit → Act → World → Prop} {a:Act} {w:World}
  (hro:F.round = none) (h1:1 ≤ n) {gf:Nat} {lb:Array Value} (hg:a.eval g = .func (.func gf) #[] lb) (hFg:F.fn gf) (eg:∀ args w,(callFunc gf args).run P w = .ok (.enter gf args) w)
  {encs:α → Array Value} {n₀:Nat} {S Sp:List α → Prop} {Ok:List α → α → Prop} {k:Nat} {w0:World} (hseq:SeqZ F (n - 1) P gf lb encs n₀ S Sp Ok k w0) (hn₀:n₀ ≤ w.heap.size) (hb0:Below w0.heap.size w0 w) (hps:∀ x,(encs x).size = ps.size)
  (I Ix:List α → World → Prop) (hI:AbidesIn w.heap.size (w.heap.size + 2 + k) I) (hIx:AbidesIn w.heap.size (w.heap.size + 2 + k) Ix) (h0:I [] w) (a₁:α → Act)
  (hassign:∀ (l:Nat) (x:α) (W:World) (K:Act → World → Prop),K (a₁ x) W →
   assign.wpIn (F.inRound l) (n - 1 - 1) P (Exit.then K (fun _ _ _ => False)) { tmps:=(ps.zip (encs x)).foldl (fun t (p,v) => t.setIfInBounds p v) a.tmps,defers:=[] } W)
  (hbody:∀ (l:Nat) (pre:List α) (x:α) (W:World),I pre W → Ok pre x → w.heap.size + 2 + k ≤ W.heap.size → body.wpIn (F.inRound l) (n - 1 - 1) P (postZ n₀ w.heap.size (w.heap.size + 2 + k) I Ix (pre ++ [x]) W) (a₁ x) W)
  (hdone:∀ (xs:List α) (W:World),S xs → I xs W → W.heap[w.heap.size]? = some (.deferred (some [])) → Q .normal { a with defers:={ target:=.collected w.heap.size,args:=#[] } :: a.defers } W)
  (hstop:∀ (pre:List α) (W:World),Sp pre → Ix pre W → W.heap[w.heap.size]? = some (.deferred (some [])) → Code.ret.wpIn F n P Q { a with defers:={ target:=.collected w.heap.size,args:=#[] } :: a.defers } W) :
  (Code.rangeFunc g ps assign body).wpIn F n P Q a w:=by
 refine wpIn_rangeFunc ?_
 intro fn hfn
 rw [hro]
 obtain ⟨rec,hrec⟩:∃ rec:LoopState → Option Code → Loop,rec = fun st pe => { state:=st,pending:=pe,fn,tmps:=a.tmps,params:=ps,assign,body,defers:=w.heap.size }:=⟨_,rfl⟩
 obtain ⟨W1,hW1⟩:∃ W1,(w.alloc (.deferred (some []))).alloc (.loop (rec .ready none)) = W1:=⟨_,rfl⟩
 have hL1:W1.heap[w.heap.size + 1]? = some (.loop (rec .ready none)):=by
  rw [← hW1];have:=World.alloc_heap_new (w.alloc (.deferred (some []))) (.loop (rec .ready none));rwa [World.size_alloc] at this
 have hK1:W1.heap[w.heap.size]? = some (.deferred (some [])):=by
  rw [← hW1];exact (Below.heap_alloc _ _ _ (by simp)).trans (World.alloc_heap_new w _)
 have hI1:I [] W1:=by rw [← hW1];exact hI.alloc _ (hI.alloc _ h0)
 have hs1:W1.heap.size = w.heap.size + 2:=by rw [← hW1];simp
 have hb1:Below w0.heap.size w0 W1:=by
  rw [← hW1];exact hb0.trans ((((Below.refl _ w).alloc (Nat.le_refl _) _).alloc (by simp) _).mono hb0.size)
 refine ⟨w.heap.size + 1,[{ target:=.collected w.heap.size,args:=#[] }],W1,{ target:=.fn (.func gf) lb,args:=#[.func (.yield (w.heap.size + 1)) #[] #[]] },W1,gf,
  #[.func (.yield (w.heap.size + 1)) #[] #[]] ++ lb,W1,?_,?_,?_,?_,fun _ => h1,?_⟩
 ·rw [← hW1,hrec];exact run_enterLoop_outer _ _ _ _ _
 ·simp only [resolve,hg]
  simp [go_sem]
 ·intro f' hf';simp [Target.leads] at hf';subst hf';exact hFg
 ·simp [invoke,go_sem,eg]
 ·refine (hseq (w.heap.size + 1)
   (fun pre W => I pre W ∧ W.heap[w.heap.size + 1]? = some (.loop (rec .ready none)) ∧ W.heap[w.heap.size]? = some (.deferred (some [])))
   (fun pre W => Ix pre W ∧ W.heap[w.heap.size + 1]? = some (.loop (rec .done (some .ret))) ∧ W.heap[w.heap.size]? = some (.deferred (some [])))
   W1 hb1 ?_ ?_ ?_ ⟨hI1,hL1,hK1⟩).mono ?_
  ·intro s X Y row hs hg' hr
   rw [hs1] at hr
   refine ⟨hI s X Y row hs.1 hg' (fun r e => by have:=hr r e;omega),?_,?_⟩
   ·exact (hg'.block _ (Array.getElem?_eq_some_iff.1 hs.2.1).1 (fun e => by have:=hr _ e.symm;omega)).trans hs.2.1
   ·exact (hg'.block _ (Array.getElem?_eq_some_iff.1 hs.2.2).1 (fun e => by have:=hr _ e.symm;omega)).trans hs.2.2
  ·intro s X Y row hs hg' hr
   rw [hs1] at hr
   refine ⟨hIx s X Y row hs.1 hg' (fun r e => by have:=hr r e;omega),?_,?_⟩
   ·exact (hg'.block _ (Array.getElem?_eq_some_iff.1 hs.2.1).1 (fun e => by have:=hr _ e.symm;omega)).trans hs.2.1
   ·exact (hg'.block _ (Array.getElem?_eq_some_iff.1 hs.2.2).1 (fun e => by have:=hr _ e.symm;omega)).trans hs.2.2
  ·rintro pre x W ⟨hi,hl,hk⟩ hlen hsz
   rw [hs1] at hsz
   have hlt:w.heap.size + 1 < W.heap.size:=(Array.getElem?_eq_some_iff.1 hl).1
   have hy:=run_yield (P:=P) (args:=encs x) hl (by rw [hrec];exact hps x)
   rw [hrec] at hy
   refine ⟨fn,_,assign,body,hy,roundIn_of_wpIn hfn (hassign _ x W _ ⟨_,run_beginRound hl (by rw [hrec]),?_⟩)⟩
   have hl2:(W.putObj (w.heap.size + 1) (.loop { rec .ready none with state:=.busy })).heap[w.heap.size + 1]? = some (.loop { rec .ready none with state:=.busy }):=World.putObj_heap_same hlt
   have hk2:(W.putObj (w.heap.size + 1) (.loop { rec .ready none with state:=.busy })).heap[w.heap.size]? = some (.deferred (some [])):=(World.putObj_heap_other (by omega)).trans hk
   have hs2:(W.putObj (w.heap.size + 1) (.loop { rec .ready none with state:=.busy })).heap.size = W.heap.size:=by simp
   have hw2:KeepsIn n₀ (w.heap.size + 2) (w.heap.size + 2 + k) W (W.putObj (w.heap.size + 1) (.loop { rec .ready none with state:=.busy })):=
    KeepsIn.putObj _ (by omega) (by omega) (by omega) (by omega)
   refine wpIn_mono (hbody _ pre x _ (hI.putObj _ hi (by omega) (by omega)) hlen (by rw [hs2];exact hsz)) ?_
   rintro e a3 W3 hp
   cases e with
   | normal =>
    obtain ⟨hk3,hi3⟩:=hp
    have hl3:=(hk3.own (w.heap.size + 1) (by omega) (by omega)).trans hl2
    have hd3:=(hk3.own w.heap.size (by omega) (by omega)).trans hk2
    have hs3:=hk3.below.size
    rw [hs2] at hs3
    have hr:=run_endRound (P:=P) none hl3
    rw [hrec] at hr
    refine ⟨_,_,hr,.inl ⟨rfl,⟨hI.putObj _ hi3 (by omega) (by omega),?_,(World.putObj_heap_other (by omega)).trans hd3⟩,?_⟩⟩
    ·rw [hrec];exact World.putObj_heap_same (Array.getElem?_eq_some_iff.1 hl3).1
    ·rw [hs1]
     exact (hw2.trans (hk3.mono (Nat.le_refl _) (by omega) (Nat.le_refl _))).trans (KeepsIn.putObj _ (by omega) (by omega) (by omega) (by omega))
   | ret =>
    obtain ⟨hk3,hi3⟩:=hp
    have hl3:=(hk3.own (w.heap.size + 1) (by omega) (by omega)).trans hl2
    have hd3:=(hk3.own w.heap.size (by omega) (by omega)).trans hk2
    have hs3:=hk3.below.size
    rw [hs2] at hs3
    have hr:=run_endRound (P:=P) (some .ret) hl3
    rw [hrec] at hr
    refine ⟨_,_,hr,.inr ⟨rfl,hIx.putObj _ hi3 (by omega) (by omega),?_,(World.putObj_heap_other (by omega)).trans hd3⟩⟩
    rw [hrec];exact World.putObj_heap_same (Array.getElem?_eq_some_iff.1 hl3).1
   | exit id => exact hp.elim
   | goto t => exact hp.elim
   | panic ch => exact hp.elim
   | outgrown => exact hp.elim
  ·rintro e W2 ⟨⟨v,rfl⟩,⟨xs,hS,hi,hl,hk⟩ | ⟨xs,hS,hi,hl,hk⟩⟩
   rotate_left
   ·exact ⟨some .ret,_,by have:=run_endLoop (P:=P) hl (by rw [hrec];simp);rw [hrec] at this;exact this,hstop xs _ hS (hIx.putObj _ hi (by omega) (by omega)) ((World.putObj_heap_other (by omega)).trans hk)⟩
   exact ⟨none,_,by have:=run_endLoop (P:=P) hl (by rw [hrec];simp);rw [hrec] at this;exact this,hdone xs _ hS (hI.putObj _ hi (by omega) (by omega)) ((World.putObj_heap_other (by omega)).trans hk)⟩
end Go.Proofs.YtcmmdojlhfmddaaGreat
