/- A law of the walk: a range over a function, told by footprints: D names the blocks that the caller's rounds may change; whatever else lies stays, and the iterator's own blocks are none of D's. Iterators may range over iterators. -/
import Derived.RangeFuncNested
import Derived.RangeFuncBound
import Derived.RangeFuncCalls
import Derived.RangeFuncLeaves
namespace Go.Proofs.YtcmmdojlhfmddaaGreat
open Go Go.RowKit
structure Fr (D D':Nat → Prop) (X Y:World):Prop where
 os:Y.os = X.os
 tape:Y.tape = X.tape
 output:Y.output = X.output
 size:X.heap.size ≤ Y.heap.size
 block:∀ r,r < X.heap.size → ¬ D r → Y.heap[r]? = X.heap[r]?
 grow:∀ r,D' r → D r ∨ X.heap.size ≤ r
 lt:∀ r,D' r → r < Y.heap.size
structure Kd (D:Nat → Prop) (X Y:World):Prop where
 os:Y.os = X.os
 tape:Y.tape = X.tape
 output:Y.output = X.output
 size:X.heap.size ≤ Y.heap.size
 same:∀ r,D r → Y.heap[r]? = X.heap[r]?
def AbD {β:Type} (J:β → (Nat → Prop) → World → Prop):Prop:=∀ s D X Y,J s D X → Kd D X Y → J s D Y
theorem Fr.refl {D:Nat → Prop} {X:World} (h:∀ r,D r → r < X.heap.size):Fr D D X X:=⟨rfl,rfl,rfl,Nat.le_refl _,fun _ _ _ => rfl,fun _ h => .inl h,h⟩
theorem Fr.trans {D D' D'':Nat → Prop} {X Y Z:World} (h:Fr D D' X Y) (k:Fr D' D'' Y Z):Fr D D'' X Z:=
 ⟨k.os.trans h.os,k.tape.trans h.tape,k.output.trans h.output,Nat.le_trans h.size k.size,
  fun r hr hd => (k.block r (Nat.lt_of_lt_of_le hr h.size) (fun hd' => (h.grow r hd').elim hd (fun e => by omega))).trans (h.block r hr hd),
  fun r hr => (k.grow r hr).elim (fun e => h.grow r e) (fun e => .inr (Nat.le_trans h.size e)),k.lt⟩
theorem Fr.alloc {D D':Nat → Prop} {X Y:World} (h:Fr D D' X Y) (o:Obj):Fr D D' X (Y.alloc o):=
 ⟨h.os,h.tape,h.output,by simp;exact Nat.le_trans h.size (Nat.le_succ _),fun r hr hd => (Below.heap_alloc _ _ _ (Nat.lt_of_lt_of_le hr h.size)).trans (h.block r hr hd),h.grow,fun r hr => by simp;exact Nat.lt_succ_of_lt (h.lt r hr)⟩
theorem Fr.next {D D':Nat → Prop} {X Y Z:World} (h:Fr D D' X Y) (b:Below Y.heap.size Y Z):Fr D D' X Z:=
 ⟨b.os.trans h.os,b.tape.trans h.tape,b.output.trans h.output,Nat.le_trans h.size b.size,fun r hr hd => (b.block r (Nat.lt_of_lt_of_le hr h.size)).trans (h.block r hr hd),h.grow,fun r hr => Nat.lt_of_lt_of_le (h.lt r hr) b.size⟩
theorem Fr.put {D D':Nat → Prop} {X Y:World} (h:Fr D D' X Y) {l:Nat} (o:Obj) (hl:D l ∨ X.heap.size ≤ l):Fr D D' X (Y.putObj l o):=
 ⟨h.os,h.tape,h.output,by simpa using h.size,fun r hr hd => (World.putObj_heap_other (fun e => by subst e;exact hl.elim hd (fun e => by omega))).trans (h.block r hr hd),h.grow,fun r hr => by simpa using h.lt r hr⟩
theorem Fr.grown {D D':Nat → Prop} {X Y Z:World} (h:Fr D D' X Y) {row:Option Nat} (g:Y.grownBy Z row) (hl:∀ r,row = some r → D r ∨ X.heap.size ≤ r):Fr D D' X Z:=
 ⟨g.os.trans h.os,g.tape.trans h.tape,g.output.trans h.output,Nat.le_trans h.size g.size,
  fun r hr hd => (g.block r (Nat.lt_of_lt_of_le hr h.size) (fun e => (hl r e.symm).elim hd (fun e => by omega))).trans (h.block r hr hd),h.grow,fun r hr => Nat.lt_of_lt_of_le (h.lt r hr) g.size⟩
theorem Fr.set {D D':Nat → Prop} {X Y:World} (h:Fr D D' X Y) {a:Addr} (v:Value) (hl:D a.block ∨ X.heap.size ≤ a.block) (g:Y.grownBy (Y.setCell a v) (some a.block)):Fr D D' X (Y.setCell a v):=
 h.grown g (fun r e => by cases e;exact hl)
theorem Fr.names {D D' E E':Nat → Prop} {X Y:World} (h:Fr D D' X Y) (h1:∀ r,D r → E r) (h2:∀ r,E' r → (D' r ∨ E r ∨ X.heap.size ≤ r) ∧ r < Y.heap.size):Fr E E' X Y:=
 ⟨h.os,h.tape,h.output,h.size,fun r hr hd => h.block r hr (fun e => hd (h1 r e)),fun r hr => by
  rcases (h2 r hr).1 with e | e
  ·exact (h.grow r e).imp (h1 r) id
  ·exact e,fun r hr => (h2 r hr).2⟩
theorem Fr.of_below {D:Nat → Prop} {X Y:World} (h:Below X.heap.size X Y) (hD:∀ r,D r → r < X.heap.size):Fr D D X Y:=
 ⟨h.os,h.tape,h.output,h.size,fun r hr _ => h.block r hr,fun _ h => .inl h,fun r hr => Nat.lt_of_lt_of_le (hD r hr) h.size⟩
theorem Fr.below {D D':Nat → Prop} {X Y:World} (h:Fr D D' X Y) {n:Nat} (hn:n ≤ X.heap.size) (hd:∀ r,D r → n ≤ r):Below n X Y:=
 ⟨h.os,h.tape,h.output,h.size,fun r hr => h.block r (by omega) (fun e => by have:=hd r e;omega)⟩
theorem Fr.cell {D D':Nat → Prop} {X Y:World} (h:Fr D D' X Y) {p:Addr} (hp:p.block < X.heap.size) (hd:¬ D p.block):Y.cell? p = X.cell? p:=World.cell?_of_block (h.block _ hp hd)
theorem Fr.keep {D D':Nat → Prop} {X Y:World} (h:Fr D D' X Y) {p:Addr} {v:Value} (hd:¬ D p.block) (hc:X.cell? p = some v):Y.cell? p = some v:=(h.cell (World.block_lt_of_cell? X p hc) hd).trans hc
theorem Kd.put {D:Nat → Prop} {X Y:World} (h:Kd D X Y) {l:Nat} (o:Obj) (hl:¬ D l):Kd D X (Y.putObj l o):=
 ⟨h.os,h.tape,h.output,by simpa using h.size,fun r hr => (World.putObj_heap_other (fun e => hl (by subst e;exact hr))).trans (h.same r hr)⟩
theorem Kd.alloc {D:Nat → Prop} {X Y:World} (h:Kd D X Y) (o:Obj) (hD:∀ r,D r → r < X.heap.size):Kd D X (Y.alloc o):=
 ⟨h.os,h.tape,h.output,by simp;exact Nat.le_trans h.size (Nat.le_succ _),fun r hr => (Below.heap_alloc _ _ _ (Nat.lt_of_lt_of_le (hD r hr) h.size)).trans (h.same r hr)⟩
theorem Kd.refl (D:Nat → Prop) (X:World):Kd D X X:=⟨rfl,rfl,rfl,Nat.le_refl _,fun _ _ => rfl⟩
theorem Kd.below {D:Nat → Prop} {X Y:World} (h:Below X.heap.size X Y) (hD:∀ r,D r → r < X.heap.size):Kd D X Y:=⟨h.os,h.tape,h.output,h.size,fun r hr => h.block r (hD r hr)⟩
def SeqD {α:Type} (F:Fence) (n:Nat) (P:Program) (g:Nat) (lb:Array Value) (encs:α → Array Value) (R:Nat → Prop) (xs:List α) (w:World):Prop:=
 ∀ (l:Nat) (J Jx:List α → (Nat → Prop) → World → Prop) (D:Nat → Prop) (W:World),(∀ r,R r → W.heap[r]? = w.heap[r]?) → w.heap.size ≤ W.heap.size → (∀ r,R r → ¬ D r) → (∀ r,D r → r < W.heap.size) → AbD J → AbD Jx →
  (∀ pre x post D1 W1,xs = pre ++ x :: post → J pre D1 W1 → Fr D D1 W W1 → YieldAt F (n - 1) P l (encs x) W1 fun e W' =>
   (e = .returned (.bool true) ∧ ∃ D',J (pre ++ [x]) D' W' ∧ Fr D1 D' W1 W') ∨ (e = .returned (.bool false) ∧ ∃ D',Jx (pre ++ [x]) D' W' ∧ Fr D1 D' W1 W')) →
  J [] D W →
  CallsIn F n P g (#[.func (.yield l) #[] #[]] ++ lb) W fun e W' => (∃ v,e = .returned v) ∧ ∃ D',Fr D D' W W' ∧ (J xs D' W' ∨ ∃ pre x post,xs = pre ++ x :: post ∧ Jx (pre ++ [x]) D' W')
theorem SeqD.later {α:Type} {F:Fence} {n:Nat} {P:Program} {g:Nat} {lb:Array Value} {encs:α → Array Value} {R:Nat → Prop} {xs:List α} {w w':World}
  (h:SeqD F n P g lb encs R xs w) (hs:w.heap.size ≤ w'.heap.size) (hb:∀ r,R r → w'.heap[r]? = w.heap[r]?):SeqD F n P g lb encs R xs w':=
 fun l J Jx D W hR hW => h l J Jx D W (fun r hr => (hR r hr).trans (hb r hr)) (Nat.le_trans hs hW)
def postD {α:Type} (I:List α → (Nat → Prop) → World → Prop) (Ix:Code → List α → (Nat → Prop) → World → Prop) (D:Nat → Prop) (xs:List α) (W:World):Exit → Act → World → Prop
 | .normal,_,W' => ∃ D',I xs D' W' ∧ Fr D D' W W'
 | .ret,_,W' => ∃ D',Ix .ret xs D' W' ∧ Fr D D' W W'
 | .exit i,_,W' => ∃ D',Ix (.exit i) xs D' W' ∧ Fr D D' W W'
 | _,_,_ => False
variable {F:Fence} {n:Nat} {P:Program}
theorem rounds_D {α:Type} {ps:Array Tmp} {assign body:Code} {a:Act} {fn:FuncId} (hfn:F.fn fn) {gf:Nat} {lb:Array Value}
  {encs:α → Array Value} {R:Nat → Prop} {xs:List α} {w0 w W1:World} (hseq:SeqD F (n - 1) P gf lb encs R xs w0) (hps:∀ x,(encs x).size = ps.size)
  (I:List α → (Nat → Prop) → World → Prop) (Ix:Code → List α → (Nat → Prop) → World → Prop) (hI:AbD I) (hIx:∀ c,AbD (Ix c)) (D:Nat → Prop) (hD:∀ r,D r → r < w.heap.size) (hRD:∀ r,R r → ¬ D r) (hRw:∀ r,R r → r < w.heap.size ∧ w.heap[r]? = w0.heap[r]?) (hw0:w0.heap.size ≤ w.heap.size)
  (h0:I [] D w) (Ax:List α → α → (Nat → Prop) → Act → World → Prop) (hAx:∀ s x a',AbD (fun (_:Unit) D W => Ax s x D a' W))
  (hassign:∀ (l:Nat) (pre:List α) (x:α) (D1:Nat → Prop) (W:World) (K:Act → World → Prop),I pre D1 W → Fr D D1 w W → (∀ a' D2 W',Fr D1 D2 W W' → Ax pre x D2 a' W' → K a' W') →
   assign.wpIn (F.inRound l) (n - 1 - 1) P (Exit.then K (fun _ _ _ => False)) { tmps:=(ps.zip (encs x)).foldl (fun t (p,v) => t.setIfInBounds p v) a.tmps,defers:=[] } W)
  (hbody:∀ (l:Nat) (pre:List α) (x:α) (post:List α) (D2:Nat → Prop) (a':Act) (W:World),xs = pre ++ x :: post → Ax pre x D2 a' W → Fr D D2 w W → (∃ r,W.heap[l]? = some (.loop r)) → ¬ D2 l → w.heap.size ≤ l → body.wpIn (F.inRound l) (n - 1 - 1) P (postD I Ix D2 (pre ++ [x]) W) a' W)
  (rec:LoopState → Option Code → Loop) (B L:Nat) (hrec:rec = fun st pe => { state:=st,pending:=pe,fn,tmps:=a.tmps,params:=ps,assign,body,defers:=B })
  (hB1:Below w.heap.size w W1) (hL:w.heap.size ≤ L) (hL1:W1.heap[L]? = some (.loop (rec .ready none))) :
  CallsIn F (n - 1) P gf (#[.func (.yield L) #[] #[]] ++ lb) W1 fun e W' => (∃ v,e = .returned v) ∧ ∃ D',Fr D D' w W' ∧ (∀ r,w.heap.size ≤ r → r < W1.heap.size → r ≠ L → W'.heap[r]? = W1.heap[r]? ∧ ¬ D' r) ∧ ¬ D' L ∧
   ((I xs D' W' ∧ W'.heap[L]? = some (.loop (rec .ready none))) ∨ (∃ c pre x post,xs = pre ++ x :: post ∧ Ix c (pre ++ [x]) D' W' ∧ W'.heap[L]? = some (.loop (rec .done (some c))))):=by
 have hLt:L < W1.heap.size:=(Array.getElem?_eq_some_iff.1 hL1).1
 have hI1:I [] D W1:=hI _ _ _ _ h0 (Kd.below hB1 hD)
 have hDL:¬ D L:=fun h => by have:=hD _ h;omega
 have frw:∀ {E D1:Nat → Prop} {W:World},Fr (fun r => D r ∨ r = L) D1 W1 W → (∀ r,D1 r ↔ E r ∨ r = L) → ¬ E L → Fr D E w W:=fun {E D1 W} h hE hn =>
  ⟨h.os.trans hB1.os,h.tape.trans hB1.tape,h.output.trans hB1.output,Nat.le_trans hB1.size h.size,
   fun r hr hd => (h.block r (Nat.lt_of_lt_of_le hr hB1.size) (fun e => e.elim hd (fun e => by omega))).trans (hB1.block r hr),
   fun r hr => by
    rcases h.grow r ((hE r).2 (.inl hr)) with (e | e) | e
    ·exact .inl e
    ·subst e;exact absurd hr hn
    ·exact .inr (Nat.le_trans hB1.size e),fun r hr => h.lt r ((hE r).2 (.inl hr))⟩
 refine (hseq L (fun pre D' W => ∃ E,I pre E W ∧ (∀ r,D' r ↔ E r ∨ r = L) ∧ W.heap[L]? = some (.loop (rec .ready none)) ∧ ¬ E L)
  (fun pre D' W => ∃ c E,Ix c pre E W ∧ (∀ r,D' r ↔ E r ∨ r = L) ∧ W.heap[L]? = some (.loop (rec .done (some c))) ∧ ¬ E L) (fun r => D r ∨ r = L) W1
  (fun r hr => (hB1.block r (hRw r hr).1).trans (hRw r hr).2) (Nat.le_trans hw0 hB1.size) (fun r hr e => e.elim (hRD r hr) (fun e => by have:=(hRw r hr).1;omega))
  (fun r hr => hr.elim (fun e => Nat.lt_of_lt_of_le (hD r e) hB1.size) (fun e => by omega)) ?_ ?_ ?_ ⟨D,hI1,fun _ => Iff.rfl,hL1,hDL⟩).mono ?_
 ·rintro s D' X Y ⟨E,h1,h2,h3,h4⟩ k
  exact ⟨E,hI _ _ _ _ h1 ⟨k.os,k.tape,k.output,k.size,fun r hr => k.same r ((h2 r).2 (.inl hr))⟩,h2,(k.same L ((h2 L).2 (.inr rfl))).trans h3,h4⟩
 ·rintro s D' X Y ⟨c,E,h1,h2,h3,h4⟩ k
  exact ⟨c,E,hIx c _ _ _ _ h1 ⟨k.os,k.tape,k.output,k.size,fun r hr => k.same r ((h2 r).2 (.inl hr))⟩,h2,(k.same L ((h2 L).2 (.inr rfl))).trans h3,h4⟩
 ·rintro pre x post D1 W heq ⟨E,hi,hDE,hl,hn⟩ hfr
  have hlt:L < W.heap.size:=(Array.getElem?_eq_some_iff.1 hl).1
  have hy:=run_yield (P:=P) (args:=encs x) hl (by rw [hrec];exact hps x)
  rw [hrec] at hy
  refine ⟨fn,_,assign,body,hy,roundIn_of_wpIn hfn (hassign L pre x E W _ hi (frw hfr hDE hn) ?_)⟩
  intro a' D2 W' frA hax
  have hlA:W'.heap[L]? = some (.loop (rec .ready none)):=(frA.block L hlt hn).trans hl
  have hltA:L < W'.heap.size:=(Array.getElem?_eq_some_iff.1 hlA).1
  have hn2:¬ D2 L:=fun e => (frA.grow L e).elim hn (fun e => by omega)
  refine ⟨_,run_beginRound hlA (by rw [hrec]),?_⟩
  have hl2:(W'.putObj L (.loop { rec .ready none with state:=.busy })).heap[L]? = some (.loop { rec .ready none with state:=.busy }):=World.putObj_heap_same hltA
  have A1:Fr D1 (fun r => D2 r ∨ r = L) W W':=frA.names (fun r e => (hDE r).2 (.inl e)) (fun r e => by
   rcases e with e | e
   ·exact ⟨.inl e,frA.lt r e⟩
   ·exact ⟨.inr (.inl ((hDE r).2 (.inr e))),by omega⟩)
  have A2:Fr D1 (fun r => D2 r ∨ r = L) W (W'.putObj L (.loop { rec .ready none with state:=.busy })):=A1.put _ (.inl ((hDE L).2 (.inr rfl)))
  refine wpIn_mono (hbody L pre x post D2 a' _ heq (hAx pre x a' () D2 _ _ hax ((Kd.refl _ _).put _ hn2)) (((frw hfr hDE hn).trans frA).put _ (.inr hL)) ⟨_,hl2⟩ hn2 hL) ?_
  have fin:∀ (jump:Option Code) (D':Nat → Prop) (W3:World),Fr D2 D' (W'.putObj L (.loop { rec .ready none with state:=.busy })) W3 →
    (Instr.endRound L jump).run P W3 = .ok (.bool jump.isNone) (W3.putObj L (.loop (rec (if jump.isNone then .ready else .done) jump))) ∧ ¬ D' L ∧
    (W3.putObj L (.loop (rec (if jump.isNone then .ready else .done) jump))).heap[L]? = some (.loop (rec (if jump.isNone then .ready else .done) jump)) ∧
    Fr D1 (fun r => D' r ∨ r = L) W (W3.putObj L (.loop (rec (if jump.isNone then .ready else .done) jump))):=fun jump D' W3 fr3 => by
   have hlp:L < (W'.putObj L (.loop { rec .ready none with state:=.busy })).heap.size:=by simpa using hltA
   have hl3:=(fr3.block L hlp hn2).trans hl2
   have hlt3:L < W3.heap.size:=(Array.getElem?_eq_some_iff.1 hl3).1
   have hr:=run_endRound (P:=P) jump hl3
   rw [hrec] at hr ⊢
   rw [hrec] at hl3
   refine ⟨hr,fun e => (fr3.grow L e).elim hn2 (fun e => by omega),World.putObj_heap_same hlt3,?_⟩
   have A3:Fr (fun r => D2 r ∨ r = L) (fun r => D' r ∨ r = L) (W'.putObj L (.loop { rec .ready none with state:=.busy })) W3:=fr3.names (fun r e => .inl e) (fun r e => by
    rcases e with e | e
    ·exact ⟨.inl e,fr3.lt r e⟩
    ·exact ⟨.inr (.inl (.inr e)),by omega⟩)
   exact (A2.trans A3).put _ (.inl ((hDE L).2 (.inr rfl)))
  rintro e a3 W3 hp
  cases e with
  | normal =>
   obtain ⟨D',hi3,fr3⟩:=hp
   obtain ⟨hr,hnL,hl4,hfr4⟩:=fin none D' W3 fr3
   exact ⟨_,_,hr,.inl ⟨rfl,_,⟨D',hI _ _ _ _ hi3 ((Kd.refl _ _).put _ hnL),fun _ => Iff.rfl,hl4,hnL⟩,hfr4⟩⟩
  | ret =>
   obtain ⟨D',hi3,fr3⟩:=hp
   obtain ⟨hr,hnL,hl4,hfr4⟩:=fin (some .ret) D' W3 fr3
   exact ⟨_,_,hr,.inr ⟨rfl,_,⟨.ret,D',hIx _ _ _ _ _ hi3 ((Kd.refl _ _).put _ hnL),fun _ => Iff.rfl,hl4,hnL⟩,hfr4⟩⟩
  | exit i =>
   obtain ⟨D',hi3,fr3⟩:=hp
   obtain ⟨hr,hnL,hl4,hfr4⟩:=fin (some (.exit i)) D' W3 fr3
   exact ⟨_,_,hr,.inr ⟨rfl,_,⟨.exit i,D',hIx _ _ _ _ _ hi3 ((Kd.refl _ _).put _ hnL),fun _ => Iff.rfl,hl4,hnL⟩,hfr4⟩⟩
  | goto t => exact hp.elim
  | panic ch => exact hp.elim
  | outgrown => exact hp.elim
 ·rintro e W2 ⟨⟨v,rfl⟩,D',hfr,hJ⟩
  have own:∀ {E:Nat → Prop},(∀ r,D' r ↔ E r ∨ r = L) → ∀ r,w.heap.size ≤ r → r < W1.heap.size → r ≠ L → W2.heap[r]? = W1.heap[r]? ∧ ¬ E r:=fun hE r h1 h2 h3 => by
   have hnD:¬ (D r ∨ r = L):=fun e => e.elim (fun e => by have:=hD r e;omega) h3
   exact ⟨hfr.block r h2 hnD,fun e => (hfr.grow r ((hE r).2 (.inl e))).elim hnD (fun e => by omega)⟩
  rcases hJ with ⟨E,hi,hE,hl,hn⟩ | ⟨pre,x,post,heq,c,E,hi,hE,hl,hn⟩
  ·exact ⟨⟨v,rfl⟩,E,frw hfr hE hn,own hE,hn,.inl ⟨hi,hl⟩⟩
  ·exact ⟨⟨v,rfl⟩,E,frw hfr hE hn,own hE,hn,.inr ⟨c,pre,x,post,heq,hi,hl⟩⟩
theorem wpIn_rangeFunc_D {α:Type} {g:Operand} {ps:Array Tmp} {assign body:Code} {Q:Exit → Act → World → Prop} {a:Act} {w:World}
  (hro:F.round = none) (h1:1 ≤ n) {gf:Nat} {lb:Array Value} (hg:a.eval g = .func (.func gf) #[] lb) (hFg:F.fn gf) (eg:∀ args w,(callFunc gf args).run P w = .ok (.enter gf args) w)
  {encs:α → Array Value} {R:Nat → Prop} {xs:List α} {w0:World} (hseq:SeqD F (n - 1) P gf lb encs R xs w0) (hps:∀ x,(encs x).size = ps.size)
  (I:List α → (Nat → Prop) → World → Prop) (Ix:Code → List α → (Nat → Prop) → World → Prop) (hI:AbD I) (hIx:∀ c,AbD (Ix c)) (D:Nat → Prop) (hD:∀ r,D r → r < w.heap.size) (hRD:∀ r,R r → ¬ D r) (hRw:∀ r,R r → r < w.heap.size ∧ w.heap[r]? = w0.heap[r]?) (hw0:w0.heap.size ≤ w.heap.size)
  (h0:I [] D w) (Ax:List α → α → (Nat → Prop) → Act → World → Prop) (hAx:∀ s x a',AbD (fun (_:Unit) D W => Ax s x D a' W))
  (hassign:∀ (l:Nat) (pre:List α) (x:α) (D1:Nat → Prop) (W:World) (K:Act → World → Prop),I pre D1 W → Fr D D1 w W → (∀ a' D2 W',Fr D1 D2 W W' → Ax pre x D2 a' W' → K a' W') →
   assign.wpIn (F.inRound l) (n - 1 - 1) P (Exit.then K (fun _ _ _ => False)) { tmps:=(ps.zip (encs x)).foldl (fun t (p,v) => t.setIfInBounds p v) a.tmps,defers:=[] } W)
  (hbody:∀ (l:Nat) (pre:List α) (x:α) (post:List α) (D2:Nat → Prop) (a':Act) (W:World),xs = pre ++ x :: post → Ax pre x D2 a' W → Fr D D2 w W → (∃ r,W.heap[l]? = some (.loop r)) → ¬ D2 l → w.heap.size ≤ l → body.wpIn (F.inRound l) (n - 1 - 1) P (postD I Ix D2 (pre ++ [x]) W) a' W)
  (hdone:∀ (E:Nat → Prop) (W:World),I xs E W → Fr D E w W → W.heap[w.heap.size]? = some (.deferred (some [])) → ¬ E w.heap.size → Q .normal { a with defers:={ target:=.collected w.heap.size,args:=#[] } :: a.defers } W)
  (hstop:∀ (c:Code) (pre:List α) (x:α) (post:List α) (E:Nat → Prop) (W:World),xs = pre ++ x :: post → Ix c (pre ++ [x]) E W → Fr D E w W → W.heap[w.heap.size]? = some (.deferred (some [])) → ¬ E w.heap.size → c.wpIn F n P Q { a with defers:={ target:=.collected w.heap.size,args:=#[] } :: a.defers } W) :
  (Code.rangeFunc g ps assign body).wpIn F n P Q a w:=by
 refine wpIn_rangeFunc ?_
 intro fn hfn
 rw [hro]
 obtain ⟨rec,hrec⟩:∃ rec:LoopState → Option Code → Loop,rec = fun st pe => { state:=st,pending:=pe,fn,tmps:=a.tmps,params:=ps,assign,body,defers:=w.heap.size }:=⟨_,rfl⟩
 obtain ⟨W1,hW1⟩:∃ W1,(w.alloc (.deferred (some []))).alloc (.loop (rec .ready none)) = W1:=⟨_,rfl⟩
 have hL1:W1.heap[w.heap.size + 1]? = some (.loop (rec .ready none)):=by
  rw [← hW1];have:=World.alloc_heap_new (w.alloc (.deferred (some []))) (.loop (rec .ready none));rwa [World.size_alloc] at this
 have hK1:W1.heap[w.heap.size]? = some (.deferred (some [])):=by
  rw [← hW1];exact (Below.heap_alloc _ _ _ (by simp)).trans (World.alloc_heap_new w _)
 have hs1:W1.heap.size = w.heap.size + 2:=by rw [← hW1];simp
 have hB1:Below w.heap.size w W1:=by
  rw [← hW1];exact ((Below.refl _ w).alloc (Nat.le_refl _) _).alloc (by simp) _
 refine ⟨w.heap.size + 1,[{ target:=.collected w.heap.size,args:=#[] }],W1,{ target:=.fn (.func gf) lb,args:=#[.func (.yield (w.heap.size + 1)) #[] #[]] },W1,gf,
  #[.func (.yield (w.heap.size + 1)) #[] #[]] ++ lb,W1,?_,?_,?_,?_,fun _ => h1,?_⟩
 ·rw [← hW1,hrec];exact run_enterLoop_outer _ _ _ _ _
 ·simp only [resolve,hg]
  simp [go_sem]
 ·intro f' hf';simp [Target.leads] at hf';subst hf';exact hFg
 ·simp [invoke,go_sem,eg]
 ·refine (rounds_D hfn hseq hps I Ix hI hIx D hD hRD hRw hw0 h0 Ax hAx hassign hbody rec w.heap.size (w.heap.size + 1) hrec hB1 (by omega) hL1).mono ?_
  rintro e W2 ⟨⟨v,rfl⟩,E,hfr,hown,hnL,⟨hi,hl⟩ | ⟨c,pre,x,post,heq,hi,hl⟩⟩
  ·obtain ⟨o1,o2⟩:=hown w.heap.size (Nat.le_refl _) (by omega) (by omega)
   exact ⟨none,_,by have:=run_endLoop (P:=P) hl (by rw [hrec];simp);rw [hrec] at this;exact this,hdone E _ (hI _ _ _ _ hi ((Kd.refl _ _).put _ hnL)) (hfr.put _ (.inr (by omega))) ((World.putObj_heap_other (by omega)).trans (o1.trans hK1)) o2⟩
  ·obtain ⟨o1,o2⟩:=hown w.heap.size (Nat.le_refl _) (by omega) (by omega)
   exact ⟨some c,_,by have:=run_endLoop (P:=P) hl (by rw [hrec];simp);rw [hrec] at this;exact this,hstop c pre x post E _ heq (hIx c _ _ _ _ hi ((Kd.refl _ _).put _ hnL)) (hfr.put _ (.inr (by omega))) ((World.putObj_heap_other (by omega)).trans (o1.trans hK1)) o2⟩
end Go.Proofs.YtcmmdojlhfmddaaGreat
