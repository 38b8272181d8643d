/- Selectors and compounds that came in as arguments: read once, whatever the depth; their numbers and lists in bounds; where Dear says no the reading is whole, as match's own texts want it. -/
import Derived.Test.YtcmmdojlhfmddaaGreatSelArgs
import Derived.Test.YtcmmdojlhfmddaaGreatCsSeq
import Derived.Test.YtcmmdojlhfmddaaGreatMtMem
import Derived.Test.YtcmmdojlhfmddaaGreatMtTrees
import Derived.Test.YtcmmdojlhfmddaaGreatMtNo
import Derived.JoinedCond
import Derived.Deep.CondSized
namespace Go.Proofs.YtcmmdojlhfmddaaGreat.Wg
open Go.Proofs.YtcmmdojlhfmddaaGreat.Tre
open Go Go.RowKit Go.ChangeShapes Go.WideShapes Go.ChangeAt Sl Go.Proofs.YtcmmdojlhfmddaaGreat.Tre
/-! ### one value, one reading -/
/-! ### numbers and lists in bounds, at every depth -/
def wfI (x:Int):Prop:=(Lit.int .i64 x).wf = true
def WD:Nat → List Sel → Prop
 | 0,_ => True
 | d + 1,l => l.length ≤ 8796093022208 ∧ ∀ s ∈ l,∀ p ∈ s,wfI p.1 ∧ CpOk p.2 ∧ ∀ q ∈ p.2.pss,(wfI q.kind ∧ wfI q.a ∧ wfI q.b) ∧ WD d q.list
def CW (d:Nat) (c:Cp):Prop:=CpOk c ∧ ∀ q ∈ c.pss,(wfI q.kind ∧ wfI q.a ∧ wfI q.b) ∧ WD d q.list
def SW (d:Nat) (s:Sel):Prop:=∀ p ∈ s,wfI p.1 ∧ CW d p.2
/-! ### one selector, one compound -/
end Go.Proofs.YtcmmdojlhfmddaaGreat.Wg
namespace Go.Proofs.YtcmmdojlhfmddaaGreat.Mt
open Go.Proofs.YtcmmdojlhfmddaaGreat.Tre
open Go Go.RowKit Dm Go.Proofs.YtcmmdojlhfmddaaGreat.Wg
/-! ### where Dear says no the reading is whole -/
theorem i64_of {x:Int} (h:wfI x):i64 x:=by
 have hm:IntKind.i64.min = -9223372036854775808:=rfl
 unfold wfI at h
 simp [Lit.wf] at h
 unfold i64
 constructor <;> omega
theorem row_cv {α:Type} {sz:Nat} {T T':List Value → α → Prop} {n:Nat} {W:World} {v:Value} {l:List α} (h:Wg.RowT sz T n W v l) (hT:∀ c x,x ∈ l → T c x → T' c x):RowT sz T' n W v l:=by
 rcases h with h | ⟨b,off,cap,rfl,h1,h2,h3,h4⟩
 ·exact .inl h
 ·refine .inr ⟨b,off,cap,rfl,h1,h2,h3,fun j x hx => ?_⟩
  obtain ⟨c,hc,ht,hcell⟩:=h4 j x hx
  exact ⟨c,hc,hT _ _ (List.mem_of_getElem? hx) ht,hcell⟩
theorem slr_of {α:Type} {sz:Nat} {f:α → List Value} {T:List Value → α → Prop} {n:Nat} {W:World} {v:Value} {l:List α} (h:Wg.RowT sz T n W v l) (hT:∀ c x,T c x → c = f x):SlR sz f n W v l:=by
 rcases h with h | ⟨b,off,cap,rfl,h1,h2,h3,h4⟩
 ·exact .inl h
 ·refine .inr ⟨b,off,cap,rfl,h1,h2,h3,fun j x hx i u hu => ?_⟩
  obtain ⟨c,hc,ht,hcell⟩:=h4 j x hx
  rw [← hT c x ht] at hu
  exact hcell i u hu
theorem cpt_of {d n:Nat} {W:World} (HS:∀ v l,SelsR d n W v l → FewD d l → WD d l → SelsAt d n W v l) {cs:List Value} {c:Cp} (h:CpC (SelsR d n W) n W cs c) (hf:FewQ d c) (hw:CW d c):CpT (SelsAt d n W) n W cs c:=by
 obtain ⟨i,k,a,p,rfl,r1,r2,r3,r4⟩:=h
 refine ⟨i,k,a,p,rfl,slr_of r1 (fun _ _ h => h),slr_of r2 (fun _ _ h => h),slr_of r3 (fun _ _ h => h),row_cv r4 (fun cs q hq ⟨x,e,hx⟩ => ?_),by have:=hf.1.2.2.2;omega,fun _ _ => trivial⟩
 obtain ⟨⟨w0,w1,w2⟩,w3⟩:=hw.2 q hq
 have hfd:=hf.2 q hq
 refine ⟨x,e,HS _ _ hx hfd w3,i64_of w0,i64_of w1,i64_of w2,?_⟩
 cases d with
 | zero => exact absurd hfd (by simp [FewD])
 | succ d => unfold WD at w3;exact w3.1
theorem pts_of {d n:Nat} {W:World} (HS:∀ v l,SelsR d n W v l → FewD d l → WD d l → SelsAt d n W v l) {v:Value} {s:Sel} (h:PtsR (SelsR d n W) n W v s) (hf:FewT d s) (hw:SW d s):PtsT (SelsAt d n W) n W v s:=
 row_cv h (fun _ p hp ⟨c',e,hc⟩ => ⟨c',e,cpt_of HS hc (hf.2 p hp) (hw p hp).2,i64_of (hw p hp).1⟩)
theorem sels_of:∀ (d:Nat) {n:Nat} {W:World} (v:Value) (l:List Sel),SelsR d n W v l → FewD d l → WD d l → SelsAt d n W v l
 | 0,_,_,_,_,_,hf,_ => absurd hf (by simp [FewD])
 | d + 1,n,W,_,l,h,hf,hw => by
  unfold FewD at hf
  unfold WD at hw
  exact row_cv h (fun _ s hs ⟨x,e,hx⟩ => ⟨x,e,pts_of (sels_of d) hx ⟨(hf s hs).1,fun p hp => ⟨((hf s hs).2 p hp).1,((hf s hs).2 p hp).2⟩⟩ (fun p hp => ⟨(hw.2 s hs p hp).1,(hw.2 s hs p hp).2.1,(hw.2 s hs p hp).2.2⟩)⟩)
theorem parts_of {d n:Nat} {W:World} {v:Value} {s:Sel} (h:PartsR d n W v s) (hf:FewT d s) (hw:SW d s):PartsAt d n W v s:=pts_of (sels_of d) h hf hw
end Go.Proofs.YtcmmdojlhfmddaaGreat.Mt

/- A tree that is matched against, told by its heap alone; selectors of few conditions are answered for. -/
namespace Go.Proofs.YtcmmdojlhfmddaaGreat.Co
open Go.Proofs.YtcmmdojlhfmddaaGreat.Tre
open Go Go.RowKit Sl Mt Wg Cs
open Dm (Em El Nd Nv Tr TreeOk NdOk parentV newV lowN Made)
theorem Tr_sees {b:Nat} {W X:World} {tb g cap:Nat} {qs:List Em} (h:Tr b W tb g cap qs) (hS:Sees W X):Tr b X tb g cap qs:=by
 have h1:=h.next hS.above
 exact ⟨h1.blk,h1.low,h1.row,h1.cls,h1.ats,h1.chs,h1.apart⟩
structure GoodM (W:World) (tb:Nat) (es:List El):Prop where
 tr:∃ b g cap qs,Tr b W tb g cap qs ∧ qs.map Em.e = es
 ok:TreeOk es
 len:es.length ≤ 4096
 nds:∀ e ∈ es,NdOk e.nd
 short:∀ e ∈ es,ShortN e.nd
 ml:ML W
theorem GoodM.good {W:World} {tb:Nat} {es:List El} (h:GoodM W tb es) (hno:∀ e ∈ es,e.nd.ats = []):Mt.Good W tb es:=⟨h.tr,h.ok,h.len,h.nds,attrs_none hno⟩
theorem ml_sees {W X:World} (h:ML W) (hS:Sees W X):ML X:=by
 obtain ⟨m,hm⟩:=h
 exact ⟨m,(World.cell?_of_block (hS.block _ (World.block_lt_of_cell? W _ hm))).trans hm⟩
theorem GoodM.sees {W X:World} {tb:Nat} {es:List El} (h:GoodM W tb es) (hS:Sees W X):GoodM X tb es:=by
 obtain ⟨⟨b,g,cap,qs,hT,e⟩,h1,h2,h3,h4,h5⟩:=h
 exact ⟨⟨b,g,cap,qs,Tr_sees hT hS,e⟩,h1,h2,h3,h4,ml_sees h5 hS⟩
/-! ### readings hang on cells alone -/
theorem row_cells {α:Type} {sz:Nat} {T T':List Value → α → Prop} {n:Nat} {X Y:World} {v:Value} {l:List α} (h:Wg.RowT sz T n X v l) (hc:∀ p,Y.cell? p = X.cell? p) (hT:∀ c x,T c x → T' c x):Wg.RowT sz T' n Y v l:=by
 rcases h with h | ⟨b,off,cap,rfl,h1,h2,h3,h4⟩
 ·exact .inl h
 ·refine .inr ⟨b,off,cap,rfl,h1,h2,h3,fun j x hx => ?_⟩
  obtain ⟨c,hl,ht,hu⟩:=h4 j x hx
  exact ⟨c,hl,hT _ _ ht,fun i u hi => (hc _).trans (hu i u hi)⟩
theorem pts_cells {Q Q':Value → List Sel → Prop} {n:Nat} {X Y:World} {v:Value} {s:Sel} (h:PtsR Q n X v s) (hc:∀ p,Y.cell? p = X.cell? p) (hQ:∀ x l,Q x l → Q' x l):PtsR Q' n Y v s:=
 row_cells h hc (fun _ _ ⟨c',e,i,k,a,p,h0,h1,h2,h3,h4⟩ => ⟨c',e,i,k,a,p,h0,row_cells h1 hc (fun _ _ h => h),row_cells h2 hc (fun _ _ h => h),row_cells h3 hc (fun _ _ h => h),row_cells h4 hc (fun _ _ ⟨x,e,hx⟩ => ⟨x,e,hQ _ _ hx⟩)⟩)
theorem sels_cells:∀ (d:Nat) {n:Nat} {X Y:World} {v:Value} {l:List Sel},SelsR d n X v l → (∀ p,Y.cell? p = X.cell? p) → SelsR d n Y v l
 | 0,_,_,_,_,_,h,_ => h
 | d + 1,_,_,_,_,_,h,hc => row_cells h hc (fun _ _ ⟨x,e,hx⟩ => ⟨x,e,pts_cells hx hc (fun _ _ hq => sels_cells d hq hc)⟩)
theorem parts_sees {d n:Nat} {w X:World} {v:Value} {s:Sel} (h:PartsR d n w v s) (hn:n ≤ w.heap.size) (hS:Sees w X):PartsR d X.heap.size X v s:=by
 have h1:PartsR d n { X with os:=w.os,tape:=w.tape,output:=w.output } v s:=PtsR.below h (hS.above.mono hn) (fun _ _ hq => SelsR.below d hq (hS.above.mono hn))
 have h2:PartsR d n X v s:=pts_cells h1 (fun _ => rfl) (fun _ _ hq => sels_cells d hq (fun _ => rfl))
 exact PtsR.mono h2 (Nat.le_trans hn hS.size) (fun _ _ hq => SelsR.mono d hq (Nat.le_trans hn hS.size))
theorem sets_sees {n:Nat} {w X:World} {v:Value} {l:List St} (h:StsT n w v l) (hn:n ≤ w.heap.size) (hS:Sees w X):StsT X.heap.size X v l:=by
 have h1:StsT n { X with os:=w.os,tape:=w.tape,output:=w.output } v l:=Wg.RowT.below h (hS.above.mono hn) (fun _ _ h => h)
 have h2:StsT n X v l:=h1
 exact Wg.RowT.mono h2 (Nat.le_trans hn hS.size) (fun _ _ h => h)
theorem sels_sees {d n:Nat} {w X:World} {v:Value} {l:List Sel} (h:SelsR d n w v l) (hn:n ≤ w.heap.size) (hS:Sees w X):SelsR d X.heap.size X v l:=by
 have h1:SelsR d n { X with os:=w.os,tape:=w.tape,output:=w.output } v l:=SelsR.below d h (hS.above.mono hn)
 have h2:SelsR d n X v l:=sels_cells d h1 (fun _ => rfl)
 exact SelsR.mono d h2 (Nat.le_trans hn hS.size)
theorem rules_sees {w X:World} {v:Value} {l:List Rv} (h:RulesV w v l) (hS:Sees w X):RulesV X v l:=by
 rcases h with h | ⟨bk,off,c,e,h1,h2,h3⟩
 ·exact .inl h
 ·refine .inr ⟨bk,off,c,e,h1,h2,fun j x hj => ?_⟩
  obtain ⟨a,b,hb,hs⟩:=h3 j x hj
  have:=hS.size
  exact ⟨(World.cell?_of_block (hS.block _ hb)).trans a,(World.cell?_of_block (hS.block _ hb)).trans b,by omega,sets_sees hs (Nat.le_refl _) hS⟩
theorem ask_of {tb:Nat} {es:List El} {W:World} (hG:GoodM W tb es) (hno:∀ e ∈ es,e.nd.ats = []) {q:Option Addr} {c:Nat} {l:List Sel} (h:SelsR 9 W.heap.size W (.slice q l.length c) l)
  (hf:∀ x ∈ l,FewT 10 x ∧ FewT 8 x ∧ SW 8 x ∧ cutS 8 x = x):AskOK 62 (.pointer (some ⟨tb,0,none⟩)) (selectorV es) W q c l:=by
 intro k x hk
 obtain ⟨f1,f2,f3,f4⟩:=hf x (List.mem_of_getElem? hk)
 obtain ⟨b,off,y,e,hb,h1,h2,hy,hc⟩:=Wg.SelsR.get h hk
 obtain ⟨xp,xc,rfl⟩:=Wg.RowT.len hy
 refine ⟨b,off,xp,xc,e,h1,by unfold maxLen at h2;omega,fun X hX => ?_,fun X hX => ?_,f1,fun n X hX => ?_⟩
 ·exact (World.cell?_of_block (hX.block b hb)).trans hc
 ·rw [f4]
  exact parts_sees hy (Nat.le_refl _) hX
 ·exact ((hG.sees hX).good hno).sel n 8 _ _ (parts_of (parts_sees hy (Nat.le_refl _) hX) f2 f3)
end Go.Proofs.YtcmmdojlhfmddaaGreat.Co
