/- Selectors and compounds that came in as arguments: read once, whatever the depth; their numbers and lists in bounds; where Dear says no the reading is whole, as match's own texts want it. -/
import Derived.Test.YtnemagmakgiheaaGreatWgG
import Derived.Test.YtnemagmakgiheaaGreatMtGx
import Derived.JoinedCond
import Derived.Deep.CondSized
set_option maxRecDepth 100000
namespace Go.Proofs.YtnemagmakgiheaaGreat.Wg
open Go.Proofs.YtnemagmakgiheaaGreat.Tre
open Go Go.RowKit Go.ChangeShapes Go.WideShapes Go.ChangeAt Sl Go.Proofs.YtnemagmakgiheaaGreat.Tre
/-! ### one value, one reading -/
theorem row_uniq {α:Type} {sz:Nat} {T T':List Value → α → Prop} {n n':Nat} {W:World} {v:Value} {l l':List α} (h:RowT sz T n W v l) (h':RowT sz T' n' W v l') (hT:∀ c x y,T c x → T' c y → x = y):l = l':=by
 rcases h with ⟨rfl,p,c,rfl⟩ | ⟨b,off,cap,rfl,h1,h2,h3,h4⟩
 ·rcases h' with ⟨rfl,_⟩ | ⟨b,off,cap,e,_⟩
  ·rfl
  ·cases hl:l' with
   | nil => rfl
   | cons x r => rw [hl] at e;simp at e
 ·rcases h' with ⟨rfl,p,c,e⟩ | ⟨b',off',cap',e,g1,g2,g3,g4⟩
  ·cases hl:l with
   | nil => rfl
   | cons x r => rw [hl] at e;simp at e
  ·simp only [Value.slice.injEq,Option.some.injEq,Addr.mk.injEq,and_true] at e
   obtain ⟨⟨rfl,rfl⟩,hlen,rfl⟩:=e
   refine List.ext_getElem hlen (fun j hj hj' => ?_)
   obtain ⟨c,hc,ht,hcell⟩:=h4 j _ (List.getElem?_eq_getElem hj)
   obtain ⟨c',hc',ht',hcell'⟩:=g4 j _ (List.getElem?_eq_getElem hj')
   have hcc:c = c':=List.ext_getElem (hc.trans hc'.symm) (fun i hi hi' => by
    have a:=hcell i _ (List.getElem?_eq_getElem hi)
    have a':=hcell' i _ (List.getElem?_eq_getElem hi')
    rw [a] at a'
    exact Option.some.inj a')
   subst hcc
   exact hT c _ _ ht ht'
theorem cpc_uniq {Q Q':Value → List Sel → Prop} (hQ:∀ v l l',Q v l → Q' v l' → l = l') {n n':Nat} {W:World} {cs:List Value} {c c':Cp} (h:CpC Q n W cs c) (h':CpC Q' n' W cs c'):c = c':=by
 obtain ⟨i,k,a,p,e,r1,r2,r3,r4⟩:=h
 obtain ⟨i',k',a',p',e',g1,g2,g3,g4⟩:=h'
 rw [e] at e'
 simp only [List.cons.injEq,Value.string.injEq,and_true] at e'
 obtain ⟨ht,rfl,rfl,rfl,rfl⟩:=e'
 have q1:=row_uniq r1 g1 (fun c x y hx hy => by
  rw [show c = _ from hx] at hy
  simpa [StrC] using hy)
 have q2:=row_uniq r2 g2 (fun c x y hx hy => by
  rw [show c = _ from hx] at hy
  simpa [StrC] using hy)
 have q3:=row_uniq r3 g3 (fun c x y hx hy => by
  rw [show c = _ from hx] at hy
  obtain ⟨x1,x2,x3⟩:=x
  obtain ⟨y1,y2,y3⟩:=y
  simpa [AtC] using hy)
 have q4:=row_uniq r4 g4 (fun c x y ⟨u,hu,hx⟩ ⟨u',hu',hy⟩ => by
  rw [hu] at hu'
  obtain ⟨x1,x2,x3,x4⟩:=x
  obtain ⟨y1,y2,y3,y4⟩:=y
  simp only [List.cons.injEq,Value.int.injEq,true_and,and_true,Ps.kind,Ps.a,Ps.b] at hu'
  obtain ⟨rfl,rfl,rfl,rfl⟩:=hu'
  rw [show x4 = y4 from hQ _ _ _ hx hy])
 obtain ⟨t1,t2,t3,t4,t5⟩:=c
 obtain ⟨u1,u2,u3,u4,u5⟩:=c'
 simp only [Cp.tag,Cp.ids,Cp.classes,Cp.attrs,Cp.pss] at ht q1 q2 q3 q4
 rw [ht,q1,q2,q3,q4]
theorem pts_uniq {Q Q':Value → List Sel → Prop} (hQ:∀ v l l',Q v l → Q' v l' → l = l') {n n':Nat} {W:World} {v:Value} {s s':Sel} (h:PtsR Q n W v s) (h':PtsR Q' n' W v s'):s = s':=
 row_uniq h h' (fun c x y ⟨u,hu,hx⟩ ⟨u',hu',hy⟩ => by
  rw [hu] at hu'
  simp only [List.cons.injEq,Value.int.injEq,true_and] at hu'
  obtain ⟨h1,rfl⟩:=hu'
  exact Prod.ext h1 (cpc_uniq hQ hx hy))
theorem sels_uniq:∀ (d:Nat) {n n':Nat} {W:World} (v:Value) (l l':List Sel),SelsR d n W v l → SelsR d n' W v l' → l = l'
 | 0,_,_,_,_,_,_,h,h' => h.1.trans h'.1.symm
 | d + 1,n,n',W,_,_,_,h,h' => row_uniq h h' (fun c x y ⟨u,hu,hx⟩ ⟨u',hu',hy⟩ => by
  rw [hu] at hu'
  simp only [List.cons.injEq,and_true] at hu'
  subst hu'
  exact pts_uniq (fun v l l' => sels_uniq d v l l') hx hy)
/-! ### numbers and lists in bounds, at every depth -/
def wfI (x:Int):Prop:=(Lit.int .i64 x).wf = true
def WD:Nat → List Sel → Prop
 | 0,_ => True
 | d + 1,l => l.length ≤ 8796093022208 ∧ ∀ s ∈ l,∀ p ∈ s,wfI p.1 ∧ CpOk p.2 ∧ ∀ q ∈ p.2.pss,(wfI q.kind ∧ wfI q.a ∧ wfI q.b) ∧ WD d q.list
def CW (d:Nat) (c:Cp):Prop:=CpOk c ∧ ∀ q ∈ c.pss,(wfI q.kind ∧ wfI q.a ∧ wfI q.b) ∧ WD d q.list
def SW (d:Nat) (s:Sel):Prop:=∀ p ∈ s,wfI p.1 ∧ CW d p.2
theorem bytes_sel:Tryz.prog.bytesOf 36 = 24:=by kernel_rfl
def SelsInW (d:Nat):Prop:=∀ {H:Type} {enc:TypeId × Value → H} {W:World} {base fuel:Nat} {v:Value} {x:DataW H × List MemPlace},DataW.trod enc Tryz.prog W base (fun _ => true) true fuel 28 [v] = some x → (∀ n ∈ x.1.weights Tryz.prog 28,n ≤ reachBytes) →
  ∃ l:List Sel,SelsR d W.heap.size W v l ∧ WD d l
theorem comp_inW (d:Nat) (HS:SelsInW d) {H:Type} {enc:TypeId × Value → H} {W:World} {base n:Nat} {cs:List Value} {y:DataW H × List MemPlace} (hy:DataW.trod enc Tryz.prog W base (fun _ => true) true n 45 cs = some y) (hwy:∀ m ∈ y.1.weights Tryz.prog 45,m ≤ reachBytes) :
  ∃ c:Cp,CpC (SelsR d W.heap.size W) W.heap.size W cs c ∧ CW d c:=by
 have:Inhabited Ps:=⟨.mk 0 0 0 []⟩
 obtain ⟨xs,n',_,rfl,hl,hxl,hf⟩:=DataW.trod_struct Tryz.underlying45 hy
 rw [cells_comp] at hl
 match cs,hl with
 | [c0,c1,c2,c3,c4],_ =>
  match xs,hxl with
  | [y0,y1,y2,y3,y4],_ =>
   have f0:=hf 0 _ rfl
   have f1:=hf 1 _ rfl
   have f2:=hf 2 _ rfl
   have f3:=hf 3 _ rfl
   have f4:=hf 4 _ rfl
   simp only [List.getElem?_cons_zero,List.getElem?_cons_succ] at f0 f1 f2 f3 f4
   obtain ⟨k0,g0,e0,_⟩:=DataW.trod_string Tryz.underlying9 f0
   simp only [DataW.weights,Tryz.underlying45] at hwy
   have f1':DataW.trod enc Tryz.prog W base (fun _ => true) true n' 42 [c1] = some y1:=f1
   have f2':DataW.trod enc Tryz.prog W base (fun _ => true) true n' 42 [c2] = some y2:=f2
   have f3':DataW.trod enc Tryz.prog W base (fun _ => true) true n' 43 [c3] = some y3:=f3
   have f4':DataW.trod enc Tryz.prog W base (fun _ => true) true n' 41 [c4] = some y4:=f4
   obtain ⟨l1,a1,b1⟩:=names_in f1' (fun m hm => hwy m (DataW.weights_mem_each (j:=1) rfl rfl m hm))
   obtain ⟨l2,a2,b2⟩:=names_in f2' (fun m hm => hwy m (DataW.weights_mem_each (j:=2) rfl rfl m hm))
   obtain ⟨l3,a3,b3⟩:=attrs_in f3' (fun m hm => hwy m (DataW.weights_mem_each (j:=3) rfl rfl m hm))
   obtain ⟨l4,a4,b4,_⟩:=row_in 4 (by decide) (PsC (SelsR d W.heap.size W)) (fun q => (wfI q.kind ∧ wfI q.a ∧ wfI q.b) ∧ WD d q.list) Tryz.underlying41 cells_ps f4' (fun m hm => hwy m (DataW.weights_mem_each (j:=4) rfl rfl m hm)) (fun n cs y hy hwy hl => by
    obtain ⟨xs,n',_,rfl,_,hxl,hf⟩:=DataW.trod_struct Tryz.underlying40 hy
    match cs,hl with
    | [p0,p1,p2,p3],_ =>
     match xs,hxl with
     | [z0,z1,z2,z3],_ =>
      have f0:=hf 0 _ rfl
      have f1:=hf 1 _ rfl
      have f2:=hf 2 _ rfl
      have f3:=hf 3 _ rfl
      simp only [List.getElem?_cons_zero,List.getElem?_cons_succ] at f0 f1 f2 f3
      obtain ⟨k0,g0,_,w0⟩:=DataW.trod_int Tryz.underlying3 f0
      obtain ⟨k1,g1,_,w1⟩:=DataW.trod_int Tryz.underlying3 f1
      obtain ⟨k2,g2,_,w2⟩:=DataW.trod_int Tryz.underlying3 f2
      have f3':DataW.trod enc Tryz.prog W base (fun _ => true) true n' 28 [p3] = some z3:=f3
      simp only [DataW.weights,Tryz.underlying40] at hwy
      obtain ⟨ls,h1,h2⟩:=HS f3' (fun m hm => hwy m (DataW.weights_mem_each (j:=3) rfl rfl m hm))
      cases g0
      cases g1
      cases g2
      exact ⟨.mk k0 k1 k2 ls,⟨p3,rfl,h1⟩,⟨w0,w1,w2⟩,h2⟩)
   cases g0
   refine ⟨.mk k0 l1 l2 l3 l4,⟨c1,c2,c3,c4,rfl,a1,a2,a3,a4⟩,⟨short_lit (H:=H) (fun m hm => hwy m (DataW.weights_mem_each (j:=0) rfl rfl m ?_)),b1,b2,b3⟩,b4⟩
   rw [e0];exact hm
theorem part_inW (d:Nat) (HS:SelsInW d) {H:Type} {enc:TypeId × Value → H} {W:World} {base n:Nat} {v:Value} {y:DataW H × List MemPlace} (hy:DataW.trod enc Tryz.prog W base (fun _ => true) true n 34 [v] = some y) (hwy:∀ m ∈ y.1.weights Tryz.prog 34,m ≤ reachBytes) :
  ∃ s:Sel,PtsR (SelsR d W.heap.size W) W.heap.size W v s ∧ SW d s:=by
 have:Inhabited Pt:=⟨(0,.mk ⟨#[]⟩ [] [] [] [])⟩
 obtain ⟨ps,g1,g2,_⟩:=row_in 6 (by decide) (PtC (SelsR d W.heap.size W) W.heap.size W) (fun p:Pt => wfI p.1 ∧ CW d p.2) Tryz.underlying34 cells_part hy hwy (fun n cs y hy hwy hl => by
  obtain ⟨xs,n',_,rfl,_,hxl,hf⟩:=DataW.trod_struct Tryz.underlying48 hy
  match cs,hl with
  | [c0,c1,c2,c3,c4,c5],_ =>
   match xs,hxl with
   | [y0,y1],_ =>
    have f0:=hf 0 _ rfl
    have f1:=hf 1 _ rfl
    simp only [List.getElem?_cons_zero,List.getElem?_cons_succ] at f0 f1
    obtain ⟨k0,g0,_,w0⟩:=DataW.trod_int Tryz.underlying3 f0
    have f1':DataW.trod enc Tryz.prog W base (fun _ => true) true n' 45 [c1,c2,c3,c4,c5] = some y1:=f1
    simp only [DataW.weights,Tryz.underlying48] at hwy
    obtain ⟨c,h1,h2⟩:=comp_inW d HS f1' (fun m hm => hwy m (DataW.weights_mem_each (j:=1) rfl rfl m hm))
    cases g0
    exact ⟨(k0,c),⟨_,rfl,h1⟩,w0,h2⟩)
 exact ⟨ps,g1,g2⟩
theorem sels_inW (d:Nat):SelsInW d:=by
 induction d with
 | zero =>
  intro H enc W base fuel v x h hw
  rcases Deep.open_slice Tryz.underlying28 h with ⟨hcs,_⟩ | ⟨x,len,cap,m,n,D,Pl,hcs,_⟩
  ·cases hcs
   exact ⟨[],⟨rfl,_,_,_,rfl⟩,by unfold WD;trivial⟩
  ·cases hcs
   exact ⟨[],⟨rfl,_,_,_,rfl⟩,by unfold WD;trivial⟩
 | succ d ih =>
  intro H enc W base fuel v x h hw
  have:Inhabited Sel:=⟨[]⟩
  obtain ⟨l,h1,h2,h3⟩:=row_in 1 (by decide) (fun c s => ∃ x,c = [x] ∧ PtsR (SelsR d W.heap.size W) W.heap.size W x s) (SW d) Tryz.underlying28 cells_sel h hw (fun n cs y hy hwy hl => by
   obtain ⟨xs,n',_,rfl,_,hxl,hf⟩:=DataW.trod_struct Tryz.underlying36 hy
   match cs,hl with
   | [c0],_ =>
    match xs,hxl with
    | [y0],_ =>
     have f0:=hf 0 _ rfl
     simp only [List.getElem?_cons_zero] at f0
     have f0':DataW.trod enc Tryz.prog W base (fun _ => true) true n' 34 [c0] = some y0:=f0
     simp only [DataW.weights,Tryz.underlying36] at hwy
     obtain ⟨ps,g1,g2⟩:=part_inW d ih f0' (fun m hm => hwy m (DataW.weights_mem_each (j:=0) rfl rfl m hm))
     exact ⟨ps,⟨c0,rfl,g1⟩,g2⟩)
  rw [bytes_sel] at h3
  unfold reachBytes at h3
  refine ⟨l,h1,?_⟩
  unfold WD
  exact ⟨by omega,fun s hs p hp => ⟨(h2 s hs p hp).1,(h2 s hs p hp).2.1,(h2 s hs p hp).2.2⟩⟩
/-! ### one selector, one compound -/
end Go.Proofs.YtnemagmakgiheaaGreat.Wg
namespace Go.Proofs.YtnemagmakgiheaaGreat.Mt
open Go.Proofs.YtnemagmakgiheaaGreat.Tre
open Go Go.RowKit Dm Go.Proofs.YtnemagmakgiheaaGreat.Wg
/-! ### where Dear says no the reading is whole -/
theorem i64_of {x:Int} (h:wfI x):i64 x:=by
 have hm:IntKind.i64.min = -9223372036854775808:=rfl
 unfold wfI at h
 simp [Lit.wf] at h
 unfold i64
 constructor <;> omega
theorem row_cv {α:Type} {sz:Nat} {T T':List Value → α → Prop} {n:Nat} {W:World} {v:Value} {l:List α} (h:Wg.RowT sz T n W v l) (hT:∀ c x,x ∈ l → T c x → T' c x):RowT sz T' n W v l:=by
 rcases h with h | ⟨b,off,cap,rfl,h1,h2,h3,h4⟩
 ·exact .inl h
 ·refine .inr ⟨b,off,cap,rfl,h1,h2,h3,fun j x hx => ?_⟩
  obtain ⟨c,hc,ht,hcell⟩:=h4 j x hx
  exact ⟨c,hc,hT _ _ (List.mem_of_getElem? hx) ht,hcell⟩
theorem slr_of {α:Type} {sz:Nat} {f:α → List Value} {T:List Value → α → Prop} {n:Nat} {W:World} {v:Value} {l:List α} (h:Wg.RowT sz T n W v l) (hT:∀ c x,T c x → c = f x):SlR sz f n W v l:=by
 rcases h with h | ⟨b,off,cap,rfl,h1,h2,h3,h4⟩
 ·exact .inl h
 ·refine .inr ⟨b,off,cap,rfl,h1,h2,h3,fun j x hx i u hu => ?_⟩
  obtain ⟨c,hc,ht,hcell⟩:=h4 j x hx
  rw [← hT c x ht] at hu
  exact hcell i u hu
theorem cpt_of {d n:Nat} {W:World} (HS:∀ v l,SelsR d n W v l → FewD d l → WD d l → SelsAt d n W v l) {cs:List Value} {c:Cp} (h:CpC (SelsR d n W) n W cs c) (hf:FewQ d c) (hw:CW d c):CpT (SelsAt d n W) n W cs c:=by
 obtain ⟨i,k,a,p,rfl,r1,r2,r3,r4⟩:=h
 refine ⟨i,k,a,p,rfl,slr_of r1 (fun _ _ h => h),slr_of r2 (fun _ _ h => h),slr_of r3 (fun _ _ h => h),row_cv r4 (fun cs q hq ⟨x,e,hx⟩ => ?_),by have:=hf.1.2.2.2;omega,fun _ _ => trivial⟩
 obtain ⟨⟨w0,w1,w2⟩,w3⟩:=hw.2 q hq
 have hfd:=hf.2 q hq
 refine ⟨x,e,HS _ _ hx hfd w3,i64_of w0,i64_of w1,i64_of w2,?_⟩
 cases d with
 | zero => exact absurd hfd (by simp [FewD])
 | succ d => unfold WD at w3;exact w3.1
theorem pts_of {d n:Nat} {W:World} (HS:∀ v l,SelsR d n W v l → FewD d l → WD d l → SelsAt d n W v l) {v:Value} {s:Sel} (h:PtsR (SelsR d n W) n W v s) (hf:FewT d s) (hw:SW d s):PtsT (SelsAt d n W) n W v s:=
 row_cv h (fun _ p hp ⟨c',e,hc⟩ => ⟨c',e,cpt_of HS hc (hf.2 p hp) (hw p hp).2,i64_of (hw p hp).1⟩)
theorem sels_of:∀ (d:Nat) {n:Nat} {W:World} (v:Value) (l:List Sel),SelsR d n W v l → FewD d l → WD d l → SelsAt d n W v l
 | 0,_,_,_,_,_,hf,_ => absurd hf (by simp [FewD])
 | d + 1,n,W,_,l,h,hf,hw => by
  unfold FewD at hf
  unfold WD at hw
  exact row_cv h (fun _ s hs ⟨x,e,hx⟩ => ⟨x,e,pts_of (sels_of d) hx ⟨(hf s hs).1,fun p hp => ⟨((hf s hs).2 p hp).1,((hf s hs).2 p hp).2⟩⟩ (fun p hp => ⟨(hw.2 s hs p hp).1,(hw.2 s hs p hp).2.1,(hw.2 s hs p hp).2.2⟩)⟩)
theorem parts_of {d n:Nat} {W:World} {v:Value} {s:Sel} (h:PartsR d n W v s) (hf:FewT d s) (hw:SW d s):PartsAt d n W v s:=pts_of (sels_of d) h hf hw
theorem comp_of {d n:Nat} {W:World} {cs:List Value} {c:Cp} (h:CpC (SelsR d n W) n W cs c) (hf:FewQ d c) (hw:CW d c):CpT (SelsAt d n W) n W cs c:=cpt_of (sels_of d) h hf hw
theorem handed_cond_shaped {H:Type} {enc:TypeId × Value → H} {a:Assume} {C:Checked} {os:Os} {f:FuncId} {fn:Func} {s:OpenSpec} {k:(H:Type) → List (DataW H) → Bool} (hk:s.cond = some k) {F:Stop.Interp} {conds:List PathCond} {apart fresh handsOn again:Bool}
  (own:ownKnob C.prog.godebug = none) (started:os.Started) (noInit:C.prog.inits.idxOf? f = none) (hfn:C.prog.funcs[f]? = some fn)
  (witness:∃ (w:World) (tape:Tape) (i:Input),w.os = os ∧ (w.forCall tape i).Shaped C.prog ∧ i.vars = [] ∧ Input.okWide C.prog (w.forCall tape i) .any w.heap.size f i ∧
   s.pre6 enc C.prog fn conds apart (w.forCall tape i).memory i.args ∧ a.holds C.prog (lone (Frame.enter C.prog f i.args .normal) [] (w.forCall tape i)))
  (contract:∀ (W:World) (base:Nat) (args:Array Value) (ds gs:List (DataW H)) (before:List MemPlace),
   (∀ (j:Nat) t v,fn.params[j]? = some t → args[j]? = some v → Value.okWide C.prog W .any base t v) →
   DataW.Whole enc C.prog fn.params.toList s.vars apart W args.toList ds gs before →
   k H (ds ++ gs) = true →
   (DataW.weightsEach C.prog (fn.params.toList ++ s.bare.plain.varTypes C.prog) (ds ++ gs)).all (· ≤ reachBytes) = true →
   W.ShapedOpen C.prog →
   Calls C.prog f args W fun e W' => ∃ v,e = .returned v ∧ (s.at F).post enc C.prog fn apart fresh handsOn again W args v W') :
  ReturnsInHanded a C os f .any (s.pre6 enc C.prog fn conds apart) ((s.at F).post enc C.prog fn apart fresh handsOn again):=by
 refine returnsInHanded_of_calls own started noInit witness ?_
 intro w tape i _ hsh _ hok hpre _
 obtain ⟨_,_,_,fn2,hfn2,_,_,_,_,hval⟩:=hok
 obtain rfl:fn2 = fn:=Option.some.inj (hfn2.symm.trans hfn)
 obtain ⟨ds,gs,before,hw,_,hkk⟩:=(OpenSpec.pre_some hk conds apart _ _).1 hpre.1
 refine (contract (w.forCall tape i) w.heap.size i.args ds gs before hval (DataW.Whole.of_heap (w':=w.forCall tape i) (by rfl) hw) hkk (hpre.2.weights hw) hsh).mono ?_
 rintro e W' ⟨v,rfl,hp⟩
 exact ChangeSpec.post_blind hp
end Go.Proofs.YtnemagmakgiheaaGreat.Mt
