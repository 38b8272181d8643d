/- Rows of things that a call owns: append(dst, src...). -/
import Derived.Test.YtnemagmakgiheaaGreatWgMem
import Derived.Laws.OwnMore
namespace Go.Proofs.YtnemagmakgiheaaGreat.Wg
open Go.Proofs.YtnemagmakgiheaaGreat.Tre
open Go Go.RowKit Sl
def OwnT {α:Type} (base:Nat) (e:TypeId) (sz:Nat) (T:List Value → α → Prop) (W:World) (v:Value) (l:List α):Prop:=
 ∃ css:List (List Value),W.ownsRow base e sz v l.length css.flatten ∧ css.length = l.length ∧ (∀ c ∈ css,c.length = sz) ∧ ∀ (j:Nat) (x:α),l[j]? = some x → ∃ c,css[j]? = some c ∧ T c x
theorem OwnT.nil {α:Type} (base:Nat) (e:TypeId) (sz:Nat) (T:List Value → α → Prop) (W:World):OwnT base e sz T W (.slice none 0 0) ([]:List α):=
 ⟨[],World.ownsRow_nil _ _ _ _,rfl,fun _ h => (by cases h),fun j x h => by simp at h⟩
theorem OwnT.form {α:Type} {base:Nat} {e:TypeId} {sz:Nat} {T:List Value → α → Prop} {W:World} {v:Value} {l:List α} (h:OwnT base e sz T W v l):∃ q c,v = .slice q l.length c:=by
 obtain ⟨_,h,_⟩:=h
 exact owns_form h
theorem OwnT.lt {α:Type} {base:Nat} {e:TypeId} {sz:Nat} {T:List Value → α → Prop} {W:World} {v:Value} {l:List α} (h:OwnT base e sz T W v l) {g:Nat} (hg:v.ownBlock = some g):base ≤ g ∧ g < W.heap.size:=by
 obtain ⟨_,h,_⟩:=h
 exact owns_lt h hg
theorem OwnT.same {α:Type} {base:Nat} {e:TypeId} {sz:Nat} {T T':List Value → α → Prop} {W W':World} {v:Value} {l:List α} (h:OwnT base e sz T W v l) (hs:∀ g,v.ownBlock = some g → W'.heap[g]? = W.heap[g]?) (hT:∀ c x,T c x → T' c x):OwnT base e sz T' W' v l:=by
 obtain ⟨css,h1,h2,h3,h4⟩:=h
 exact ⟨css,owns_same h1 hs,h2,h3,fun j x hx => let ⟨c,hc,ht⟩:=h4 j x hx;⟨c,hc,hT _ _ ht⟩⟩
theorem OwnT.next {α:Type} {base:Nat} {e:TypeId} {sz:Nat} {T:List Value → α → Prop} {W W':World} {v:Value} {l:List α} (h:OwnT base e sz T W v l) (hb:Below W.heap.size W W'):OwnT base e sz T W' v l:=
 h.same (fun g hg => hb.block g (h.lt hg).2) (fun _ _ h => h)
theorem OwnT.row {α:Type} {base:Nat} {e:TypeId} {sz:Nat} (_hz:0 < sz) {T:List Value → α → Prop} {W:World} {v:Value} {l:List α} (h:OwnT base e sz T W v l):RowT sz T W.heap.size W v l:=by
 obtain ⟨css,h1,h2,h3,h4⟩:=h
 rcases h1.2 with ⟨rfl,hn⟩ | ⟨g,cap,cur,rfl,hg,hb,hn,hm,hs,ht⟩
 ·exact .inl ⟨List.eq_nil_of_length_eq_zero hn,_,_,rfl⟩
 ·refine .inr ⟨g,0,cap,rfl,hn,hm,(Array.getElem?_eq_some_iff.1 hb).1,fun j x hx => ?_⟩
  obtain ⟨c,hc,htc⟩:=h4 j x hx
  refine ⟨c,h3 c (List.mem_of_getElem? hc),htc,fun i u hu => ?_⟩
  have hi:i < sz:=by rw [← h3 c (List.mem_of_getElem? hc)];exact (List.getElem?_eq_some_iff.1 hu).1
  have:=flatten_at css j c h3 hc i hi
  have:=h1.cells (g:=g) rfl (j * sz + i) u (by rw [this];exact hu)
  rw [show (⟨g,0,none⟩:Addr).add (j * sz + i) = ⟨g,0 + j * sz + i,none⟩ by
   unfold Addr.add
   split
   ·simp_all
   ·simp] at this
  exact this
theorem row_cells {α:Type} {sz:Nat} {T:List Value → α → Prop} {W:World} {b:Nat}:∀ (l:List α) (off:Nat),(∀ (j:Nat) (x:α),l[j]? = some x → ∃ c,c.length = sz ∧ T c x ∧ ∀ i u,c[i]? = some u → W.cell? ⟨b,off + j * sz + i,none⟩ = some u) →
  ∃ css:List (List Value),css.length = l.length ∧ (∀ c ∈ css,c.length = sz) ∧ (∀ (j:Nat) (x:α),l[j]? = some x → ∃ c,css[j]? = some c ∧ T c x) ∧ (∀ c ∈ css,∃ x ∈ l,T c x) ∧ ∀ k u,css.flatten[k]? = some u → W.cell? ⟨b,off + k,none⟩ = some u
 | [],off,_ => ⟨[],rfl,fun _ h => (by cases h),fun j x h => (by simp at h),fun _ h => (by cases h),fun k u h => by simp at h⟩
 | a :: l,off,h => by
  obtain ⟨c,hc,ht,hcell⟩:=h 0 a rfl
  obtain ⟨css,h1,h2,h3,h5,h4⟩:=row_cells l (off + sz) (fun j x hx => by
   obtain ⟨c,hc,ht,hcell⟩:=h (j + 1) x (by simpa using hx)
   refine ⟨c,hc,ht,fun i u hu => ?_⟩
   have:=hcell i u hu
   rwa [show off + (j + 1) * sz + i = off + sz + j * sz + i by rw [Nat.add_mul];omega] at this)
  refine ⟨c :: css,by simp [h1],fun x hx => ?_,fun j x hx => ?_,fun x hx => ?_,fun k u hu => ?_⟩
  ·rcases List.mem_cons.1 hx with rfl | hx
   ·exact hc
   ·exact h2 x hx
  ·cases j with
   | zero =>
    obtain rfl:a = x:=by simpa using hx
    exact ⟨c,rfl,ht⟩
   | succ j => exact h3 j x (by simpa using hx)
  ·rcases List.mem_cons.1 hx with rfl | hx
   ·exact ⟨a,List.mem_cons_self ..,ht⟩
   ·obtain ⟨y,hy,hty⟩:=h5 x hx
    exact ⟨y,List.mem_cons_of_mem _ hy,hty⟩
  ·rw [List.flatten_cons] at hu
   by_cases hk:k < c.length
   ·rw [List.getElem?_append_left hk] at hu
    have:=hcell k u hu
    simpa using this
   ·rw [List.getElem?_append_right (by omega)] at hu
    have:=h4 _ u hu
    rwa [show off + sz + (k - c.length) = off + k by omega] at this
theorem flat_len {sz:Nat}:∀ (css:List (List Value)),(∀ c ∈ css,c.length = sz) → css.flatten.length = css.length * sz
 | [],_ => by simp
 | c :: css,h => by
  rw [List.flatten_cons,List.length_append,flat_len css (fun x hx => h x (List.mem_cons_of_mem _ hx)),h c (List.mem_cons_self ..),List.length_cons,Nat.add_mul]
  omega
theorem run_append_empty {P:Program} {w:World} (base:Nat) (t ty e:TypeId) (i:TypeInfo) (size:Nat) (ht:P.underlying t = some (.slice e)) (hi:P.info? e = some i)
  (v:Value) (n:Nat) (xs:List Value) (hown:w.ownsRow base e size v n xs) (p:Option Addr) (c:Nat) :
  (Builtin.append_ #[t,t] ty #[v,.slice p 0 c]).run P w = .ok v w:=by
 rcases hown.2 with ⟨rfl,rfl⟩ | ⟨g,cap,cur,rfl,_,_,hnc,_⟩
 ·cases p <;> simp [Builtin.append_,run_underlying ht,sizeOf,typeInfo,hi,Builtin.lenOf,Builtin.firstCells,loadCells,loadCellsFrom]
 ·cases p <;> simp [Builtin.append_,run_underlying ht,sizeOf,typeInfo,hi,Builtin.lenOf,Builtin.firstCells,hnc,storeCells,loadCells,loadCellsFrom]
theorem OwnT.app {α:Type} {P:Program} {base:Nat} {t e:TypeId} {i:TypeInfo} {z:Value} {sz bytes:Nat} (ht:P.underlying t = some (.slice e)) (hi:P.info? e = some i) (hz:i.zero = some z) (hsize:i.size = sz) (hby:i.bytes = bytes) (hzs:z.cells.size = sz) (hsz:0 < sz)
  {T:List Value → α → Prop} (h1:∀ c x,T c x → ∀ u ∈ c,u.oneCell' = true) {W:World} {v x:Value} {l m:List α} (h:OwnT base e sz T W v l) {n:Nat} (hx:RowT sz T n W x m) (hl:l.length + m.length ≤ maxLen) (hb:(l.length + m.length) * bytes ≤ 140737488355328) (hbase:base ≤ W.heap.size) :
  ∃ v' W',(Builtin.append_ #[t,t] t #[v,x]).run P W = .ok v' W' ∧ OwnT base e sz T W' v' (l ++ m) ∧ W.grownBy W' v.ownBlock ∧ (v'.ownBlock = v.ownBlock ∨ v'.ownBlock = some W.heap.size):=by
 rcases hx with ⟨rfl,p,c,rfl⟩ | ⟨b,off,cap,rfl,g1,g2,g3,g4⟩
 ·have hh:=h
  obtain ⟨css,h2,_⟩:=hh
  exact ⟨v,W,run_append_empty base t t e i sz ht hi v l.length _ h2 p c,by rw [List.append_nil];exact h,World.grownBy.refl _ _,.inl rfl⟩
 ·obtain ⟨css,h2,h3,h4,h5⟩:=h
  obtain ⟨dss,k1,k2,k3,k5,k4⟩:=row_cells m off g4
  obtain ⟨v',W',r1,r2,r3,_,r5⟩:=run_append_own_at (P:=P) W base t t e i z sz bytes ht hi hz hsize hby hzs hsz v l.length css.flatten h2 ⟨b,off,none⟩ m.length cap dss.flatten (by rw [flat_len dss k2,k1]) (fun j u hu => by
   have:=k4 j u hu
   rw [show (⟨b,off,none⟩:Addr).add j = ⟨b,off + j,none⟩ by
    unfold Addr.add
    split
    ·simp_all
    ·rfl]
   exact this) (fun u hu => by
    obtain ⟨c,hc,huc⟩:=List.mem_flatten.1 hu
    obtain ⟨y,_,hty⟩:=k5 c hc
    exact h1 c y hty u huc) hl hb hbase
  refine ⟨v',W',r1,⟨css ++ dss,by rw [List.flatten_append,List.length_append];exact r2,by rw [List.length_append,List.length_append,h3,k1],fun c hc => ?_,fun j y hj => ?_⟩,r3,r5⟩
  ·rcases List.mem_append.1 hc with hc | hc
   ·exact h4 c hc
   ·exact k2 c hc
  ·by_cases hlt:j < l.length
   ·rw [List.getElem?_append_left hlt] at hj
    obtain ⟨c,hc,htc⟩:=h5 j y hj
    exact ⟨c,by rw [List.getElem?_append_left (by omega)];exact hc,htc⟩
   ·rw [List.getElem?_append_right (by omega)] at hj
    obtain ⟨c,hc,htc⟩:=k3 _ y hj
    exact ⟨c,by rw [List.getElem?_append_right (by omega),h3];exact hc,htc⟩
theorem opw_app {P:Program} {Q:Exit → Act → World → Prop} {o:Oper} {a:Act} {w w':World} {K:Act → World → Prop} (s x:Operand) (t:TypeId)
  (ho:o.op = .call { callee:=.builtin .append,args:=#[s,x],argTypes:=#[t,t] }) {v xv v':Value} (hs:a.eval s = v) (hx:a.eval x = xv) (hrun:(Builtin.append_ #[t,t] o.type #[v,xv]).run P w = .ok v' w')
  (h:K (a.put o.dst v') w'):Oper.wp P o a w K Q:=by
 unfold Oper.wp
 simp [execOp,ho,resolve,invoke,builtin,hs,hx,hrun,Result.andThen]
 exact h
end Go.Proofs.YtnemagmakgiheaaGreat.Wg
