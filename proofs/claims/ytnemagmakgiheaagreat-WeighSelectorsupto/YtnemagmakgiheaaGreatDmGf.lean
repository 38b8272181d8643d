/- Trees of elements as plain lists: what package dom makes of nodes (chapter 9). -/
import Derived.Test.YtnemagmakgiheaaGreatDcLow
import Derived.OwnWalk
import Derived.Laws.Rows
import Derived.Laws.OwnMore
import Derived.Laws.MakeOwn
import Derived.Maps.AppendAt
import Derived.Deep.AppendLies
import Derived.Deep.QuietTactic
import Derived.Deep.RegionWith
import Derived.Deep.DeepCutAuto
import Derived.Deep.CutBlock
import Derived.Deep.RegionHeld
import Derived.Deep.RegionLaw
import Derived.BigQuiet
import Derived.Laws.IdiomStrings
namespace Go.Proofs.YtnemagmakgiheaaGreat.Dm
open Go
structure Nd where
 parent:Int
 tag:ByteArray
 id:ByteArray
 cls:List ByteArray
 ats:List (ByteArray × ByteArray)
def lowS (s:ByteArray):ByteArray:=⟨(Lw.low s.data.toList).toArray⟩
def lowA (a:ByteArray × ByteArray):ByteArray × ByteArray:=(lowS a.1,a.2)
def lowN (n:Nd):Nd:=⟨n.parent,lowS n.tag,n.id,n.cls,n.ats.map lowA⟩
theorem lowS_size (s:ByteArray):(lowS s).size = s.size:=by
 show ((Lw.low s.data.toList).toArray).size = s.data.size
 rw [List.size_toArray,Lw.low_length,Array.length_toList]
structure El where
 nd:Nd
 depth:Nat
 place:Nat
 ch:List Nat
def zeroNd:Nd:=⟨0,⟨#[]⟩,⟨#[]⟩,[],[]⟩
def zeroEl:El:=⟨zeroNd,0,0,[]⟩
def growV (es:List El) (p:Nat) (q:El) (c:Nat):List El:=es.set p { q with ch:=q.ch ++ [c] }
def addV (es:List El) (n:Nd):Except Int (List El):=
 if es.length = 0 then (if n.parent = -1 then .ok [⟨lowN n,0,1,[]⟩] else .error 10)
 else if 0 ≤ n.parent ∧ n.parent < es.length then
  (if (es.getD n.parent.toNat zeroEl).depth = 256 then .error 11
  else .ok (growV es n.parent.toNat (es.getD n.parent.toNat zeroEl) es.length ++ [⟨lowN n,(es.getD n.parent.toNat zeroEl).depth + 1,(es.getD n.parent.toNat zeroEl).ch.length + 1,[]⟩]))
 else .error 10
def newF:List El → List Nd → Except Int (List El)
 | es,[] => .ok es
 | es,n :: l => match addV es n with
  | .ok es' => newF es' l
  | .error x => .error x
def newV (l:List Nd):Except Int (List El):=if 4096 < l.length then .error 3 else newF [] l
/-! ### what trees keep -/
theorem growV_length (es:List El) (p:Nat) (q:El) (c:Nat):(growV es p q c).length = es.length:=by simp [growV]
theorem addV_length {es es':List El} {n:Nd} (h:addV es n = .ok es'):es'.length = es.length + 1:=by
 unfold addV at h
 split at h
 ·rename_i h0
  split at h
  ·cases h;simp [h0]
  ·cases h
 ·split at h
  ·split at h
   ·cases h
   ·cases h;simp [growV_length]
  ·cases h
theorem newF_length:∀ (l:List Nd) (es es':List El),newF es l = .ok es' → es'.length = es.length + l.length
 | [],es,es',h => by cases h;rfl
 | n :: l,es,es',h => by
  unfold newF at h
  cases ha:addV es n with
  | error x => rw [ha] at h;cases h
  | ok e2 =>
   rw [ha] at h
   have h1:=newF_length l e2 es' h
   have h2:=addV_length ha
   rw [h1,h2,List.length_cons]
   omega
end Go.Proofs.YtnemagmakgiheaaGreat.Dm
/- Trees of elements in memory: blocks of cells, rows of nodes, of strings, of pairs, of numbers; nodes that came in. -/
namespace Go.Proofs.YtnemagmakgiheaaGreat.Dm
open Go Go.RowKit
theorem cell_of_block {X:World} {g:Nat} {cur:Array Value} {t:TypeId} {fz:Nat × Nat} (h:X.heap[g]? = some (.cells cur t fz)) (j:Nat):X.cell? ⟨g,j,none⟩ = cur[j]?:=by simp [World.cell?,h]
theorem addr_add (bk off j:Nat):(⟨bk,off,none⟩:Addr).add j = ⟨bk,off + j,none⟩:=by
 unfold Addr.add
 split
 ·simp_all
 ·rfl
theorem below_drew {n₀:Nat} {a b:World} (h:Below n₀ a b):Below n₀ a b.drew:=⟨h.os,h.tape,h.output,h.size,h.block⟩
theorem below_drewN (w:World) (n:Nat):Below w.heap.size w (w.drewN n):=⟨rfl,rfl,rfl,Nat.le_refl _,fun _ _ => rfl⟩
theorem below_next {w W W':World} (h:Below w.heap.size w W) (hb:Below W.heap.size W W'):Below w.heap.size w W':=h.trans (hb.mono h.size)
theorem below_nextN {b:Nat} {w W W':World} (h:Below b w W) (hb:Below W.heap.size W W') (hn:b ≤ w.heap.size):Below b w W':=h.trans (hb.mono (Nat.le_trans hn h.size))
theorem below_drewN' {n:Nat} {a b:World} (h:Below n a b) (m:Nat):Below n a (b.drewN m):=⟨h.os,h.tape,h.output,h.size,h.block⟩
/-! ### blocks -/
def Blk (W:World) (B:Nat) (t:TypeId) (cs:List Value):Prop:=W.heap[B]? = some (.cells cs.toArray t (0,0))
theorem Blk.lt {W:World} {B:Nat} {t:TypeId} {cs:List Value} (h:Blk W B t cs):B < W.heap.size:=(Array.getElem?_eq_some_iff.1 h).1
theorem Blk.kept {W W':World} {row:Option Nat} {B:Nat} {t:TypeId} {cs:List Value} (h:Blk W B t cs) (hg:W.grownBy W' row) (hne:some B ≠ row):Blk W' B t cs:=(hg.block B h.lt hne).trans h
theorem Blk.below {W W':World} {n:Nat} {B:Nat} {t:TypeId} {cs:List Value} (h:Blk W B t cs) (hb:Below n W W') (hn:B < n):Blk W' B t cs:=(hb.block B hn).trans h
theorem Blk.next {W W':World} {B:Nat} {t:TypeId} {cs:List Value} (h:Blk W B t cs) (hb:Below W.heap.size W W'):Blk W' B t cs:=h.below hb h.lt
theorem Blk.new (w:World) (t:TypeId) (cs:List Value):Blk (w.alloc (.cells cs.toArray t)) w.heap.size t cs:=heap_alloc_new w _
theorem blk_drew {W:World} {B:Nat} {t:TypeId} {cs:List Value} (h:Blk W B t cs) (n:Nat):Blk (W.drewN n) B t cs:=h
theorem blk1 {W:World} {B:Nat} {t:TypeId} {a:Value} (h:Blk W B t [a]):W.cell? ⟨B,0,none⟩ = some a ∧ W.frozen? ⟨B,0,none⟩ = false:=by
 simp [World.cell?,World.frozen?,show W.heap[B]? = _ from h]
theorem blk2 {W:World} {B:Nat} {t:TypeId} {a b:Value} (h:Blk W B t [a,b]):(W.cell? ⟨B,0,none⟩ = some a ∧ W.cell? ⟨B,1,none⟩ = some b) ∧ W.frozen? ⟨B,0,none⟩ = false ∧ W.frozen? ⟨B,1,none⟩ = false:=by
 simp [World.cell?,World.frozen?,show W.heap[B]? = _ from h]
theorem blk5 {W:World} {B:Nat} {t:TypeId} {a b c d e:Value} (h:Blk W B t [a,b,c,d,e]):(W.cell? ⟨B,0,none⟩ = some a ∧ W.cell? ⟨B,1,none⟩ = some b ∧ W.cell? ⟨B,2,none⟩ = some c ∧ W.cell? ⟨B,3,none⟩ = some d ∧ W.cell? ⟨B,4,none⟩ = some e) ∧ W.frozen? ⟨B,0,none⟩ = false ∧ W.frozen? ⟨B,1,none⟩ = false ∧ W.frozen? ⟨B,2,none⟩ = false ∧ W.frozen? ⟨B,3,none⟩ = false ∧ W.frozen? ⟨B,4,none⟩ = false:=by
 simp [World.cell?,World.frozen?,show W.heap[B]? = _ from h]
theorem blk_put {W:World} {B:Nat} {t:TypeId} {cs:List Value} (h:Blk W B t cs) (i:Nat) (u:Value):Blk (W.setCell ⟨B,i,none⟩ u) B t (cs.set i u):=by
 unfold Blk at h ⊢
 simp [World.setCell,Array.getElem?_modify,h]
theorem grown_set (W:World) (b i:Nat) (v:Value):W.grownBy (W.setCell ⟨b,i,none⟩ v) (some b):=
 ⟨rfl,rfl,rfl,by simp [World.setCell],fun i _ hne => Below.heap_setCell _ _ _ _ (fun e => hne (by rw [e]))⟩
theorem below_grown {n:Nat} {w X Y:World} {B:Nat} (h:Below n w X) (hg:X.grownBy Y (some B)) (hn:n ≤ X.heap.size) (hB:n ≤ B):Below n w Y:=h.grown hg hn (fun r e => by cases e;exact hB)
theorem cells_plain (w:World) (l:List Value) (ty:TypeId):∀ j u,l[j]? = some u → (w.alloc (.cells l.toArray ty)).cell? ((⟨w.heap.size,0,none⟩:Addr).add j) = some u:=fun j u hj => by
 rw [addr_add,Nat.zero_add,cell_of_block (heap_alloc_new w _) j]
 simpa using hj
def set5 (W:World) (B:Nat) (a b c d e:Value):World:=((((W.setCell ⟨B,0,none⟩ a).setCell ⟨B,1,none⟩ b).setCell ⟨B,2,none⟩ c).setCell ⟨B,3,none⟩ d).setCell ⟨B,4,none⟩ e
theorem blk_set5 {W:World} {B:Nat} {t:TypeId} {a b c d e:Value} (h:Blk W B t [a,b,c,d,e]) (a' b' c' d' e':Value):Blk (set5 W B a' b' c' d' e') B t [a',b',c',d',e']:=by
 unfold Blk at h ⊢
 simp [set5,World.setCell,Array.getElem?_modify,h]
theorem grown_set5 (W:World) (B:Nat) (a b c d e:Value):W.grownBy (set5 W B a b c d e) (some B):=
 ((((grown_set _ _ _ _).trans (grown_set _ _ _ _)).trans (grown_set _ _ _ _)).trans (grown_set _ _ _ _)).trans (grown_set _ _ _ _)
/-! ### what is left alone -/
structure Kept (keep:Nat → Prop) (w w':World):Prop where
 os:w'.os = w.os
 tape:w'.tape = w.tape
 output:w'.output = w.output
 size:w.heap.size ≤ w'.heap.size
 block:∀ k,k < w.heap.size → keep k → w'.heap[k]? = w.heap[k]?
theorem Kept.refl (keep:Nat → Prop) (w:World):Kept keep w w:=⟨rfl,rfl,rfl,Nat.le_refl _,fun _ _ _ => rfl⟩
theorem Kept.trans {keep:Nat → Prop} {a b c:World} (h:Kept keep a b) (k:Kept keep b c):Kept keep a c:=
 ⟨k.os.trans h.os,k.tape.trans h.tape,k.output.trans h.output,Nat.le_trans h.size k.size,fun i hi hk => (k.block i (Nat.lt_of_lt_of_le hi h.size) hk).trans (h.block i hi hk)⟩
theorem Kept.mono {keep keep':Nat → Prop} {w w':World} (h:Kept keep w w') (hk:∀ k,k < w.heap.size → keep' k → keep k):Kept keep' w w':=⟨h.os,h.tape,h.output,h.size,fun i hi hi' => h.block i hi (hk i hi hi')⟩
theorem Kept.of_below {keep:Nat → Prop} {w w':World} (h:Below w.heap.size w w'):Kept keep w w':=⟨h.os,h.tape,h.output,h.size,fun i hi _ => h.block i hi⟩
theorem Kept.of_grown {keep:Nat → Prop} {w w':World} {row:Option Nat} (h:w.grownBy w' row) (hr:∀ k,row = some k → ¬ keep k):Kept keep w w':=
 ⟨h.os,h.tape,h.output,h.size,fun i hi hk => h.block i hi (fun e => hr i e.symm hk)⟩
theorem Kept.below {keep:Nat → Prop} {w w':World} (h:Kept keep w w') {B:Nat} (hB:B ≤ w.heap.size) (hk:∀ k,k < B → keep k):Below B w w':=
 ⟨h.os,h.tape,h.output,h.size,fun i hi => h.block i (by omega) (hk i hi)⟩
theorem Kept.blk {keep:Nat → Prop} {W W':World} (h:Kept keep W W') {B:Nat} {t:TypeId} {cs:List Value} (k:Blk W B t cs) (hB:keep B):Blk W' B t cs:=(h.block B k.lt hB).trans k
/-! ### rows that are owned -/
theorem owns_same {W W':World} {b:Nat} {e:TypeId} {s:Nat} {v:Value} {n:Nat} {xs:List Value} (h:W.ownsRow b e s v n xs) (hs:∀ g,v.ownBlock = some g → W'.heap[g]? = W.heap[g]?):W'.ownsRow b e s v n xs:=by
 refine ⟨h.1,?_⟩
 rcases h.2 with h | ⟨g,cap,cur,rfl,h1,h2,h3⟩
 ·exact .inl h
 ·exact .inr ⟨g,cap,cur,rfl,h1,(hs g rfl).trans h2,h3⟩
theorem owns_lt {W:World} {b:Nat} {e:TypeId} {s:Nat} {v:Value} {n:Nat} {xs:List Value} (h:W.ownsRow b e s v n xs) {g:Nat} (hg:v.ownBlock = some g):b ≤ g ∧ g < W.heap.size:=h.lt g hg
theorem owns_form {X:World} {b:Nat} {e:TypeId} {size:Nat} {v:Value} {m:Nat} {xs:List Value} (h:X.ownsRow b e size v m xs):∃ q c,v = .slice q m c:=by
 rcases h.2 with ⟨rfl,h0⟩ | ⟨g,cap,cur,rfl,_⟩
 ·exact ⟨none,0,by rw [h0]⟩
 ·exact ⟨_,_,rfl⟩
theorem owns_base {X:World} {b b':Nat} {e:TypeId} {size:Nat} {v:Value} {m:Nat} {xs:List Value} (h:X.ownsRow b e size v m xs) (hb:b' ≤ b):X.ownsRow b' e size v m xs:=by
 refine ⟨h.1,?_⟩
 rcases h.2 with h | ⟨g,cap,cur,rfl,h1,h2⟩
 ·exact .inl h
 ·exact .inr ⟨g,cap,cur,rfl,Nat.le_trans hb h1,h2⟩
theorem owns_next {X Y:World} {b:Nat} {e:TypeId} {size:Nat} {v:Value} {m:Nat} {xs:List Value} (h:X.ownsRow b e size v m xs) (hb:Below X.heap.size X Y):Y.ownsRow b e size v m xs:=owns_same h (fun g hg => hb.block g (owns_lt h hg).2)
theorem rows_apart {W:World} {b b':Nat} {e e':TypeId} (hne:e ≠ e') {s s':Nat} {v v':Value} {n n':Nat} {xs xs':List Value} (h:W.ownsRow b e s v n xs) (h':W.ownsRow b' e' s' v' n' xs'):v.ownBlock = none ∨ v.ownBlock ≠ v'.ownBlock:=by
 rcases h.2 with ⟨rfl,_⟩ | ⟨g,cap,cur,rfl,_,hb,_⟩
 ·exact .inl rfl
 ·right
  rcases h'.2 with ⟨rfl,_⟩ | ⟨g',cap',cur',rfl,_,hb',_⟩
  ·simp [Value.ownBlock]
  ·intro e2
   simp [Value.ownBlock] at e2
   subst e2
   rw [hb] at hb'
   injection hb' with hb'
   injection hb' with _ h2
   exact hne h2
theorem row_blk {W:World} {b:Nat} {e t:TypeId} (hne:e ≠ t) {s:Nat} {v:Value} {n:Nat} {xs cs:List Value} {B:Nat} (h:W.ownsRow b e s v n xs) (k:Blk W B t cs):v.ownBlock ≠ some B:=by
 rcases h.2 with ⟨rfl,_⟩ | ⟨g,cap,cur,rfl,_,hb,_⟩
 ·simp [Value.ownBlock]
 ·intro e2
  simp [Value.ownBlock] at e2
  subst e2
  rw [show W.heap[g]? = _ from k] at hb
  injection hb with hb
  injection hb with _ h2
  exact hne h2.symm
theorem grown_of_below {w w':World} (h:Below w.heap.size w w') (row:Option Nat):w.grownBy w' row:=⟨h.os,h.tape,h.output,h.size,fun i hi _ => h.block i hi⟩
/-! ### cells of things of one size -/
theorem flat_length {α:Type} {sz:Nat} {f:α → List Value} (hf:∀ x,(f x).length = sz):∀ l:List α,(l.flatMap f).length = l.length * sz
 | [] => by simp
 | x :: l => by rw [List.flatMap_cons,List.length_append,hf,flat_length hf l,List.length_cons,Nat.add_mul,Nat.one_mul,Nat.add_comm]
theorem flat_at {α:Type} {sz:Nat} {f:α → List Value} (hf:∀ x,(f x).length = sz):∀ (l:List α) (j:Nat) (x:α),l[j]? = some x → ∀ i,i < sz → (l.flatMap f)[j * sz + i]? = (f x)[i]?
 | [],j,x,h => by simp at h
 | y :: l,0,x,h => by
  intro i hi
  obtain rfl:y = x:=by simpa using h
  rw [List.flatMap_cons,Nat.zero_mul,Nat.zero_add,List.getElem?_append_left (by rw [hf];exact hi)]
 | y :: l,j + 1,x,h => by
  intro i hi
  have ih:=flat_at hf l j x (by simpa using h) i hi
  have e:(j + 1) * sz = sz + j * sz:=by rw [Nat.add_mul,Nat.one_mul,Nat.add_comm]
  rw [List.flatMap_cons,List.getElem?_append_right (by rw [hf,e];omega),← ih]
  congr 1
  rw [hf,e]
  omega
theorem flat_set {α:Type} {sz:Nat} {f:α → List Value} (hf:∀ x,(f x).length = sz):∀ (l:List α) (j:Nat) (x x':α) (i:Nat) (u:Value),l[j]? = some x → i < sz → f x' = (f x).set i u → (l.flatMap f).set (j * sz + i) u = (l.set j x').flatMap f
 | [],j,x,x',i,u,h,_,_ => by simp at h
 | y :: l,0,x,x',i,u,h,hi,hx => by
  obtain rfl:y = x:=by simpa using h
  rw [List.flatMap_cons,Nat.zero_mul,Nat.zero_add,List.set_append_left _ _ (by rw [hf];exact hi),List.set_cons_zero,List.flatMap_cons,hx]
 | y :: l,j + 1,x,x',i,u,h,hi,hx => by
  have ih:=flat_set hf l j x x' i u (by simpa using h) hi hx
  have e:(j + 1) * sz = sz + j * sz:=by rw [Nat.add_mul,Nat.one_mul,Nat.add_comm]
  rw [List.flatMap_cons,List.set_append_right _ _ (by rw [hf,e];omega),List.set_cons_succ,List.flatMap_cons,← ih,hf]
  congr 2
  rw [e]
  omega
/-! ### rows of strings, of pairs, of numbers -/
def paCells (a:ByteArray × ByteArray):List Value:=[.string a.1,.string a.2]
def StrRow (b:Nat) (W:World) (v:Value) (l:List ByteArray):Prop:=W.ownsRow b 9 1 v l.length (l.map Value.string)
def PairRow (b:Nat) (W:World) (v:Value) (l:List (ByteArray × ByteArray)):Prop:=W.ownsRow b 100 2 v l.length (l.flatMap paCells)
def IntRow (b:Nat) (W:World) (v:Value) (l:List Int):Prop:=W.ownsRow b 3 1 v l.length (l.map (Value.int .i64))
theorem StrRow.next {b:Nat} {X Y:World} {v:Value} {l:List ByteArray} (h:StrRow b X v l) (hb:Below X.heap.size X Y):StrRow b Y v l:=owns_next h hb
theorem PairRow.next {b:Nat} {X Y:World} {v:Value} {l:List (ByteArray × ByteArray)} (h:PairRow b X v l) (hb:Below X.heap.size X Y):PairRow b Y v l:=owns_next h hb
theorem IntRow.next {b:Nat} {X Y:World} {v:Value} {l:List Int} (h:IntRow b X v l) (hb:Below X.heap.size X Y):IntRow b Y v l:=owns_next h hb
/-! ### slices that are read -/
def SlAt {α:Type} (sz:Nat) (f:α → List Value) (n₀:Nat) (W:World) (v:Value) (l:List α):Prop:=
 (l = [] ∧ (v = .slice none 0 0 ∨ ∃ x cap,v = .slice (some x) 0 cap ∧ cap ≤ maxLen)) ∨ ∃ bk off cap,v = .slice (some ⟨bk,off,none⟩) l.length cap ∧ l.length ≤ cap ∧ cap ≤ maxLen ∧ bk < n₀ ∧ ∀ j x,l[j]? = some x → ∀ i u,(f x)[i]? = some u → W.cell? ⟨bk,off + j * sz + i,none⟩ = some u
theorem SlAt.below {α:Type} {sz:Nat} {f:α → List Value} {n₀:Nat} {X Y:World} {v:Value} {l:List α} (h:SlAt sz f n₀ X v l) (hb:Below n₀ X Y):SlAt sz f n₀ Y v l:=by
 rcases h with h | ⟨bk,off,cap,rfl,h1,h2,hbk,h⟩
 ·exact .inl h
 ·exact .inr ⟨bk,off,cap,rfl,h1,h2,hbk,fun j t hj i u hu => (hb.cell (p:=⟨bk,_,none⟩) hbk).trans (h j t hj i u hu)⟩
theorem SlAt.mono {α:Type} {sz:Nat} {f:α → List Value} {n₀ n₁:Nat} {X:World} {v:Value} {l:List α} (h:SlAt sz f n₀ X v l) (hn:n₀ ≤ n₁):SlAt sz f n₁ X v l:=by
 rcases h with h | ⟨bk,off,cap,rfl,h1,h2,hbk,h⟩
 ·exact .inl h
 ·exact .inr ⟨bk,off,cap,rfl,h1,h2,by omega,h⟩
theorem SlAt.next {α:Type} {sz:Nat} {f:α → List Value} {X Y:World} {v:Value} {l:List α} (h:SlAt sz f X.heap.size X v l) (hb:Below X.heap.size X Y):SlAt sz f Y.heap.size Y v l:=(h.below hb).mono hb.size
theorem SlAt.len {α:Type} {sz:Nat} {f:α → List Value} {n₀:Nat} {X:World} {v:Value} {l:List α} (h:SlAt sz f n₀ X v l):∃ p cap,v = .slice p l.length cap:=by
 rcases h with ⟨rfl,rfl | ⟨x,cap,rfl,_⟩⟩ | ⟨bk,off,cap,rfl,_⟩
 ·exact ⟨_,_,rfl⟩
 ·exact ⟨_,_,rfl⟩
 ·exact ⟨_,_,rfl⟩
theorem SlAt.short {α:Type} {sz:Nat} {f:α → List Value} {n₀:Nat} {X:World} {v:Value} {l:List α} (h:SlAt sz f n₀ X v l):l.length ≤ 9223372036854775807:=by
 rcases h with ⟨rfl,_⟩ | ⟨bk,off,cap,_,h1,h2,_⟩
 ·simp
 ·unfold maxLen at h2
  omega
theorem SlAt.get {α:Type} {sz:Nat} {f:α → List Value} {n₀:Nat} {X:World} {p:Option Addr} {n cap:Nat} {l:List α} (h:SlAt sz f n₀ X (.slice p n cap) l) {k:Nat} {t:α} (hk:l[k]? = some t):∃ bk off,p = some ⟨bk,off,none⟩ ∧ bk < n₀ ∧ l.length ≤ cap ∧ cap ≤ maxLen ∧ ∀ i u,(f t)[i]? = some u → X.cell? ⟨bk,off + k * sz + i,none⟩ = some u:=by
 rcases h with ⟨rfl,_⟩ | ⟨bk,off,c,e,h1,h2,hb,h⟩
 ·simp at hk
 ·cases e
  exact ⟨bk,off,rfl,hb,h1,h2,h k t hk⟩
theorem SlAt.of_owns {α:Type} {sz:Nat} {f:α → List Value} (hf:∀ x,(f x).length = sz) {b:Nat} {e:TypeId} {X:World} {v:Value} {l:List α} (h:X.ownsRow b e sz v l.length (l.flatMap f)):SlAt sz f X.heap.size X v l:=by
 rcases h.2 with ⟨hv,hm⟩ | ⟨g,cap,cur,hv,hg,hb,h1,h2,h3,h4⟩
 ·exact .inl ⟨List.length_eq_zero_iff.1 hm,.inl hv⟩
 ·refine .inr ⟨g,0,cap,hv,h1,h2,(Array.getElem?_eq_some_iff.1 hb).1,fun j t hj i u hu => ?_⟩
  have hlt:j < l.length:=(List.getElem?_eq_some_iff.1 hj).1
  have hi:i < sz:=by rw [← hf t];exact (List.getElem?_eq_some_iff.1 hu).1
  have hm:j * sz + i < l.length * sz:=Nat.lt_of_lt_of_le (by rw [Nat.add_mul,Nat.one_mul];omega) (Nat.mul_le_mul_right sz hlt:(j + 1) * sz ≤ l.length * sz)
  rw [cell_of_block hb,Nat.zero_add,← hu,← flat_at hf l j t hj i hi,← h4,List.getElem?_take_of_lt hm]
  simp
theorem SlAt.src {α:Type} {sz:Nat} (hz:0 < sz) {f:α → List Value} (hf:∀ x,(f x).length = sz) {n₀:Nat} {X:World} {v:Value} {l:List α} (h:SlAt sz f n₀ X v l) :
  (v = .slice none 0 0 ∧ l.length = 0) ∨ ∃ ad c,v = .slice (some ad) l.length c ∧ ∀ j u,(l.flatMap f)[j]? = some u → X.cell? (ad.add j) = some u:=by
 rcases h with ⟨rfl,rfl | ⟨x,cap,rfl,_⟩⟩ | ⟨bk,off,cap,rfl,_,_,_,hc⟩
 ·exact .inl ⟨rfl,rfl⟩
 ·exact .inr ⟨x,cap,rfl,fun j u hj => by simp at hj⟩
 ·refine .inr ⟨_,cap,rfl,fun j u hj => ?_⟩
  have hlt:j < l.length * sz:=by rw [← flat_length hf l];exact (List.getElem?_eq_some_iff.1 hj).1
  have hq:j / sz < l.length:=(Nat.div_lt_iff_lt_mul hz).2 hlt
  have hr:j % sz < sz:=Nat.mod_lt _ hz
  have hd:j / sz * sz + j % sz = j:=by rw [Nat.mul_comm];exact Nat.div_add_mod j sz
  have:=hc (j / sz) _ (List.getElem?_eq_getElem hq) (j % sz) u (by rw [← flat_at hf l _ _ (List.getElem?_eq_getElem hq) _ hr,hd];exact hj)
  rw [addr_add,← this]
  congr 2
  omega
def stCells (s:ByteArray):List Value:=[.string s]
def inCells (k:Int):List Value:=[.int .i64 k]
abbrev StrsAt (n₀:Nat) (W:World) (v:Value) (l:List ByteArray):Prop:=SlAt 1 stCells n₀ W v l
abbrev PairsAt (n₀:Nat) (W:World) (v:Value) (l:List (ByteArray × ByteArray)):Prop:=SlAt 2 paCells n₀ W v l
abbrev IntsAt (n₀:Nat) (W:World) (v:Value) (l:List Int):Prop:=SlAt 1 inCells n₀ W v l
theorem flat_st (l:List ByteArray):l.flatMap stCells = l.map Value.string:=by
 induction l with
 | nil => rfl
 | cons x l ih => rw [List.flatMap_cons,ih];rfl
theorem flat_in (l:List Int):l.flatMap inCells = l.map (Value.int .i64):=by
 induction l with
 | nil => rfl
 | cons x l ih => rw [List.flatMap_cons,ih];rfl
theorem StrRow.at {b:Nat} {X:World} {v:Value} {l:List ByteArray} (h:StrRow b X v l):StrsAt X.heap.size X v l:=SlAt.of_owns (f:=stCells) (e:=9) (b:=b) (fun _ => rfl) (by rw [flat_st];exact h)
theorem PairRow.at {b:Nat} {X:World} {v:Value} {l:List (ByteArray × ByteArray)} (h:PairRow b X v l):PairsAt X.heap.size X v l:=SlAt.of_owns (f:=paCells) (e:=100) (b:=b) (fun _ => rfl) h
theorem IntRow.at {b:Nat} {X:World} {v:Value} {l:List Int} (h:IntRow b X v l):IntsAt X.heap.size X v l:=SlAt.of_owns (f:=inCells) (e:=3) (b:=b) (fun _ => rfl) (by rw [flat_in];exact h)
/-! ### nodes that came in -/
structure Nv where
 nd:Nd
 cv:Value
 av:Value
def nvCells (n:Nv):List Value:=[.int .i64 n.nd.parent,.string n.nd.tag,.string n.nd.id,n.cv,n.av]
def ndVal (n:Nd) (cv av:Value):Value:=.agg #[.int .i64 n.parent,.string n.tag,.string n.id,cv,av]
structure NdOk (n:Nd):Prop where
 tag:n.tag.size ≤ 281474976710656
 id:n.id.size ≤ 281474976710656
 cls:∀ s ∈ n.cls,s.size ≤ 281474976710656
 ats:∀ a ∈ n.ats,a.1.size ≤ 281474976710656 ∧ a.2.size ≤ 281474976710656
 ncls:n.cls.length * 16 ≤ 140737488355328
 nats:n.ats.length * 32 ≤ 140737488355328
structure NodesAt (n₀:Nat) (W:World) (v:Value) (l:List Nv):Prop where
 row:SlAt 5 nvCells n₀ W v l
 cls:∀ n ∈ l,StrsAt n₀ W n.cv n.nd.cls
 ats:∀ n ∈ l,PairsAt n₀ W n.av n.nd.ats
theorem NodesAt.below {n₀:Nat} {X Y:World} {v:Value} {l:List Nv} (h:NodesAt n₀ X v l) (hb:Below n₀ X Y):NodesAt n₀ Y v l:=⟨h.row.below hb,fun n hn => (h.cls n hn).below hb,fun n hn => (h.ats n hn).below hb⟩
theorem NodesAt.mono {n₀ n₁:Nat} {X:World} {v:Value} {l:List Nv} (h:NodesAt n₀ X v l) (hn:n₀ ≤ n₁):NodesAt n₁ X v l:=⟨h.row.mono hn,fun n hm => (h.cls n hm).mono hn,fun n hm => (h.ats n hm).mono hn⟩
theorem NodesAt.next {X Y:World} {v:Value} {l:List Nv} (h:NodesAt X.heap.size X v l) (hb:Below X.heap.size X Y):NodesAt Y.heap.size Y v l:=(h.below hb).mono hb.size
/-! ### closed facts -/
theorem infoStr:(Tryz.prog.info? 9).map (fun i => (i.zero,i.size,i.bytes)) = some (some (.string ⟨#[]⟩),1,16):=by kernel_rfl
theorem infoPair:(Tryz.prog.info? 100).map (fun i => (i.zero,i.size,i.bytes)) = some (some (.agg #[.string ⟨#[]⟩,.string ⟨#[]⟩]),2,32):=by kernel_rfl
theorem infoInt:(Tryz.prog.info? 3).map (fun i => (i.zero,i.size,i.bytes)) = some (some (.int .i64 0),1,8):=by kernel_rfl
theorem infoNodeS:(Tryz.prog.info? 77).map (·.size) = some 5:=by kernel_rfl
theorem load_node {w:World} {g:Nat} {a b c d e:Value} (h:Blk w g 77 [a,b,c,d,e]):(loadVar 77 ⟨g,0,none⟩).run Tryz.prog w = .ok (.agg #[a,b,c,d,e]) w:=
 run_loadVar_row w g _ 77 #[a,b,c,d,e] (0,0) _ h Tryz.underlying77 rfl infoNodeS
theorem results_struct {fn:Func} {p:Tmp} {ty:TypeId} (h:fn.results = #[.cell p ty]) (tmps:Array Value) (w:World) (g:Nat) (x:Value)
  (hp:tmps.getD p undef = .pointer (some ⟨g,0,none⟩)) (hl:(loadVar ty ⟨g,0,none⟩).run Tryz.prog w = .ok x w) :
  (results fn tmps).run Tryz.prog w = .ok x w:=by
 have hp':tmps[p]?.getD undef = .pointer (some ⟨g,0,none⟩):=by simpa using hp
 simp [results,h,hp',asAddr,hl]
end Go.Proofs.YtnemagmakgiheaaGreat.Dm
/- What is so of every tree that dom.New makes: plain facts. -/
namespace Go.Proofs.YtnemagmakgiheaaGreat.Dm
open Go
def sumCh:List El → Nat
 | [] => 0
 | e :: l => e.ch.length + sumCh l
theorem sumCh_append (a b:List El):sumCh (a ++ b) = sumCh a + sumCh b:=by
 induction a with
 | nil => simp [sumCh]
 | cons x a ih => simp [sumCh,ih,Nat.add_assoc]
theorem sumCh_set:∀ (l:List El) (p:Nat) (q q':El),l[p]? = some q → q'.ch.length = q.ch.length + 1 → sumCh (l.set p q') = sumCh l + 1
 | [],p,q,q',h,_ => by simp at h
 | x :: l,0,q,q',h,hl => by
  obtain rfl:x = q:=by simpa using h
  simp [sumCh,hl]
  omega
 | x :: l,p + 1,q,q',h,hl => by
  have:=sumCh_set l p q q' (by simpa using h) hl
  simp [sumCh,this]
  omega
structure TreeOk (es:List El):Prop where
 root:∀ e,es[0]? = some e → e.nd.parent = -1 ∧ e.depth = 0 ∧ e.place = 1
 par:∀ (k:Nat) (e:El),es[k]? = some e → 0 < k → ∃ (p:Nat) (q:El),e.nd.parent = (p:Int) ∧ p < k ∧ es[p]? = some q ∧ e.depth = q.depth + 1 ∧ 1 ≤ e.place ∧ q.ch[e.place - 1]? = some k
 chs:∀ (p:Nat) (q:El) (i c:Nat),es[p]? = some q → q.ch[i]? = some c → ∃ e,es[c]? = some e ∧ p < c ∧ e.nd.parent = (p:Int) ∧ e.place = i + 1
 deep:∀ (k:Nat) (e:El),es[k]? = some e → e.depth ≤ 256
 few:∀ (k:Nat) (e:El),es[k]? = some e → e.ch.length ≤ es.length
 rise:∀ (k:Nat) (e:El),es[k]? = some e → e.ch.Pairwise (· < ·)
 sum:sumCh es = es.length - 1
theorem TreeOk.nil:TreeOk []:=⟨fun _ h => (by simp at h),fun _ _ h => (by simp at h),fun _ _ _ _ h => (by simp at h),fun _ _ h => (by simp at h),fun _ _ h => (by simp at h),fun _ _ h => (by simp at h),rfl⟩
theorem one_at {e f:El} {k:Nat} (h:[e][k]? = some f):k = 0 ∧ f = e:=by
 have:k = 0:=by
  have:=(List.getElem?_eq_some_iff.1 h).1
  simpa using this
 subst this
 exact ⟨rfl,by simpa using h.symm⟩
theorem TreeOk.one (n:Nd) (hp:n.parent = -1):TreeOk [⟨lowN n,0,1,[]⟩]:=by
 refine ⟨fun e h => ?_,fun k e h hk => ?_,fun p q i c h hc => ?_,fun k e h => ?_,fun k e h => ?_,fun k e h => ?_,rfl⟩
 ·obtain rfl:=(one_at h).2
  exact ⟨hp,rfl,rfl⟩
 ·have:=(one_at h).1
  omega
 ·obtain rfl:=(one_at h).2
  simp at hc
 ·obtain rfl:=(one_at h).2
  exact Nat.zero_le _
 ·obtain rfl:=(one_at h).2
  exact Nat.zero_le _
 ·obtain rfl:=(one_at h).2
  exact List.Pairwise.nil
theorem snoc_at {l:List El} {x e:El} {k:Nat} (h:(l ++ [x])[k]? = some e):l[k]? = some e ∨ (k = l.length ∧ e = x):=by
 by_cases hk:k < l.length
 ·rw [List.getElem?_append_left hk] at h
  exact .inl h
 ·rw [List.getElem?_append_right (by omega)] at h
  obtain ⟨h1,h2⟩:=one_at h
  exact .inr ⟨by omega,h2⟩
theorem set_at' {l:List El} {p j:Nat} {x y:El} (h:(l.set p x)[j]? = some y):(j = p ∧ y = x) ∨ (j ≠ p ∧ l[j]? = some y):=by
 rw [List.getElem?_set] at h
 by_cases e:p = j
 ·rw [if_pos e] at h
  split at h
  ·exact .inl ⟨e.symm,by simpa using h.symm⟩
  ·cases h
 ·rw [if_neg e] at h
  exact .inr ⟨fun h' => e h'.symm,h⟩
theorem grown_at {es:List El} {p:Nat} {q:El} (hq:es[p]? = some q) (x:El) {k:Nat} {e:El} (h:es[k]? = some e) :
  ∃ e',(growV es p q es.length ++ [x])[k]? = some e' ∧ e'.nd = e.nd ∧ e'.depth = e.depth ∧ e'.place = e.place ∧ (k ≠ p → e'.ch = e.ch) ∧ (k = p → e'.ch = e.ch ++ [es.length]):=by
 have hk:k < es.length:=(List.getElem?_eq_some_iff.1 h).1
 rw [List.getElem?_append_left (by rw [growV_length];exact hk)]
 by_cases hkp:k = p
 ·subst hkp
  obtain rfl:q = e:=by rw [h] at hq;exact (Option.some.inj hq).symm
  exact ⟨{ q with ch:=q.ch ++ [es.length] },by unfold growV;rw [List.getElem?_set_self hk],rfl,rfl,rfl,fun h => absurd rfl h,fun _ => rfl⟩
 ·exact ⟨e,by unfold growV;rw [List.getElem?_set_ne (fun e => hkp e.symm)];exact h,rfl,rfl,rfl,fun _ => rfl,fun h => absurd h hkp⟩
theorem grown_back {es:List El} {p:Nat} {q x:El} (hq:es[p]? = some q) {k:Nat} {e':El} (h:(growV es p q es.length ++ [x])[k]? = some e') :
  (∃ e,es[k]? = some e ∧ e'.nd = e.nd ∧ e'.depth = e.depth ∧ e'.place = e.place ∧ (k ≠ p → e'.ch = e.ch) ∧ (k = p → e'.ch = e.ch ++ [es.length])) ∨ (k = es.length ∧ e' = x):=by
 rcases snoc_at h with h | ⟨h1,h2⟩
 ·left
  unfold growV at h
  rcases set_at' h with ⟨rfl,rfl⟩ | ⟨hk,h⟩
  ·exact ⟨q,hq,rfl,rfl,rfl,fun h => absurd rfl h,fun _ => rfl⟩
  ·exact ⟨e',h,rfl,rfl,rfl,fun _ => rfl,fun h => absurd h hk⟩
 ·rw [growV_length] at h1
  exact .inr ⟨h1,h2⟩
theorem TreeOk.more {es:List El} (hT:TreeOk es) {p:Nat} {q:El} (hq:es[p]? = some q) (n:Nd) (hp:n.parent = (p:Int)) (hd:¬ q.depth = 256) :
  TreeOk (growV es p q es.length ++ [⟨lowN n,q.depth + 1,q.ch.length + 1,[]⟩]):=by
 have hlt:p < es.length:=(List.getElem?_eq_some_iff.1 hq).1
 have hlen:(growV es p q es.length ++ [(⟨lowN n,q.depth + 1,q.ch.length + 1,[]⟩:El)]).length = es.length + 1:=by simp [growV_length]
 have hnew:(growV es p q es.length ++ [(⟨lowN n,q.depth + 1,q.ch.length + 1,[]⟩:El)])[es.length]? = some ⟨lowN n,q.depth + 1,q.ch.length + 1,[]⟩:=by
  rw [List.getElem?_append_right (by rw [growV_length];exact Nat.le_refl _),growV_length]
  simp
 refine ⟨fun e h => ?_,fun k e h hk => ?_,fun p' q' i c h hc => ?_,fun k e h => ?_,fun k e h => ?_,fun k e h => ?_,?_⟩
 ·rcases grown_back hq h with ⟨e0,h0,h1,h2,h3,_⟩ | ⟨h0,rfl⟩
  ·rw [h1,h2,h3]
   exact hT.root e0 h0
  ·omega
 ·rcases grown_back hq h with ⟨e0,h0,h1,h2,h3,_⟩ | ⟨rfl,rfl⟩
  ·obtain ⟨p1,q1,a1,a2,a3,a4,a5,a6⟩:=hT.par k e0 h0 hk
   obtain ⟨q2,b1,b2,b3,b4,b5,b6⟩:=grown_at hq ⟨lowN n,q.depth + 1,q.ch.length + 1,[]⟩ a3
   refine ⟨p1,q2,by rw [h1];exact a1,a2,b1,by rw [h2,b3];exact a4,by rw [h3];exact a5,?_⟩
   rw [h3]
   by_cases e1:p1 = p
   ·rw [b6 e1,List.getElem?_append_left (List.getElem?_eq_some_iff.1 a6).1]
    exact a6
   ·rw [b5 e1]
    exact a6
  ·obtain ⟨q2,b1,b2,b3,b4,b5,b6⟩:=grown_at hq ⟨lowN n,q.depth + 1,q.ch.length + 1,[]⟩ hq
   refine ⟨p,q2,hp,hlt,b1,by rw [b3],by simp,?_⟩
   rw [b6 rfl,Nat.add_sub_cancel,List.getElem?_append_right (Nat.le_refl _)]
   simp
 ·rcases grown_back hq h with ⟨e0,h0,h1,h2,h3,h4,h5⟩ | ⟨rfl,rfl⟩
  ·by_cases e1:p' = p
   ·subst e1
    obtain rfl:e0 = q:=by rw [h0] at hq;exact Option.some.inj hq
    rw [h5 rfl] at hc
    by_cases hi:i < e0.ch.length
    ·rw [List.getElem?_append_left hi] at hc
     obtain ⟨e,c1,c2,c3,c4⟩:=hT.chs p' e0 i c h0 hc
     obtain ⟨e2,b1,b2,b3,b4,_⟩:=grown_at hq ⟨lowN n,e0.depth + 1,e0.ch.length + 1,[]⟩ c1
     exact ⟨e2,b1,c2,by rw [b2];exact c3,by rw [b4];exact c4⟩
    ·rw [List.getElem?_append_right (by omega)] at hc
     have hi0:i - e0.ch.length = 0:=by
      have:=(List.getElem?_eq_some_iff.1 hc).1
      simpa using this
     rw [hi0] at hc
     obtain rfl:es.length = c:=by simpa using hc
     exact ⟨_,hnew,hlt,hp,by simp;omega⟩
   ·rw [h4 e1] at hc
    obtain ⟨e,c1,c2,c3,c4⟩:=hT.chs p' e0 i c h0 hc
    obtain ⟨e2,b1,b2,b3,b4,_⟩:=grown_at hq ⟨lowN n,q.depth + 1,q.ch.length + 1,[]⟩ c1
    exact ⟨e2,b1,c2,by rw [b2];exact c3,by rw [b4];exact c4⟩
  ·simp at hc
 ·rcases grown_back hq h with ⟨e0,h0,h1,h2,h3,_⟩ | ⟨rfl,rfl⟩
  ·rw [h2]
   exact hT.deep k e0 h0
  ·have:=hT.deep p q hq
   show q.depth + 1 ≤ 256
   omega
 ·rw [hlen]
  rcases grown_back hq h with ⟨e0,h0,h1,h2,h3,h4,h5⟩ | ⟨rfl,rfl⟩
  ·have:=hT.few k e0 h0
   by_cases e1:k = p
   ·rw [h5 e1,List.length_append,List.length_singleton]
    omega
   ·rw [h4 e1]
    omega
  ·exact Nat.zero_le _
 ·rcases grown_back hq h with ⟨e0,h0,h1,h2,h3,h4,h5⟩ | ⟨rfl,rfl⟩
  ·have h6:=hT.rise k e0 h0
   by_cases e1:k = p
   ·rw [h5 e1,List.pairwise_append]
    refine ⟨h6,List.pairwise_singleton _ _,fun a ha b hb => ?_⟩
    obtain rfl:=List.mem_singleton.1 hb
    obtain ⟨i,hi⟩:=List.mem_iff_getElem?.1 ha
    obtain ⟨e2,h7,_⟩:=hT.chs k e0 i a h0 hi
    exact (List.getElem?_eq_some_iff.1 h7).1
   ·rw [h4 e1]
    exact h6
  ·exact List.Pairwise.nil
 ·rw [hlen,sumCh_append]
  unfold growV
  rw [sumCh_set es p q _ hq (by simp),hT.sum]
  simp [sumCh]
  omega
theorem addV_ok {es es':List El} {n:Nd} (hT:TreeOk es) (h:addV es n = .ok es'):TreeOk es':=by
 unfold addV at h
 split at h
 ·split at h
  ·rename_i hp
   cases h
   exact TreeOk.one n hp
  ·cases h
 ·split at h
  ·rename_i hp
   split at h
   ·cases h
   ·rename_i hd
    cases h
    obtain ⟨p,hpe⟩:∃ p:Nat,n.parent = (p:Int):=⟨n.parent.toNat,by omega⟩
    have hlt:p < es.length:=by omega
    have hq:es[p]? = some es[p]:=List.getElem?_eq_getElem hlt
    have hg:es.getD n.parent.toNat zeroEl = es[p]:=by rw [hpe,Int.toNat_natCast];simp [List.getD,hq]
    rw [hg] at hd ⊢
    rw [hpe,Int.toNat_natCast]
    exact hT.more hq n hpe hd
  ·cases h
theorem newF_ok:∀ (l:List Nd) (es es':List El),TreeOk es → newF es l = .ok es' → TreeOk es'
 | [],es,es',hT,h => by cases h;exact hT
 | n :: l,es,es',hT,h => by
  unfold newF at h
  cases ha:addV es n with
  | error x => rw [ha] at h;cases h
  | ok e2 =>
   rw [ha] at h
   exact newF_ok l e2 es' (addV_ok hT ha) h
theorem newV_ok {l:List Nd} {es:List El} (h:newV l = .ok es):TreeOk es ∧ es.length = l.length ∧ l.length ≤ 4096:=by
 unfold newV at h
 split at h
 ·cases h
 ·exact ⟨newF_ok l [] es TreeOk.nil h,by have:=newF_length l [] es h;simpa using this,by omega⟩
end Go.Proofs.YtnemagmakgiheaaGreat.Dm
