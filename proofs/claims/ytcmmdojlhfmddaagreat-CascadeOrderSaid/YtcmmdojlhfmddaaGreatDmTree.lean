/- Trees of elements as plain lists: what package dom makes of nodes (chapter 9). -/
import Derived.Test.YtcmmdojlhfmddaaGreatDcLow
import Derived.OwnWalk
import Derived.Laws.Rows
import Derived.Laws.OwnMore
import Derived.Laws.MakeOwn
import Derived.Maps.AppendAt
import Derived.Deep.AppendLies
import Derived.Deep.QuietTactic
import Derived.Deep.RegionWith
import Derived.Deep.DeepCutAuto
import Derived.Deep.CutBlock
import Derived.Deep.RegionHeld
import Derived.Deep.RegionLaw
import Derived.BigQuiet
import Derived.Laws.IdiomStrings
namespace Go.Proofs.YtcmmdojlhfmddaaGreat.Dm
open Go
structure Nd where
 parent:Int
 tag:ByteArray
 id:ByteArray
 cls:List ByteArray
 ats:List (ByteArray × ByteArray)
def lowS (s:ByteArray):ByteArray:=⟨(Lw.low s.data.toList).toArray⟩
def lowA (a:ByteArray × ByteArray):ByteArray × ByteArray:=(lowS a.1,a.2)
def lowN (n:Nd):Nd:=⟨n.parent,lowS n.tag,n.id,n.cls,n.ats.map lowA⟩
theorem lowS_size (s:ByteArray):(lowS s).size = s.size:=by
 show ((Lw.low s.data.toList).toArray).size = s.data.size
 rw [List.size_toArray,Lw.low_length,Array.length_toList]
structure El where
 nd:Nd
 depth:Nat
 place:Nat
 ch:List Nat
def zeroNd:Nd:=⟨0,⟨#[]⟩,⟨#[]⟩,[],[]⟩
def zeroEl:El:=⟨zeroNd,0,0,[]⟩
def growV (es:List El) (p:Nat) (q:El) (c:Nat):List El:=es.set p { q with ch:=q.ch ++ [c] }
def addV (es:List El) (n:Nd):Except Int (List El):=
 if es.length = 0 then (if n.parent = -1 then .ok [⟨lowN n,0,1,[]⟩] else .error 10)
 else if 0 ≤ n.parent ∧ n.parent < es.length then
  (if (es.getD n.parent.toNat zeroEl).depth = 256 then .error 11
  else .ok (growV es n.parent.toNat (es.getD n.parent.toNat zeroEl) es.length ++ [⟨lowN n,(es.getD n.parent.toNat zeroEl).depth + 1,(es.getD n.parent.toNat zeroEl).ch.length + 1,[]⟩]))
 else .error 10
def newF:List El → List Nd → Except Int (List El)
 | es,[] => .ok es
 | es,n :: l => match addV es n with
  | .ok es' => newF es' l
  | .error x => .error x
def newV (l:List Nd):Except Int (List El):=if 4096 < l.length then .error 3 else newF [] l
/-! ### what trees keep -/
theorem growV_length (es:List El) (p:Nat) (q:El) (c:Nat):(growV es p q c).length = es.length:=by simp [growV]
theorem addV_length {es es':List El} {n:Nd} (h:addV es n = .ok es'):es'.length = es.length + 1:=by
 unfold addV at h
 split at h
 ·rename_i h0
  split at h
  ·cases h;simp [h0]
  ·cases h
 ·split at h
  ·split at h
   ·cases h
   ·cases h;simp [growV_length]
  ·cases h
theorem newF_length:∀ (l:List Nd) (es es':List El),newF es l = .ok es' → es'.length = es.length + l.length
 | [],es,es',h => by cases h;rfl
 | n :: l,es,es',h => by
  unfold newF at h
  cases ha:addV es n with
  | error x => rw [ha] at h;cases h
  | ok e2 =>
   rw [ha] at h
   have h1:=newF_length l e2 es' h
   have h2:=addV_length ha
   rw [h1,h2,List.length_cons]
   omega
end Go.Proofs.YtcmmdojlhfmddaaGreat.Dm

/- Trees of elements in memory: blocks of cells, rows of nodes, of strings, of pairs, of numbers; nodes that came in. -/
namespace Go.Proofs.YtcmmdojlhfmddaaGreat.Dm
open Go Go.RowKit
theorem cell_of_block {X:World} {g:Nat} {cur:Array Value} {t:TypeId} {fz:Nat × Nat} (h:X.heap[g]? = some (.cells cur t fz)) (j:Nat):X.cell? ⟨g,j,none⟩ = cur[j]?:=by simp [World.cell?,h]
theorem addr_add (bk off j:Nat):(⟨bk,off,none⟩:Addr).add j = ⟨bk,off + j,none⟩:=by
 unfold Addr.add
 split
 ·simp_all
 ·rfl
theorem below_drew {n₀:Nat} {a b:World} (h:Below n₀ a b):Below n₀ a b.drew:=⟨h.os,h.tape,h.output,h.size,h.block⟩
theorem below_drewN (w:World) (n:Nat):Below w.heap.size w (w.drewN n):=⟨rfl,rfl,rfl,Nat.le_refl _,fun _ _ => rfl⟩
theorem below_next {w W W':World} (h:Below w.heap.size w W) (hb:Below W.heap.size W W'):Below w.heap.size w W':=h.trans (hb.mono h.size)
theorem below_nextN {b:Nat} {w W W':World} (h:Below b w W) (hb:Below W.heap.size W W') (hn:b ≤ w.heap.size):Below b w W':=h.trans (hb.mono (Nat.le_trans hn h.size))
/-! ### blocks -/
def Blk (W:World) (B:Nat) (t:TypeId) (cs:List Value):Prop:=W.heap[B]? = some (.cells cs.toArray t (0,0))
theorem Blk.lt {W:World} {B:Nat} {t:TypeId} {cs:List Value} (h:Blk W B t cs):B < W.heap.size:=(Array.getElem?_eq_some_iff.1 h).1
theorem Blk.kept {W W':World} {row:Option Nat} {B:Nat} {t:TypeId} {cs:List Value} (h:Blk W B t cs) (hg:W.grownBy W' row) (hne:some B ≠ row):Blk W' B t cs:=(hg.block B h.lt hne).trans h
theorem Blk.below {W W':World} {n:Nat} {B:Nat} {t:TypeId} {cs:List Value} (h:Blk W B t cs) (hb:Below n W W') (hn:B < n):Blk W' B t cs:=(hb.block B hn).trans h
theorem Blk.next {W W':World} {B:Nat} {t:TypeId} {cs:List Value} (h:Blk W B t cs) (hb:Below W.heap.size W W'):Blk W' B t cs:=h.below hb h.lt
theorem Blk.new (w:World) (t:TypeId) (cs:List Value):Blk (w.alloc (.cells cs.toArray t)) w.heap.size t cs:=heap_alloc_new w _
theorem blk1 {W:World} {B:Nat} {t:TypeId} {a:Value} (h:Blk W B t [a]):W.cell? ⟨B,0,none⟩ = some a ∧ W.frozen? ⟨B,0,none⟩ = false:=by
 simp [World.cell?,World.frozen?,show W.heap[B]? = _ from h]
theorem blk2 {W:World} {B:Nat} {t:TypeId} {a b:Value} (h:Blk W B t [a,b]):(W.cell? ⟨B,0,none⟩ = some a ∧ W.cell? ⟨B,1,none⟩ = some b) ∧ W.frozen? ⟨B,0,none⟩ = false ∧ W.frozen? ⟨B,1,none⟩ = false:=by
 simp [World.cell?,World.frozen?,show W.heap[B]? = _ from h]
theorem blk5 {W:World} {B:Nat} {t:TypeId} {a b c d e:Value} (h:Blk W B t [a,b,c,d,e]):(W.cell? ⟨B,0,none⟩ = some a ∧ W.cell? ⟨B,1,none⟩ = some b ∧ W.cell? ⟨B,2,none⟩ = some c ∧ W.cell? ⟨B,3,none⟩ = some d ∧ W.cell? ⟨B,4,none⟩ = some e) ∧ W.frozen? ⟨B,0,none⟩ = false ∧ W.frozen? ⟨B,1,none⟩ = false ∧ W.frozen? ⟨B,2,none⟩ = false ∧ W.frozen? ⟨B,3,none⟩ = false ∧ W.frozen? ⟨B,4,none⟩ = false:=by
 simp [World.cell?,World.frozen?,show W.heap[B]? = _ from h]
theorem blk_put {W:World} {B:Nat} {t:TypeId} {cs:List Value} (h:Blk W B t cs) (i:Nat) (u:Value):Blk (W.setCell ⟨B,i,none⟩ u) B t (cs.set i u):=by
 unfold Blk at h ⊢
 simp [World.setCell,Array.getElem?_modify,h]
theorem grown_set (W:World) (b i:Nat) (v:Value):W.grownBy (W.setCell ⟨b,i,none⟩ v) (some b):=
 ⟨rfl,rfl,rfl,by simp [World.setCell],fun i _ hne => Below.heap_setCell _ _ _ _ (fun e => hne (by rw [e]))⟩
theorem below_grew {n:Nat} {w X Y:World} {B:Nat} (h:Below n w X) (hg:X.grownBy Y (some B)) (hn:n ≤ X.heap.size) (hB:n ≤ B):Below n w Y:=h.grown hg hn (fun r e => by cases e;exact hB)
theorem cells_plain (w:World) (l:List Value) (ty:TypeId):∀ j u,l[j]? = some u → (w.alloc (.cells l.toArray ty)).cell? ((⟨w.heap.size,0,none⟩:Addr).add j) = some u:=fun j u hj => by
 rw [addr_add,Nat.zero_add,cell_of_block (heap_alloc_new w _) j]
 simpa using hj
def set5 (W:World) (B:Nat) (a b c d e:Value):World:=((((W.setCell ⟨B,0,none⟩ a).setCell ⟨B,1,none⟩ b).setCell ⟨B,2,none⟩ c).setCell ⟨B,3,none⟩ d).setCell ⟨B,4,none⟩ e
theorem blk_set5 {W:World} {B:Nat} {t:TypeId} {a b c d e:Value} (h:Blk W B t [a,b,c,d,e]) (a' b' c' d' e':Value):Blk (set5 W B a' b' c' d' e') B t [a',b',c',d',e']:=by
 unfold Blk at h ⊢
 simp [set5,World.setCell,Array.getElem?_modify,h]
theorem grown_set5 (W:World) (B:Nat) (a b c d e:Value):W.grownBy (set5 W B a b c d e) (some B):=
 ((((grown_set _ _ _ _).trans (grown_set _ _ _ _)).trans (grown_set _ _ _ _)).trans (grown_set _ _ _ _)).trans (grown_set _ _ _ _)
/-! ### what is left alone -/
structure Kept (keep:Nat → Prop) (w w':World):Prop where
 os:w'.os = w.os
 tape:w'.tape = w.tape
 output:w'.output = w.output
 size:w.heap.size ≤ w'.heap.size
 block:∀ k,k < w.heap.size → keep k → w'.heap[k]? = w.heap[k]?
theorem Kept.mono {keep keep':Nat → Prop} {w w':World} (h:Kept keep w w') (hk:∀ k,k < w.heap.size → keep' k → keep k):Kept keep' w w':=⟨h.os,h.tape,h.output,h.size,fun i hi hi' => h.block i hi (hk i hi hi')⟩
theorem Kept.of_below {keep:Nat → Prop} {w w':World} (h:Below w.heap.size w w'):Kept keep w w':=⟨h.os,h.tape,h.output,h.size,fun i hi _ => h.block i hi⟩
theorem Kept.below {keep:Nat → Prop} {w w':World} (h:Kept keep w w') {B:Nat} (hB:B ≤ w.heap.size) (hk:∀ k,k < B → keep k):Below B w w':=
 ⟨h.os,h.tape,h.output,h.size,fun i hi => h.block i (by omega) (hk i hi)⟩
theorem Kept.blk {keep:Nat → Prop} {W W':World} (h:Kept keep W W') {B:Nat} {t:TypeId} {cs:List Value} (k:Blk W B t cs) (hB:keep B):Blk W' B t cs:=(h.block B k.lt hB).trans k
/-! ### rows that are owned -/
theorem owns_same {W W':World} {b:Nat} {e:TypeId} {s:Nat} {v:Value} {n:Nat} {xs:List Value} (h:W.ownsRow b e s v n xs) (hs:∀ g,v.ownBlock = some g → W'.heap[g]? = W.heap[g]?):W'.ownsRow b e s v n xs:=by
 refine ⟨h.1,?_⟩
 rcases h.2 with h | ⟨g,cap,cur,rfl,h1,h2,h3⟩
 ·exact .inl h
 ·exact .inr ⟨g,cap,cur,rfl,h1,(hs g rfl).trans h2,h3⟩
theorem owns_lt {W:World} {b:Nat} {e:TypeId} {s:Nat} {v:Value} {n:Nat} {xs:List Value} (h:W.ownsRow b e s v n xs) {g:Nat} (hg:v.ownBlock = some g):b ≤ g ∧ g < W.heap.size:=h.lt g hg
theorem owns_form {X:World} {b:Nat} {e:TypeId} {size:Nat} {v:Value} {m:Nat} {xs:List Value} (h:X.ownsRow b e size v m xs):∃ q c,v = .slice q m c:=by
 rcases h.2 with ⟨rfl,h0⟩ | ⟨g,cap,cur,rfl,_⟩
 ·exact ⟨none,0,by rw [h0]⟩
 ·exact ⟨_,_,rfl⟩
theorem owns_base {X:World} {b b':Nat} {e:TypeId} {size:Nat} {v:Value} {m:Nat} {xs:List Value} (h:X.ownsRow b e size v m xs) (hb:b' ≤ b):X.ownsRow b' e size v m xs:=by
 refine ⟨h.1,?_⟩
 rcases h.2 with h | ⟨g,cap,cur,rfl,h1,h2⟩
 ·exact .inl h
 ·exact .inr ⟨g,cap,cur,rfl,Nat.le_trans hb h1,h2⟩
theorem owns_next {X Y:World} {b:Nat} {e:TypeId} {size:Nat} {v:Value} {m:Nat} {xs:List Value} (h:X.ownsRow b e size v m xs) (hb:Below X.heap.size X Y):Y.ownsRow b e size v m xs:=owns_same h (fun g hg => hb.block g (owns_lt h hg).2)
theorem rows_apart {W:World} {b b':Nat} {e e':TypeId} (hne:e ≠ e') {s s':Nat} {v v':Value} {n n':Nat} {xs xs':List Value} (h:W.ownsRow b e s v n xs) (h':W.ownsRow b' e' s' v' n' xs'):v.ownBlock = none ∨ v.ownBlock ≠ v'.ownBlock:=by
 rcases h.2 with ⟨rfl,_⟩ | ⟨g,cap,cur,rfl,_,hb,_⟩
 ·exact .inl rfl
 ·right
  rcases h'.2 with ⟨rfl,_⟩ | ⟨g',cap',cur',rfl,_,hb',_⟩
  ·simp [Value.ownBlock]
  ·intro e2
   simp [Value.ownBlock] at e2
   subst e2
   rw [hb] at hb'
   injection hb' with hb'
   injection hb' with _ h2
   exact hne h2
theorem row_blk {W:World} {b:Nat} {e t:TypeId} (hne:e ≠ t) {s:Nat} {v:Value} {n:Nat} {xs cs:List Value} {B:Nat} (h:W.ownsRow b e s v n xs) (k:Blk W B t cs):v.ownBlock ≠ some B:=by
 rcases h.2 with ⟨rfl,_⟩ | ⟨g,cap,cur,rfl,_,hb,_⟩
 ·simp [Value.ownBlock]
 ·intro e2
  simp [Value.ownBlock] at e2
  subst e2
  rw [show W.heap[g]? = _ from k] at hb
  injection hb with hb
  injection hb with _ h2
  exact hne h2.symm
theorem grown_of_below {w w':World} (h:Below w.heap.size w w') (row:Option Nat):w.grownBy w' row:=⟨h.os,h.tape,h.output,h.size,fun i hi _ => h.block i hi⟩
/-! ### cells of things of one size -/
theorem flat_length {α:Type} {sz:Nat} {f:α → List Value} (hf:∀ x,(f x).length = sz):∀ l:List α,(l.flatMap f).length = l.length * sz
 | [] => by simp
 | x :: l => by rw [List.flatMap_cons,List.length_append,hf,flat_length hf l,List.length_cons,Nat.add_mul,Nat.one_mul,Nat.add_comm]
theorem flat_at {α:Type} {sz:Nat} {f:α → List Value} (hf:∀ x,(f x).length = sz):∀ (l:List α) (j:Nat) (x:α),l[j]? = some x → ∀ i,i < sz → (l.flatMap f)[j * sz + i]? = (f x)[i]?
 | [],j,x,h => by simp at h
 | y :: l,0,x,h => by
  intro i hi
  obtain rfl:y = x:=by simpa using h
  rw [List.flatMap_cons,Nat.zero_mul,Nat.zero_add,List.getElem?_append_left (by rw [hf];exact hi)]
 | y :: l,j + 1,x,h => by
  intro i hi
  have ih:=flat_at hf l j x (by simpa using h) i hi
  have e:(j + 1) * sz = sz + j * sz:=by rw [Nat.add_mul,Nat.one_mul,Nat.add_comm]
  rw [List.flatMap_cons,List.getElem?_append_right (by rw [hf,e];omega),← ih]
  congr 1
  rw [hf,e]
  omega
theorem flat_set {α:Type} {sz:Nat} {f:α → List Value} (hf:∀ x,(f x).length = sz):∀ (l:List α) (j:Nat) (x x':α) (i:Nat) (u:Value),l[j]? = some x → i < sz → f x' = (f x).set i u → (l.flatMap f).set (j * sz + i) u = (l.set j x').flatMap f
 | [],j,x,x',i,u,h,_,_ => by simp at h
 | y :: l,0,x,x',i,u,h,hi,hx => by
  obtain rfl:y = x:=by simpa using h
  rw [List.flatMap_cons,Nat.zero_mul,Nat.zero_add,List.set_append_left _ _ (by rw [hf];exact hi),List.set_cons_zero,List.flatMap_cons,hx]
 | y :: l,j + 1,x,x',i,u,h,hi,hx => by
  have ih:=flat_set hf l j x x' i u (by simpa using h) hi hx
  have e:(j + 1) * sz = sz + j * sz:=by rw [Nat.add_mul,Nat.one_mul,Nat.add_comm]
  rw [List.flatMap_cons,List.set_append_right _ _ (by rw [hf,e];omega),List.set_cons_succ,List.flatMap_cons,← ih,hf]
  congr 2
  rw [e]
  omega
/-! ### rows of strings, of pairs, of numbers -/
def paCells (a:ByteArray × ByteArray):List Value:=[.string a.1,.string a.2]
def StrRow (b:Nat) (W:World) (v:Value) (l:List ByteArray):Prop:=W.ownsRow b 9 1 v l.length (l.map Value.string)
def PairRow (b:Nat) (W:World) (v:Value) (l:List (ByteArray × ByteArray)):Prop:=W.ownsRow b 114 2 v l.length (l.flatMap paCells)
def IntRow (b:Nat) (W:World) (v:Value) (l:List Int):Prop:=W.ownsRow b 3 1 v l.length (l.map (Value.int .i64))
theorem StrRow.next {b:Nat} {X Y:World} {v:Value} {l:List ByteArray} (h:StrRow b X v l) (hb:Below X.heap.size X Y):StrRow b Y v l:=owns_next h hb
theorem PairRow.next {b:Nat} {X Y:World} {v:Value} {l:List (ByteArray × ByteArray)} (h:PairRow b X v l) (hb:Below X.heap.size X Y):PairRow b Y v l:=owns_next h hb
/-! ### slices that are read -/
def SlAt {α:Type} (sz:Nat) (f:α → List Value) (n₀:Nat) (W:World) (v:Value) (l:List α):Prop:=
 (l = [] ∧ (v = .slice none 0 0 ∨ ∃ x cap,v = .slice (some x) 0 cap ∧ cap ≤ maxLen)) ∨ ∃ bk off cap,v = .slice (some ⟨bk,off,none⟩) l.length cap ∧ l.length ≤ cap ∧ cap ≤ maxLen ∧ bk < n₀ ∧ ∀ j x,l[j]? = some x → ∀ i u,(f x)[i]? = some u → W.cell? ⟨bk,off + j * sz + i,none⟩ = some u
theorem SlAt.below {α:Type} {sz:Nat} {f:α → List Value} {n₀:Nat} {X Y:World} {v:Value} {l:List α} (h:SlAt sz f n₀ X v l) (hb:Below n₀ X Y):SlAt sz f n₀ Y v l:=by
 rcases h with h | ⟨bk,off,cap,rfl,h1,h2,hbk,h⟩
 ·exact .inl h
 ·exact .inr ⟨bk,off,cap,rfl,h1,h2,hbk,fun j t hj i u hu => (hb.cell (p:=⟨bk,_,none⟩) hbk).trans (h j t hj i u hu)⟩
theorem SlAt.mono {α:Type} {sz:Nat} {f:α → List Value} {n₀ n₁:Nat} {X:World} {v:Value} {l:List α} (h:SlAt sz f n₀ X v l) (hn:n₀ ≤ n₁):SlAt sz f n₁ X v l:=by
 rcases h with h | ⟨bk,off,cap,rfl,h1,h2,hbk,h⟩
 ·exact .inl h
 ·exact .inr ⟨bk,off,cap,rfl,h1,h2,by omega,h⟩
theorem SlAt.next {α:Type} {sz:Nat} {f:α → List Value} {X Y:World} {v:Value} {l:List α} (h:SlAt sz f X.heap.size X v l) (hb:Below X.heap.size X Y):SlAt sz f Y.heap.size Y v l:=(h.below hb).mono hb.size
theorem SlAt.len {α:Type} {sz:Nat} {f:α → List Value} {n₀:Nat} {X:World} {v:Value} {l:List α} (h:SlAt sz f n₀ X v l):∃ p cap,v = .slice p l.length cap:=by
 rcases h with ⟨rfl,rfl | ⟨x,cap,rfl,_⟩⟩ | ⟨bk,off,cap,rfl,_⟩
 ·exact ⟨_,_,rfl⟩
 ·exact ⟨_,_,rfl⟩
 ·exact ⟨_,_,rfl⟩
theorem SlAt.short {α:Type} {sz:Nat} {f:α → List Value} {n₀:Nat} {X:World} {v:Value} {l:List α} (h:SlAt sz f n₀ X v l):l.length ≤ 9223372036854775807:=by
 rcases h with ⟨rfl,_⟩ | ⟨bk,off,cap,_,h1,h2,_⟩
 ·simp
 ·unfold maxLen at h2
  omega
theorem SlAt.get {α:Type} {sz:Nat} {f:α → List Value} {n₀:Nat} {X:World} {p:Option Addr} {n cap:Nat} {l:List α} (h:SlAt sz f n₀ X (.slice p n cap) l) {k:Nat} {t:α} (hk:l[k]? = some t):∃ bk off,p = some ⟨bk,off,none⟩ ∧ bk < n₀ ∧ l.length ≤ cap ∧ cap ≤ maxLen ∧ ∀ i u,(f t)[i]? = some u → X.cell? ⟨bk,off + k * sz + i,none⟩ = some u:=by
 rcases h with ⟨rfl,_⟩ | ⟨bk,off,c,e,h1,h2,hb,h⟩
 ·simp at hk
 ·cases e
  exact ⟨bk,off,rfl,hb,h1,h2,h k t hk⟩
theorem SlAt.of_owns {α:Type} {sz:Nat} {f:α → List Value} (hf:∀ x,(f x).length = sz) {b:Nat} {e:TypeId} {X:World} {v:Value} {l:List α} (h:X.ownsRow b e sz v l.length (l.flatMap f)):SlAt sz f X.heap.size X v l:=by
 rcases h.2 with ⟨hv,hm⟩ | ⟨g,cap,cur,hv,hg,hb,h1,h2,h3,h4⟩
 ·exact .inl ⟨List.length_eq_zero_iff.1 hm,.inl hv⟩
 ·refine .inr ⟨g,0,cap,hv,h1,h2,(Array.getElem?_eq_some_iff.1 hb).1,fun j t hj i u hu => ?_⟩
  have hlt:j < l.length:=(List.getElem?_eq_some_iff.1 hj).1
  have hi:i < sz:=by rw [← hf t];exact (List.getElem?_eq_some_iff.1 hu).1
  have hm:j * sz + i < l.length * sz:=Nat.lt_of_lt_of_le (by rw [Nat.add_mul,Nat.one_mul];omega) (Nat.mul_le_mul_right sz hlt:(j + 1) * sz ≤ l.length * sz)
  rw [cell_of_block hb,Nat.zero_add,← hu,← flat_at hf l j t hj i hi,← h4,List.getElem?_take_of_lt hm]
  simp
theorem SlAt.src {α:Type} {sz:Nat} (hz:0 < sz) {f:α → List Value} (hf:∀ x,(f x).length = sz) {n₀:Nat} {X:World} {v:Value} {l:List α} (h:SlAt sz f n₀ X v l) :
  (v = .slice none 0 0 ∧ l.length = 0) ∨ ∃ ad c,v = .slice (some ad) l.length c ∧ ∀ j u,(l.flatMap f)[j]? = some u → X.cell? (ad.add j) = some u:=by
 rcases h with ⟨rfl,rfl | ⟨x,cap,rfl,_⟩⟩ | ⟨bk,off,cap,rfl,_,_,_,hc⟩
 ·exact .inl ⟨rfl,rfl⟩
 ·exact .inr ⟨x,cap,rfl,fun j u hj => by simp at hj⟩
 ·refine .inr ⟨_,cap,rfl,fun j u hj => ?_⟩
  have hlt:j < l.length * sz:=by rw [← flat_length hf l];exact (List.getElem?_eq_some_iff.1 hj).1
  have hq:j / sz < l.length:=(Nat.div_lt_iff_lt_mul hz).2 hlt
  have hr:j % sz < sz:=Nat.mod_lt _ hz
  have hd:j / sz * sz + j % sz = j:=by rw [Nat.mul_comm];exact Nat.div_add_mod j sz
  have:=hc (j / sz) _ (List.getElem?_eq_getElem hq) (j % sz) u (by rw [← flat_at hf l _ _ (List.getElem?_eq_getElem hq) _ hr,hd];exact hj)
  rw [addr_add,← this]
  congr 2
  omega
def stCells (s:ByteArray):List Value:=[.string s]
def inCells (k:Int):List Value:=[.int .i64 k]
abbrev StrsAt (n₀:Nat) (W:World) (v:Value) (l:List ByteArray):Prop:=SlAt 1 stCells n₀ W v l
abbrev PairsAt (n₀:Nat) (W:World) (v:Value) (l:List (ByteArray × ByteArray)):Prop:=SlAt 2 paCells n₀ W v l
abbrev IntsAt (n₀:Nat) (W:World) (v:Value) (l:List Int):Prop:=SlAt 1 inCells n₀ W v l
theorem flat_st (l:List ByteArray):l.flatMap stCells = l.map Value.string:=by
 induction l with
 | nil => rfl
 | cons x l ih => rw [List.flatMap_cons,ih];rfl
theorem flat_in (l:List Int):l.flatMap inCells = l.map (Value.int .i64):=by
 induction l with
 | nil => rfl
 | cons x l ih => rw [List.flatMap_cons,ih];rfl
theorem StrRow.at {b:Nat} {X:World} {v:Value} {l:List ByteArray} (h:StrRow b X v l):StrsAt X.heap.size X v l:=SlAt.of_owns (f:=stCells) (e:=9) (b:=b) (fun _ => rfl) (by rw [flat_st];exact h)
theorem PairRow.at {b:Nat} {X:World} {v:Value} {l:List (ByteArray × ByteArray)} (h:PairRow b X v l):PairsAt X.heap.size X v l:=SlAt.of_owns (f:=paCells) (e:=114) (b:=b) (fun _ => rfl) h
theorem IntRow.at {b:Nat} {X:World} {v:Value} {l:List Int} (h:IntRow b X v l):IntsAt X.heap.size X v l:=SlAt.of_owns (f:=inCells) (e:=3) (b:=b) (fun _ => rfl) (by rw [flat_in];exact h)
/-! ### nodes that came in -/
structure Nv where
 nd:Nd
 cv:Value
 av:Value
def nvCells (n:Nv):List Value:=[.int .i64 n.nd.parent,.string n.nd.tag,.string n.nd.id,n.cv,n.av]
def ndVal (n:Nd) (cv av:Value):Value:=.agg #[.int .i64 n.parent,.string n.tag,.string n.id,cv,av]
structure NdOk (n:Nd):Prop where
 tag:n.tag.size ≤ 281474976710656
 id:n.id.size ≤ 281474976710656
 cls:∀ s ∈ n.cls,s.size ≤ 281474976710656
 ats:∀ a ∈ n.ats,a.1.size ≤ 281474976710656 ∧ a.2.size ≤ 281474976710656
 ncls:n.cls.length * 16 ≤ 140737488355328
 nats:n.ats.length * 32 ≤ 140737488355328
structure NodesAt (n₀:Nat) (W:World) (v:Value) (l:List Nv):Prop where
 row:SlAt 5 nvCells n₀ W v l
 cls:∀ n ∈ l,StrsAt n₀ W n.cv n.nd.cls
 ats:∀ n ∈ l,PairsAt n₀ W n.av n.nd.ats
theorem NodesAt.below {n₀:Nat} {X Y:World} {v:Value} {l:List Nv} (h:NodesAt n₀ X v l) (hb:Below n₀ X Y):NodesAt n₀ Y v l:=⟨h.row.below hb,fun n hn => (h.cls n hn).below hb,fun n hn => (h.ats n hn).below hb⟩
theorem NodesAt.mono {n₀ n₁:Nat} {X:World} {v:Value} {l:List Nv} (h:NodesAt n₀ X v l) (hn:n₀ ≤ n₁):NodesAt n₁ X v l:=⟨h.row.mono hn,fun n hm => (h.cls n hm).mono hn,fun n hm => (h.ats n hm).mono hn⟩
/-! ### closed facts -/
theorem infoStr:(Tryz.prog.info? 9).map (fun i => (i.zero,i.size,i.bytes)) = some (some (.string ⟨#[]⟩),1,16):=by kernel_rfl
theorem infoPair:(Tryz.prog.info? 114).map (fun i => (i.zero,i.size,i.bytes)) = some (some (.agg #[.string ⟨#[]⟩,.string ⟨#[]⟩]),2,32):=by kernel_rfl
theorem infoInt:(Tryz.prog.info? 3).map (fun i => (i.zero,i.size,i.bytes)) = some (some (.int .i64 0),1,8):=by kernel_rfl
theorem infoNodeS:(Tryz.prog.info? 30).map (·.size) = some 5:=by kernel_rfl
theorem load_node {w:World} {g:Nat} {a b c d e:Value} (h:Blk w g 30 [a,b,c,d,e]):(loadVar 30 ⟨g,0,none⟩).run Tryz.prog w = .ok (.agg #[a,b,c,d,e]) w:=
 run_loadVar_row w g _ 30 #[a,b,c,d,e] (0,0) _ h Tryz.underlying30 rfl infoNodeS
theorem results_struct {fn:Func} {p:Tmp} {ty:TypeId} (h:fn.results = #[.cell p ty]) (tmps:Array Value) (w:World) (g:Nat) (x:Value)
  (hp:tmps.getD p undef = .pointer (some ⟨g,0,none⟩)) (hl:(loadVar ty ⟨g,0,none⟩).run Tryz.prog w = .ok x w) :
  (results fn tmps).run Tryz.prog w = .ok x w:=by
 have hp':tmps[p]?.getD undef = .pointer (some ⟨g,0,none⟩):=by simpa using hp
 simp [results,h,hp',asAddr,hl]
end Go.Proofs.YtcmmdojlhfmddaaGreat.Dm

/- A tree of package dom in memory. -/
namespace Go.Proofs.YtcmmdojlhfmddaaGreat.Dm
open Go Go.RowKit
structure Em where
 e:El
 cv:Value
 av:Value
 hv:Value
def emCells (q:Em):List Value:=[.int .i64 q.e.nd.parent,.string q.e.nd.tag,.string q.e.nd.id,q.cv,q.av,.int .i64 q.e.depth,.int .i64 q.e.place,q.hv]
theorem emCells_len (q:Em):(emCells q).length = 8:=rfl
def chI (l:List Nat):List Int:=l.map (fun k:Nat => (k:Int))
theorem chI_len (l:List Nat):(chI l).length = l.length:=by simp [chI]
structure Tr (b:Nat) (W:World) (tb g cap:Nat) (qs:List Em):Prop where
 blk:Blk W tb 49 [.slice (some ⟨g,0,none⟩) qs.length cap]
 low:b ≤ tb
 row:W.ownsRow b 73 8 (.slice (some ⟨g,0,none⟩) qs.length cap) qs.length (qs.flatMap emCells)
 cls:∀ (j:Nat) (q:Em),qs[j]? = some q → StrRow b W q.cv q.e.nd.cls
 ats:∀ (j:Nat) (q:Em),qs[j]? = some q → PairRow b W q.av q.e.nd.ats
 chs:∀ (j:Nat) (q:Em),qs[j]? = some q → IntRow b W q.hv (chI q.e.ch)
 apart:∀ (i j:Nat) (q r:Em),i ≠ j → qs[i]? = some q → qs[j]? = some r → q.hv.ownBlock = none ∨ q.hv.ownBlock ≠ r.hv.ownBlock
theorem Tr.kept {keep:Nat → Prop} {b:Nat} {W W':World} {tb g cap:Nat} {qs:List Em} (h:Tr b W tb g cap qs) (hk:Kept keep W W') (hb:∀ k,b ≤ k → k < W.heap.size → keep k):Tr b W' tb g cap qs:=by
 have same:∀ {e:TypeId} {s:Nat} {v:Value} {n:Nat} {xs:List Value},W.ownsRow b e s v n xs → W'.ownsRow b e s v n xs:=fun hr => owns_same hr (fun g hg => hk.block g (owns_lt hr hg).2 (hb g (owns_lt hr hg).1 (owns_lt hr hg).2))
 exact ⟨hk.blk h.blk (hb _ h.low h.blk.lt),h.low,same h.row,fun j q hq => same (h.cls j q hq),fun j q hq => same (h.ats j q hq),fun j q hq => same (h.chs j q hq),h.apart⟩
theorem Tr.next {b:Nat} {W W':World} {tb g cap:Nat} {qs:List Em} (h:Tr b W tb g cap qs) (hb:Below W.heap.size W W'):Tr b W' tb g cap qs:=h.kept (keep:=fun _ => True) (.of_below hb) (fun _ _ _ => trivial)
theorem Tr.drewN {b:Nat} {W:World} {tb g cap:Nat} {qs:List Em} (h:Tr b W tb g cap qs) (n:Nat):Tr b (W.drewN n) tb g cap qs:=h.next (below_drewN W n)
theorem Tr.room {b:Nat} {W:World} {tb g cap:Nat} {qs:List Em} (h:Tr b W tb g cap qs):qs.length ≤ cap ∧ cap ≤ maxLen:=by
 rcases h.row.2 with ⟨h0,_⟩ | ⟨g',c',cur,h0,_,_,h1,h2,_⟩
 ·cases h0
 ·cases h0
  exact ⟨h1,h2⟩
theorem Tr.glt {b:Nat} {W:World} {tb g cap:Nat} {qs:List Em} (h:Tr b W tb g cap qs):b ≤ g ∧ g < W.heap.size:=owns_lt h.row rfl
theorem Tr.get {b:Nat} {W:World} {tb g cap:Nat} {qs:List Em} (h:Tr b W tb g cap qs) {j:Nat} {q:Em} (hq:qs[j]? = some q):∀ i u,(emCells q)[i]? = some u → W.cell? ⟨g,j * 8 + i,none⟩ = some u:=fun i u hu => by
 have hj:j < qs.length:=(List.getElem?_eq_some_iff.1 hq).1
 have hi:i < 8:=(List.getElem?_eq_some_iff.1 hu).1
 rw [h.row.cellAt _ (by omega),flat_at emCells_len qs j q hq i hi]
 exact hu
theorem Tr.get8 {b:Nat} {W:World} {tb g cap:Nat} {qs:List Em} (h:Tr b W tb g cap qs) {j:Nat} {q:Em} (hq:qs[j]? = some q) :
  W.cell? ⟨g,j * 8,none⟩ = some (.int .i64 q.e.nd.parent) ∧ W.cell? ⟨g,j * 8 + 1,none⟩ = some (.string q.e.nd.tag) ∧ W.cell? ⟨g,j * 8 + 2,none⟩ = some (.string q.e.nd.id) ∧ W.cell? ⟨g,j * 8 + 3,none⟩ = some q.cv ∧ W.cell? ⟨g,j * 8 + 4,none⟩ = some q.av ∧ W.cell? ⟨g,j * 8 + 5,none⟩ = some (.int .i64 q.e.depth) ∧ W.cell? ⟨g,j * 8 + 6,none⟩ = some (.int .i64 q.e.place) ∧ W.cell? ⟨g,j * 8 + 7,none⟩ = some q.hv:=
 ⟨h.get hq 0 _ rfl,h.get hq 1 _ rfl,h.get hq 2 _ rfl,h.get hq 3 _ rfl,h.get hq 4 _ rfl,h.get hq 5 _ rfl,h.get hq 6 _ rfl,h.get hq 7 _ rfl⟩
theorem set_at {α:Type} {l:List α} {p j:Nat} {x y:α} (h:(l.set p x)[j]? = some y):(j = p ∧ y = x) ∨ (j ≠ p ∧ l[j]? = some y):=by
 rw [List.getElem?_set] at h
 by_cases e:p = j
 ·rw [if_pos e] at h
  split at h
  ·exact .inl ⟨e.symm,by simpa using h.symm⟩
  ·cases h
 ·rw [if_neg e] at h
  exact .inr ⟨fun h' => e h'.symm,h⟩
theorem Tr.grow {b:Nat} {W w2:World} {tb g cap p:Nat} {qs:List Em} {q:Em} {o:Obj} {v':Value} {c:Nat} (h:Tr b W tb g cap qs) (hq:qs[p]? = some q)
  (hr:w2.ownsRow b 3 1 v' (q.e.ch.length + 1) ((chI q.e.ch).map (Value.int .i64) ++ [.int .i64 (c:Int)])) (hg:(W.alloc o).grownBy w2 q.hv.ownBlock) (hloc:v'.ownBlock = q.hv.ownBlock ∨ v'.ownBlock = some (W.alloc o).heap.size) :
  Tr b (w2.setCell ⟨g,p * 8 + 7,none⟩ v') tb g cap (qs.set p { q with e:={ q.e with ch:=q.e.ch ++ [c] },hv:=v' }):=by
 have hp:p < qs.length:=(List.getElem?_eq_some_iff.1 hq).1
 have hA:=h.next ((Below.refl _ W).alloc (Nat.le_refl _) o)
 have hI:=hA.chs p q hq
 have row2:=hA.row.kept hg (rows_apart (e:=73) (e':=3) (by decide) hA.row hI)
 have blk2:=hA.blk.kept hg (fun e => row_blk (e:=3) (t:=49) (by decide) hI hA.blk e.symm)
 have gs:=grown_set w2 g (p * 8 + 7) v'
 have st:=row2.stored (p * 8 + 7) v'
 have hne:∀ {e:TypeId} {s:Nat} {v:Value} {n:Nat} {xs:List Value},e ≠ 73 → w2.ownsRow b e s v n xs → (w2.setCell ⟨g,p * 8 + 7,none⟩ v').ownsRow b e s v n xs:=fun he hx => hx.kept gs (by
  rcases rows_apart he hx row2 with h1 | h1
  ·exact .inl h1
  ·exact .inr h1)
 have other:∀ {e:TypeId} {s:Nat} {v:Value} {n:Nat} {xs:List Value},e ≠ 73 → e ≠ 3 → (W.alloc o).ownsRow b e s v n xs → (w2.setCell ⟨g,p * 8 + 7,none⟩ v').ownsRow b e s v n xs:=fun he he' hx => hne he (hx.kept hg (rows_apart he' hx hI))
 have hlen:(qs.set p { q with e:={ q.e with ch:=q.e.ch ++ [c] },hv:=v' }).length = qs.length:=List.length_set
 refine ⟨?_,h.low,?_,fun j r hj => ?_,fun j r hj => ?_,fun j r hj => ?_,fun i j r s hij hi hj => ?_⟩
 ·rw [hlen]
  exact blk2.kept gs (fun e => row_blk (e:=73) (t:=49) (by decide) row2 blk2 e.symm)
 ·rw [hlen,← flat_set emCells_len qs p q _ 7 v' hq (by decide) (by simp [emCells])]
  exact st.1
 ·rcases set_at hj with ⟨rfl,rfl⟩ | ⟨_,hj⟩
  ·exact other (by decide) (by decide) (hA.cls _ q hq)
  ·exact other (by decide) (by decide) (hA.cls j r hj)
 ·rcases set_at hj with ⟨rfl,rfl⟩ | ⟨_,hj⟩
  ·exact other (by decide) (by decide) (hA.ats _ q hq)
  ·exact other (by decide) (by decide) (hA.ats j r hj)
 ·rcases set_at hj with ⟨rfl,rfl⟩ | ⟨hjp,hj⟩
  ·refine hne (by decide) ?_
   have e1:chI (q.e.ch ++ [c]) = chI q.e.ch ++ [(c:Int)]:=by simp [chI]
   rw [e1,List.length_append,chI_len,List.map_append]
   exact hr
  ·exact hne (by decide) ((hA.chs j r hj).kept hg (h.apart j p r q hjp hj hq))
 ·have hnew:∀ (k:Nat) (t:Em),qs[k]? = some t → k ≠ p → (t.hv.ownBlock = none ∨ t.hv.ownBlock ≠ v'.ownBlock) ∧ (v'.ownBlock = none ∨ v'.ownBlock ≠ t.hv.ownBlock):=fun k t hk hkp => by
   rcases hloc with e | e
   ·rw [e]
    exact ⟨h.apart k p t q hkp hk hq,h.apart p k q t (fun e => hkp e.symm) hq hk⟩
   ·have hlt:∀ x,t.hv.ownBlock = some x → x < W.heap.size:=fun x hx => (owns_lt (h.chs k t hk) hx).2
    have hs:(W.alloc o).heap.size = W.heap.size + 1:=World.size_alloc _ _
    refine ⟨.inr (fun e2 => ?_),.inr (fun e2 => ?_)⟩
    ·have:=hlt _ (e2.trans e)
     omega
    ·have:=hlt _ (e2.symm.trans e)
     omega
  rcases set_at hi with ⟨hip,hr'⟩ | ⟨hip,hi'⟩
  ·rcases set_at hj with ⟨hjp,hs'⟩ | ⟨hjp,hj'⟩
   ·exact absurd (hip.trans hjp.symm) hij
   ·rw [hr']
    exact (hnew j s hj' hjp).2
  ·rcases set_at hj with ⟨hjp,hs'⟩ | ⟨hjp,hj'⟩
   ·rw [hs']
    exact (hnew i r hi' hip).1
   ·exact h.apart i j r s hij hi' hj'
theorem Tr.push {b:Nat} {W X w2:World} {tb g cap:Nat} {qs:List Em} {q:Em} (h:Tr b W tb g cap qs) (hX:Below W.heap.size W X) (hq0:q.hv = .slice none 0 0) (hq1:q.e.ch = [])
  (hc:StrRow W.heap.size X q.cv q.e.nd.cls) (ha:PairRow W.heap.size X q.av q.e.nd.ats)
  (hr:w2.ownsRow b 73 8 (.slice (some ⟨g,0,none⟩) (qs.length + 1) cap) (qs.length + 1) (qs.flatMap emCells ++ emCells q)) (hg:X.grownBy w2 (some g)) :
  Tr b (w2.setCell ⟨tb,0,none⟩ (.slice (some ⟨g,0,none⟩) (qs.length + 1) cap)) tb g cap (qs ++ [q]):=by
 have hA:=h.next hX
 have hb:b ≤ W.heap.size:=Nat.le_trans h.low (Nat.le_of_lt h.blk.lt)
 have gs:=grown_set w2 tb 0 (.slice (some ⟨g,0,none⟩) (qs.length + 1) cap)
 have blk2:=hA.blk.kept hg (fun e => by
  have:=row_blk (e:=73) (t:=49) (by decide) hA.row hA.blk
  exact this (by simpa [Value.ownBlock] using e.symm))
 have both:∀ {e:TypeId} {s:Nat} {v:Value} {n:Nat} {xs:List Value},e ≠ 73 → e ≠ 49 → X.ownsRow b e s v n xs → (w2.setCell ⟨tb,0,none⟩ (.slice (some ⟨g,0,none⟩) (qs.length + 1) cap)).ownsRow b e s v n xs:=fun he he' hx => by
  have h1:=hx.kept hg (rows_apart he hx hA.row)
  exact h1.kept gs (.inr (row_blk he' h1 blk2))
 have cases2:∀ {j:Nat} {r:Em},(qs ++ [q])[j]? = some r → qs[j]? = some r ∨ (j = qs.length ∧ r = q):=fun {j r} hj => by
  by_cases hl:j < qs.length
  ·rw [List.getElem?_append_left hl] at hj
   exact .inl hj
  ·rw [List.getElem?_append_right (by omega)] at hj
   have:j - qs.length = 0:=by
    have:=(List.getElem?_eq_some_iff.1 hj).1
    simp at this
    omega
   rw [this] at hj
   exact .inr ⟨by omega,by simpa using hj.symm⟩
 have hnone:q.hv.ownBlock = none:=by rw [hq0];rfl
 refine ⟨?_,h.low,?_,fun j r hj => ?_,fun j r hj => ?_,fun j r hj => ?_,fun i j r s hij hi hj => ?_⟩
 ·rw [List.length_append,List.length_singleton]
  exact blk_put blk2 0 _
 ·rw [List.length_append,List.length_singleton,List.flatMap_append]
  simp only [List.flatMap_cons,List.flatMap_nil,List.append_nil]
  exact hr.kept gs (.inr (row_blk (e:=73) (t:=49) (by decide) hr blk2))
 ·rcases cases2 hj with hj | ⟨_,rfl⟩
  ·exact both (by decide) (by decide) (hA.cls j r hj)
  ·exact both (by decide) (by decide) (owns_base hc hb)
 ·rcases cases2 hj with hj | ⟨_,rfl⟩
  ·exact both (by decide) (by decide) (hA.ats j r hj)
  ·exact both (by decide) (by decide) (owns_base ha hb)
 ·rcases cases2 hj with hj | ⟨_,rfl⟩
  ·exact both (by decide) (by decide) (hA.chs j r hj)
  ·rw [hq0,hq1]
   exact World.ownsRow_nil _ _ _ _
 ·rcases cases2 hi with hi | ⟨_,rfl⟩
  ·rcases cases2 hj with hj | ⟨_,rfl⟩
   ·exact h.apart i j r s hij hi hj
   ·rw [hnone]
    cases r.hv.ownBlock with
    | none => exact .inl rfl
    | some x => exact .inr (by simp)
  ·exact .inl hnone
theorem Tr.mid {b:Nat} {W w2:World} {tb g cap p:Nat} {qs:List Em} {q:Em} {o:Obj} (h:Tr b W tb g cap qs) (hq:qs[p]? = some q) (hg:(W.alloc o).grownBy w2 q.hv.ownBlock):w2.cell? ⟨g,p * 8 + 7,none⟩ = some q.hv ∧ w2.frozen? ⟨g,p * 8 + 7,none⟩ = false:=by
 have hp:p < qs.length:=(List.getElem?_eq_some_iff.1 hq).1
 have hA:=h.next ((Below.refl _ W).alloc (Nat.le_refl _) o)
 have row2:=hA.row.kept hg (rows_apart (e:=73) (e':=3) (by decide) hA.row (hA.chs p q hq))
 refine ⟨?_,row2.frozenAt _⟩
 rw [row2.cellAt _ (by omega),flat_at emCells_len qs p q hq 7 (by decide)]
 rfl
theorem Tr.off {b:Nat} {W w2:World} {tb g cap p B:Nat} {qs:List Em} {q:Em} {o:Obj} {v':Value} {cs:List Value} (h:Tr b W tb g cap qs) (hq:qs[p]? = some q) (hg:(W.alloc o).grownBy w2 q.hv.ownBlock) (k:Blk W B 30 cs):Blk (w2.setCell ⟨g,p * 8 + 7,none⟩ v') B 30 cs:=by
 have hA:=h.next ((Below.refl _ W).alloc (Nat.le_refl _) o)
 have kA:=k.next ((Below.refl _ W).alloc (Nat.le_refl _) o)
 have row2:=hA.row.kept hg (rows_apart (e:=73) (e':=3) (by decide) hA.row (hA.chs p q hq))
 have k2:=kA.kept hg (fun e => row_blk (e:=3) (t:=30) (by decide) (hA.chs p q hq) kA e.symm)
 exact k2.kept (grown_set w2 g (p * 8 + 7) v') (fun e => row_blk (e:=73) (t:=30) (by decide) row2 k2 e.symm)
theorem shape_of {w:World} {base:Nat} {e:TypeId} {size:Nat} {v:Value} {n:Nat} {xs:List Value} (h:w.ownsRow base e size v (n + 1) xs):∃ g cap,v = .slice (some ⟨g,0,none⟩) (n + 1) cap:=by
 rcases h.2 with ⟨_,h0⟩ | ⟨g,cap,cur,rfl,_⟩
 ·cases h0
 ·exact ⟨g,cap,rfl⟩
theorem infoEl:(Tryz.prog.info? 73).map (fun i => (i.zero,i.size,i.bytes)) = some (some (.agg #[.int .i64 0,.string ⟨#[]⟩,.string ⟨#[]⟩,.slice none 0 0,.slice none 0 0,.int .i64 0,.int .i64 0,.slice none 0 0]),8,128):=by kernel_rfl
end Go.Proofs.YtcmmdojlhfmddaaGreat.Dm
