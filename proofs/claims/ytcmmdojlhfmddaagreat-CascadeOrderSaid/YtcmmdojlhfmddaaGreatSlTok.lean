/- Selectors in plain words: trees, and how tokens are read. -/
import Derived.Test.YtcmmdojlhfmddaaGreatRsMem
import Derived.Test.YtcmmdojlhfmddaaGreatDcLow
import Derived.Test.YtcmmdojlhfmddaaGreatTre
import Derived.OwnWalk
import Derived.Laws.Rows
import Derived.Laws.IdiomStrings
import Derived.Maps.AppendAt
import Derived.Deep.AppendLies
import Derived.Deep.QuietTactic
import Derived.Deep.RegionWith
import Derived.Deep.DeepCutAuto
import Derived.Deep.CutBlock
import Derived.Deep.RegionHeld
import Derived.Deep.RegionLaw
import Derived.BigQuiet
namespace Go.Proofs.YtcmmdojlhfmddaaGreat.Sl
open Go.Proofs.YtcmmdojlhfmddaaGreat.Tre
open Go Go.RowKit
def lowOf (t:Bt):List UInt8:=Lw.low t.text.data.toList
def lowS (s:ByteArray):ByteArray:=⟨(Lw.low s.data.toList).toArray⟩
def dropW (r:List Bt):List Bt:=r.dropWhile (fun t => t.kind == 9)
def isSg (t:Bt) (c:Int):Bool:=decide (t.kind = 10 ∧ t.c = c)
def begU (t:Bt):Bool:=decide (t.kind = 3 ∨ t.kind = 18 ∨ t.kind = 11) || isSg t 46
def begC (t:Bt):Bool:=(decide (t.kind = 1) || isSg t 42) || begU t
def combO (t:Bt):Option Int:=if isSg t 62 then some 2 else if isSg t 43 then some 3 else if isSg t 126 then some 4 else none
def oddT:List UInt8:=[111,100,100]
def evenT:List UInt8:=[101,118,101,110]
def abV (t:Bt):Option (Int × Int):=
 if t.kind = 1 ∧ lowOf t = oddT then some (2,1) else if t.kind = 1 ∧ lowOf t = evenT then some (2,0) else if t.kind = 6 ∧ t.whole = true then some (0,t.n.tdiv 1000) else none
def nthV (r:List Bt):Option (Int × Int × List Bt):=match dropW r with
 | [] => none
 | t :: r1 => (abV t).bind fun x => match dropW r1 with
  | e :: r2 => if e.kind = 17 then some (x.1,x.2,r2) else none
  | [] => none
def opOf (t:Bt):Option Int:=if isSg t 126 then some 2 else if isSg t 124 then some 3 else if isSg t 94 then some 4 else if isSg t 36 then some 5 else if isSg t 42 then some 6 else none
def opV:List Bt → Option (Int × List Bt)
 | [] => none
 | t :: r => match opOf t with
  | some op => match r with
   | e :: r2 => if isSg e 61 then some (op,r2) else none
   | [] => none
  | none => if isSg t 61 then some (1,r) else none
def attrV (r:List Bt):Option (At × List Bt):=match dropW r with
 | [] => none
 | nm :: r1 => if nm.kind = 1 then match dropW r1 with
   | [] => none
   | t :: r3 => if t.kind = 19 then some (⟨lowS nm.text,0,⟨#[]⟩⟩,r3) else (opV (t :: r3)).bind fun o => match dropW o.2 with
    | [] => none
    | h :: r5 => if h.kind = 1 ∨ h.kind = 4 then match dropW r5 with
      | e :: r6 => if e.kind = 19 then some (⟨lowS nm.text,o.1,h.text⟩,r6) else none
      | [] => none
     else none
  else none
def rootT:List UInt8:=[114,111,111,116]
def firstT:List UInt8:=[102,105,114,115,116,45,99,104,105,108,100]
def lastT:List UInt8:=[108,97,115,116,45,99,104,105,108,100]
def onlyT:List UInt8:=[111,110,108,121,45,99,104,105,108,100]
def emptyT:List UInt8:=[101,109,112,116,121]
def nthT:List UInt8:=[110,116,104,45,99,104,105,108,100]
def notT:List UInt8:=[110,111,116]
def isT:List UInt8:=[105,115]
def plainV (w:List UInt8):Option Int:=if w = rootT then some 1 else if w = firstT then some 2 else if w = lastT then some 3 else if w = onlyT then some 4 else if w = emptyT then some 5 else none
abbrev Inner:=List Bt → Option (List Sel × List Bt)
def listedV (L:Inner) (kind:Int) (r:List Bt):Option (Ps × List Bt):=(L r).bind fun x => match x.2 with
 | e :: r2 => if e.kind = 17 then some (.mk kind 0 0 x.1,r2) else none
 | [] => none
def pseudoV (L:Inner):List Bt → Option (Ps × List Bt)
 | [] => none
 | t :: r => if t.kind = 1 then (plainV (lowOf t)).map fun k => (.mk k 0 0 [],r)
  else if t.kind = 20 then
   if lowOf t = nthT then (nthV r).map fun x => (.mk 6 x.1 x.2.1 [],x.2.2)
   else if lowOf t = notT then listedV L 7 r
   else if lowOf t = isT then listedV L 8 r
   else none
  else none
def unitV (L:Inner) (c:Cp) (t:Bt) (r:List Bt):Option (Cp × List Bt):=
 if t.kind = 3 then some (c.addId t.text,r)
 else if t.kind = 18 then (attrV r).map fun x => (c.addAttr x.1,x.2)
 else if t.kind = 11 then (pseudoV L r).map fun x => (c.addPs x.1,x.2)
 else match r with
  | n :: r2 => if n.kind = 1 then some (c.addClass n.text,r2) else none
  | [] => none
def unitsV (L:Inner):Nat → Cp → List Bt → Option (Cp × List Bt)
 | 0,_,_ => none
 | _ + 1,c,[] => some (c,[])
 | f + 1,c,t :: r => if begU t then (unitV L c t r).bind fun x => unitsV L f x.1 x.2 else some (c,t :: r)
def tagV:List Bt → ByteArray × List Bt
 | [] => (⟨#[]⟩,[])
 | t :: r => if isSg t 42 then (⟨#[]⟩,r) else if t.kind = 1 then (lowS t.text,r) else (⟨#[]⟩,t :: r)
def compV (L:Inner) (r:List Bt):Option (Cp × List Bt):=
 (unitsV L (r.length + 1) (.mk (tagV r).1 [] [] [] []) (tagV r).2).bind fun x => if x.2.length < r.length then some x else none
def betwV (r:List Bt):Option (Int × List Bt):=match dropW r with
 | [] => none
 | t :: r1 => match combO t with
  | some c => some (c,dropW r1)
  | none => if (dropW r).length < r.length ∧ begC t = true then some (1,t :: r1) else none
def partsV (L:Inner):Nat → Int → List Pt → List Bt → Option (List Pt × List Bt)
 | 0,_,_,_ => none
 | f + 1,comb,pre,r => (compV L r).bind fun x => match betwV x.2 with
  | some y => partsV L f y.1 (pre ++ [(comb,x.1)]) y.2
  | none => some (pre ++ [(comb,x.1)],dropW x.2)
def selV (L:Inner) (r:List Bt):Option (Sel × List Bt):=partsV L (r.length + 1) 0 [] (dropW r)
def listF (L:Inner):Nat → List Sel → List Bt → Option (List Sel × List Bt)
 | 0,_,_ => none
 | f + 1,pre,r => (selV L r).bind fun x => match x.2 with
  | t :: r2 => if t.kind = 13 then listF L f (pre ++ [x.1]) r2 else some (pre ++ [x.1],t :: r2)
  | [] => some (pre ++ [x.1],[])
def listV:Nat → List Bt → Option (List Sel × List Bt)
 | 0,r => listF (fun _ => none) (r.length + 1) [] r
 | d + 1,r => listF (listV d) (r.length + 1) [] r
def innerV:Nat → Inner
 | 0 => fun _ => none
 | d + 1 => listV d
theorem listV_eq (d:Nat) (r:List Bt):listV d r = listF (innerV d) (r.length + 1) [] r:=by cases d <;> rfl
def parseV (ts:List Bt):Option (List Sel):=if 1000 < ts.length then none else match listV 8 ts with
 | some (l,[]) => some l
 | _ => none
/-! ### fuel -/
theorem dropW_le (r:List Bt):(dropW r).length ≤ r.length:=(List.dropWhile_sublist _).length_le
theorem compV_lt {L:Inner} {r:List Bt} {x:Cp × List Bt} (h:compV L r = some x):x.2.length < r.length:=by
 unfold compV at h
 obtain ⟨y,hy,h⟩:=Option.bind_eq_some_iff.1 h
 split at h
 ·cases h;assumption
 ·cases h
theorem betwV_le {r:List Bt} {x:Int × List Bt} (h:betwV r = some x):x.2.length ≤ r.length:=by
 have h0:=dropW_le r
 unfold betwV at h
 split at h
 ·cases h
 ·rename_i t r1 e
  rw [e,List.length_cons] at h0
  have h1:=dropW_le r1
  split at h
  ·cases h;simp only;omega
  ·split at h
   ·cases h;simp only [List.length_cons];omega
   ·cases h
theorem partsV_more {L:Inner}:∀ (f g:Nat) (c:Int) (pre:List Pt) (r:List Bt),r.length < f → r.length < g → partsV L f c pre r = partsV L g c pre r
 | 0,_,_,_,_,h,_ => absurd h (Nat.not_lt_zero _)
 | _ + 1,0,_,_,_,_,h => absurd h (Nat.not_lt_zero _)
 | f + 1,g + 1,c,pre,r,hf,hg => by
  simp only [partsV]
  cases h:compV L r with
  | none => rfl
  | some x =>
   have h1:=compV_lt h
   simp only [Option.bind_some]
   cases h2:betwV x.2 with
   | none => rfl
   | some y =>
    have h3:=betwV_le h2
    exact partsV_more f g _ _ _ (by omega) (by omega)
end Go.Proofs.YtcmmdojlhfmddaaGreat.Sl

/- Trees of selectors in memory: rows that are done, rows under way; blocks of cells. -/
namespace Go.Proofs.YtcmmdojlhfmddaaGreat.Sl
open Go.Proofs.YtcmmdojlhfmddaaGreat.Tre
open Go Go.RowKit
theorem below_drew {n₀:Nat} {a b:World} (h:Below n₀ a b):Below n₀ a b.drew:=⟨h.os,h.tape,h.output,h.size,h.block⟩
theorem below_next {w W W':World} (h:Below w.heap.size w W) (hb:Below W.heap.size W W'):Below w.heap.size w W':=h.trans (hb.mono h.size)
theorem below_drewN' {n:Nat} {a b:World} (h:Below n a b) (m:Nat):Below n a (b.drewN m):=⟨h.os,h.tape,h.output,h.size,h.block⟩
/-! ### blocks -/
def Blk (W:World) (B:Nat) (t:TypeId) (cs:List Value):Prop:=W.heap[B]? = some (.cells cs.toArray t (0,0))
theorem Blk.lt {W:World} {B:Nat} {t:TypeId} {cs:List Value} (h:Blk W B t cs):B < W.heap.size:=(Array.getElem?_eq_some_iff.1 h).1
theorem Blk.kept {W W':World} {row:Option Nat} {B:Nat} {t:TypeId} {cs:List Value} (h:Blk W B t cs) (hg:W.grownBy W' row) (hne:some B ≠ row):Blk W' B t cs:=(hg.block B h.lt hne).trans h
theorem Blk.below {W W':World} {n:Nat} {B:Nat} {t:TypeId} {cs:List Value} (h:Blk W B t cs) (hb:Below n W W') (hn:B < n):Blk W' B t cs:=(hb.block B hn).trans h
theorem Blk.new (w:World) (t:TypeId) (cs:List Value):Blk (w.alloc (.cells cs.toArray t)) w.heap.size t cs:=heap_alloc_new w _
theorem blk_drew {W:World} {B:Nat} {t:TypeId} {cs:List Value} (h:Blk W B t cs) (n:Nat):Blk (W.drewN n) B t cs:=h
theorem blk1 {W:World} {B:Nat} {t:TypeId} {a:Value} (h:Blk W B t [a]):W.cell? ⟨B,0,none⟩ = some a ∧ W.frozen? ⟨B,0,none⟩ = false:=by
 simp [World.cell?,World.frozen?,show W.heap[B]? = _ from h]
theorem blk2 {W:World} {B:Nat} {t:TypeId} {a b:Value} (h:Blk W B t [a,b]):(W.cell? ⟨B,0,none⟩ = some a ∧ W.cell? ⟨B,1,none⟩ = some b) ∧ W.frozen? ⟨B,0,none⟩ = false ∧ W.frozen? ⟨B,1,none⟩ = false:=by
 simp [World.cell?,World.frozen?,show W.heap[B]? = _ from h]
theorem blk3 {W:World} {B:Nat} {t:TypeId} {a b c:Value} (h:Blk W B t [a,b,c]):(W.cell? ⟨B,0,none⟩ = some a ∧ W.cell? ⟨B,1,none⟩ = some b ∧ W.cell? ⟨B,2,none⟩ = some c) ∧ W.frozen? ⟨B,0,none⟩ = false ∧ W.frozen? ⟨B,1,none⟩ = false ∧ W.frozen? ⟨B,2,none⟩ = false:=by
 simp [World.cell?,World.frozen?,show W.heap[B]? = _ from h]
theorem blk4 {W:World} {B:Nat} {t:TypeId} {a b c d:Value} (h:Blk W B t [a,b,c,d]):(W.cell? ⟨B,0,none⟩ = some a ∧ W.cell? ⟨B,1,none⟩ = some b ∧ W.cell? ⟨B,2,none⟩ = some c ∧ W.cell? ⟨B,3,none⟩ = some d) ∧ W.frozen? ⟨B,0,none⟩ = false ∧ W.frozen? ⟨B,1,none⟩ = false ∧ W.frozen? ⟨B,2,none⟩ = false ∧ W.frozen? ⟨B,3,none⟩ = false:=by
 simp [World.cell?,World.frozen?,show W.heap[B]? = _ from h]
theorem blk5 {W:World} {B:Nat} {t:TypeId} {a b c d e:Value} (h:Blk W B t [a,b,c,d,e]):(W.cell? ⟨B,0,none⟩ = some a ∧ W.cell? ⟨B,1,none⟩ = some b ∧ W.cell? ⟨B,2,none⟩ = some c ∧ W.cell? ⟨B,3,none⟩ = some d ∧ W.cell? ⟨B,4,none⟩ = some e) ∧ W.frozen? ⟨B,0,none⟩ = false ∧ W.frozen? ⟨B,1,none⟩ = false ∧ W.frozen? ⟨B,2,none⟩ = false ∧ W.frozen? ⟨B,3,none⟩ = false ∧ W.frozen? ⟨B,4,none⟩ = false:=by
 simp [World.cell?,World.frozen?,show W.heap[B]? = _ from h]
def set2 (W:World) (B:Nat) (a b:Value):World:=(W.setCell ⟨B,0,none⟩ a).setCell ⟨B,1,none⟩ b
def set3 (W:World) (B:Nat) (a b c:Value):World:=((W.setCell ⟨B,0,none⟩ a).setCell ⟨B,1,none⟩ b).setCell ⟨B,2,none⟩ c
def set4 (W:World) (B:Nat) (a b c d:Value):World:=(((W.setCell ⟨B,0,none⟩ a).setCell ⟨B,1,none⟩ b).setCell ⟨B,2,none⟩ c).setCell ⟨B,3,none⟩ d
def set5 (W:World) (B:Nat) (a b c d e:Value):World:=((((W.setCell ⟨B,0,none⟩ a).setCell ⟨B,1,none⟩ b).setCell ⟨B,2,none⟩ c).setCell ⟨B,3,none⟩ d).setCell ⟨B,4,none⟩ e
theorem blk_set1 {W:World} {B:Nat} {t:TypeId} {a:Value} (h:Blk W B t [a]) (a':Value):Blk (W.setCell ⟨B,0,none⟩ a') B t [a']:=by
 unfold Blk at h ⊢
 simp [World.setCell,Array.getElem?_modify,h]
theorem blk_set3 {W:World} {B:Nat} {t:TypeId} {a b c:Value} (h:Blk W B t [a,b,c]) (a' b' c':Value):Blk (set3 W B a' b' c') B t [a',b',c']:=by
 unfold Blk at h ⊢
 simp [set3,World.setCell,Array.getElem?_modify,h]
theorem blk_set4 {W:World} {B:Nat} {t:TypeId} {a b c d:Value} (h:Blk W B t [a,b,c,d]) (a' b' c' d':Value):Blk (set4 W B a' b' c' d') B t [a',b',c',d']:=by
 unfold Blk at h ⊢
 simp [set4,World.setCell,Array.getElem?_modify,h]
theorem blk_set5 {W:World} {B:Nat} {t:TypeId} {a b c d e:Value} (h:Blk W B t [a,b,c,d,e]) (a' b' c' d' e':Value):Blk (set5 W B a' b' c' d' e') B t [a',b',c',d',e']:=by
 unfold Blk at h ⊢
 simp [set5,World.setCell,Array.getElem?_modify,h]
theorem blk_put {W:World} {B:Nat} {t:TypeId} {cs:List Value} (h:Blk W B t cs) (i:Nat) (u:Value):Blk (W.setCell ⟨B,i,none⟩ u) B t (cs.set i u):=by
 unfold Blk at h ⊢
 simp [World.setCell,Array.getElem?_modify,h]
theorem grown_set (W:World) (b i:Nat) (v:Value):W.grownBy (W.setCell ⟨b,i,none⟩ v) (some b):=
 ⟨rfl,rfl,rfl,by simp [World.setCell],fun i _ hne => Below.heap_setCell _ _ _ _ (fun e => hne (by rw [e]))⟩
theorem grown_set3 (W:World) (B:Nat) (a b c:Value):W.grownBy (set3 W B a b c) (some B):=((grown_set _ _ _ _).trans (grown_set _ _ _ _)).trans (grown_set _ _ _ _)
theorem grown_set4 (W:World) (B:Nat) (a b c d:Value):W.grownBy (set4 W B a b c d) (some B):=(((grown_set _ _ _ _).trans (grown_set _ _ _ _)).trans (grown_set _ _ _ _)).trans (grown_set _ _ _ _)
theorem grown_set5 (W:World) (B:Nat) (a b c d e:Value):W.grownBy (set5 W B a b c d e) (some B):=
 ((((grown_set _ _ _ _).trans (grown_set _ _ _ _)).trans (grown_set _ _ _ _)).trans (grown_set _ _ _ _)).trans (grown_set _ _ _ _)
theorem below_grew {n:Nat} {w X Y:World} {B:Nat} (h:Below n w X) (hg:X.grownBy Y (some B)) (hn:n ≤ X.heap.size) (hB:n ≤ B):Below n w Y:=h.grown hg hn (fun r e => by cases e;exact hB)
/-! ### what is left alone -/
structure Kept (keep:Nat → Prop) (w w':World):Prop where
 os:w'.os = w.os
 tape:w'.tape = w.tape
 output:w'.output = w.output
 size:w.heap.size ≤ w'.heap.size
 block:∀ k,k < w.heap.size → keep k → w'.heap[k]? = w.heap[k]?
theorem Kept.refl (keep:Nat → Prop) (w:World):Kept keep w w:=⟨rfl,rfl,rfl,Nat.le_refl _,fun _ _ _ => rfl⟩
theorem Kept.trans {keep:Nat → Prop} {a b c:World} (h:Kept keep a b) (k:Kept keep b c):Kept keep a c:=
 ⟨k.os.trans h.os,k.tape.trans h.tape,k.output.trans h.output,Nat.le_trans h.size k.size,fun i hi hk => (k.block i (Nat.lt_of_lt_of_le hi h.size) hk).trans (h.block i hi hk)⟩
theorem Kept.mono {keep keep':Nat → Prop} {w w':World} (h:Kept keep w w') (hk:∀ k,k < w.heap.size → keep' k → keep k):Kept keep' w w':=⟨h.os,h.tape,h.output,h.size,fun i hi hi' => h.block i hi (hk i hi hi')⟩
theorem Kept.of_below {keep:Nat → Prop} {w w':World} (h:Below w.heap.size w w'):Kept keep w w':=⟨h.os,h.tape,h.output,h.size,fun i hi _ => h.block i hi⟩
theorem Kept.of_grown {keep:Nat → Prop} {w w':World} {row:Option Nat} (h:w.grownBy w' row) (hr:∀ k,row = some k → ¬ keep k):Kept keep w w':=
 ⟨h.os,h.tape,h.output,h.size,fun i hi hk => h.block i hi (fun e => hr i e.symm hk)⟩
theorem Kept.below {keep:Nat → Prop} {w w':World} (h:Kept keep w w') {B:Nat} (hB:B ≤ w.heap.size) (hk:∀ k,k < B → keep k):Below B w w':=
 ⟨h.os,h.tape,h.output,h.size,fun i hi => h.block i (by omega) (hk i hi)⟩
theorem Kept.setCell {keep:Nat → Prop} (w:World) (a:Addr) (v:Value) (h:¬ keep a.block):Kept keep w (w.setCell a v):=
 ⟨rfl,rfl,rfl,by simp [World.setCell],fun i _ hk => Below.heap_setCell _ _ _ _ (fun e => h (e ▸ hk))⟩
theorem Kept.drew {keep:Nat → Prop} {w w':World} (h:Kept keep w w'):Kept keep w w'.drew:=⟨h.os,h.tape,h.output,h.size,h.block⟩
abbrev But (R:Nat) (w w':World):Prop:=Kept (fun b => b ≠ R) w w'
theorem Kept.blk {keep:Nat → Prop} {W W':World} (h:Kept keep W W') {B:Nat} {t:TypeId} {cs:List Value} (k:Blk W B t cs) (hB:keep B):Blk W' B t cs:=(h.block B k.lt hB).trans k
theorem But.set (R:Nat) (W:World) (i:Nat) (v:Value):But R W (W.setCell ⟨R,i,none⟩ v):=Kept.setCell W _ v (by simp)
theorem Kept.fresh {keep:Nat → Prop} {w W:World} (h:Kept keep w W) {C i:Nat} (hC:w.heap.size ≤ C) (u:Value):Kept keep w (W.setCell ⟨C,i,none⟩ u):=by
 have hg:=grown_set W C i u
 exact ⟨hg.os.trans h.os,hg.tape.trans h.tape,hg.output.trans h.output,Nat.le_trans h.size hg.size,fun j hj hne => (hg.block j (Nat.lt_of_lt_of_le hj h.size) (fun e => by cases e;omega)).trans (h.block j hj hne)⟩
theorem Kept.grown {keep:Nat → Prop} {w W W':World} (h:Kept keep w W) {row:Option Nat} (hg:W.grownBy W' row) (hr:∀ k,row = some k → w.heap.size ≤ k ∨ ¬ keep k):Kept keep w W':=
 ⟨hg.os.trans h.os,hg.tape.trans h.tape,hg.output.trans h.output,Nat.le_trans h.size hg.size,fun j hj hk => (hg.block j (Nat.lt_of_lt_of_le hj h.size) (fun e => by rcases hr j e.symm with h1 | h1;omega;exact h1 hk)).trans (h.block j hj hk)⟩
/-! ### rows that are done -/
def Cl (W:World) (b:Nat):Prop:=∃ cs e f,W.heap[b]? = some (.cells cs e f) ∧ e ≠ 85
theorem Cl.lt {W:World} {b:Nat} (h:Cl W b):b < W.heap.size:=by
 obtain ⟨cs,e,f,h,_⟩:=h
 exact (Array.getElem?_eq_some_iff.1 h).1
theorem Cl.same {W W':World} {b:Nat} (h:Cl W b) (e:W'.heap[b]? = W.heap[b]?):Cl W' b:=by
 obtain ⟨cs,t,f,h,ht⟩:=h
 exact ⟨cs,t,f,e.trans h,ht⟩
theorem Blk.cl {W:World} {B:Nat} {t:TypeId} {cs:List Value} (h:Blk W B t cs) (ht:t ≠ 85):Cl W B:=⟨_,_,_,h,ht⟩
def RowAt (P:Nat → Prop) (W:World) (v:Value) (n:Nat) (cs:List Value):Prop:=
 (n = 0 ∧ cs = [] ∧ v = .slice none 0 0) ∨ ∃ g cap,v = .slice (some ⟨g,0,none⟩) n cap ∧ n ≤ cap ∧ cap ≤ maxLen ∧ P g ∧ Cl W g ∧ ∀ j u,cs[j]? = some u → W.cell? ⟨g,j,none⟩ = some u
def Fr (P P':Nat → Prop) (W W':World):Prop:=W.heap.size ≤ W'.heap.size ∧ ∀ b,P b → Cl W b → W'.heap[b]? = W.heap[b]? ∧ P' b
theorem cell_same {W W':World} {g j:Nat} (h:W'.heap[g]? = W.heap[g]?):W'.cell? ⟨g,j,none⟩ = W.cell? ⟨g,j,none⟩:=by
 unfold World.cell?
 rw [h]
theorem RowAt.fr {P P':Nat → Prop} {W W':World} {v:Value} {n:Nat} {cs:List Value} (h:RowAt P W v n cs) (f:Fr P P' W W'):RowAt P' W' v n cs:=by
 rcases h with h | ⟨g,cap,rfl,h1,h2,h3,h4,h5⟩
 ·exact .inl h
 ·obtain ⟨e,hp⟩:=f.2 g h3 h4
  exact .inr ⟨g,cap,rfl,h1,h2,hp,h4.same e,fun j u hj => (cell_same e).trans (h5 j u hj)⟩
theorem RowAt.nil (P:Nat → Prop) (W:World):RowAt P W (.slice none 0 0) 0 []:=.inl ⟨rfl,rfl,rfl⟩
theorem RowAt.form {P:Nat → Prop} {W:World} {v:Value} {n:Nat} {cs:List Value} (h:RowAt P W v n cs):∃ p cap,v = .slice p n cap ∧ n ≤ maxLen:=by
 rcases h with ⟨rfl,_,rfl⟩ | ⟨g,cap,rfl,h1,h2,_⟩
 ·exact ⟨none,0,rfl,Nat.zero_le _⟩
 ·exact ⟨_,_,rfl,Nat.le_trans h1 h2⟩
def FinRow {α:Type} (sz:Nat) (T:List Value → α → Prop) (P:Nat → Prop) (W:World) (v:Value) (l:List α):Prop:=
 ∃ css:List (List Value),RowAt P W v l.length css.flatten ∧ css.length = l.length ∧ (∀ c ∈ css,c.length = sz) ∧ ∀ (j:Nat) (c:List Value) (x:α),css[j]? = some c → l[j]? = some x → T c x
theorem FinRow.fr {α:Type} {sz:Nat} {T T':List Value → α → Prop} {P P':Nat → Prop} {W W':World} {v:Value} {l:List α} (h:FinRow sz T P W v l) (f:Fr P P' W W') (hT:∀ c x,T c x → T' c x):FinRow sz T' P' W' v l:=by
 obtain ⟨css,h1,h2,h3,h4⟩:=h
 exact ⟨css,h1.fr f,h2,h3,fun j c x hc hx => hT c x (h4 j c x hc hx)⟩
theorem FinRow.nil {α:Type} (sz:Nat) (T:List Value → α → Prop) (P:Nat → Prop) (W:World):FinRow sz T P W (.slice none 0 0) ([]:List α):=
 ⟨[],RowAt.nil P W,rfl,fun _ h => (by cases h),fun j c x h _ => by simp at h⟩
theorem FinRow.form {α:Type} {sz:Nat} {T:List Value → α → Prop} {P:Nat → Prop} {W:World} {v:Value} {l:List α} (h:FinRow sz T P W v l):∃ p cap,v = .slice p l.length cap ∧ l.length ≤ maxLen:=h.choose_spec.1.form
theorem flatten_at {sz:Nat}:∀ (css:List (List Value)) (j:Nat) (c:List Value),(∀ c ∈ css,c.length = sz) → css[j]? = some c → ∀ i,i < sz → css.flatten[j * sz + i]? = c[i]?
 | [],j,c,_,h => by simp at h
 | x :: css,0,c,hs,h => by
  intro i hi
  obtain rfl:x = c:=by simpa using h
  rw [List.flatten_cons,Nat.zero_mul,Nat.zero_add,List.getElem?_append_left (by rw [hs x (List.mem_cons_self ..)];exact hi)]
 | x :: css,j + 1,c,hs,h => by
  intro i hi
  have ih:=flatten_at css j c (fun c hc => hs c (List.mem_cons_of_mem _ hc)) (by simpa using h) i hi
  have hx:=hs x (List.mem_cons_self ..)
  have e:(j + 1) * sz = sz + j * sz:=by rw [Nat.add_mul,Nat.one_mul,Nat.add_comm]
  rw [List.flatten_cons,List.getElem?_append_right (by rw [hx,e];omega),← ih]
  congr 1
  rw [hx,e]
  omega
theorem FinRow.get {α:Type} {sz:Nat} {T:List Value → α → Prop} {P:Nat → Prop} {W:World} {p:Option Addr} {n cap:Nat} {l:List α} (h:FinRow sz T P W (.slice p n cap) l) {j:Nat} {x:α} (hx:l[j]? = some x) :
  ∃ g c,p = some ⟨g,0,none⟩ ∧ P g ∧ Cl W g ∧ l.length ≤ cap ∧ cap ≤ maxLen ∧ c.length = sz ∧ T c x ∧ ∀ i u,c[i]? = some u → W.cell? ⟨g,j * sz + i,none⟩ = some u:=by
 obtain ⟨css,h1,h2,h3,h4⟩:=h
 have hj:j < l.length:=(List.getElem?_eq_some_iff.1 hx).1
 rcases h1 with ⟨h0,_⟩ | ⟨g,cap',e,h5,h6,h7,h8,h9⟩
 ·omega
 ·cases e
  have hc:css[j]? = some (css[j]'(by omega)):=List.getElem?_eq_getElem (by omega)
  have hsz:=h3 _ (List.mem_of_getElem? hc)
  refine ⟨g,_,rfl,h7,h8,h5,h6,hsz,h4 j _ x hc hx,fun i u hu => h9 _ u ?_⟩
  rw [flatten_at css j _ h3 hc i (by rw [← hsz];exact (List.getElem?_eq_some_iff.1 hu).1)]
  exact hu
/-! ### trees that are done -/
def StrsF (P:Nat → Prop) (W:World) (v:Value) (l:List ByteArray):Prop:=FinRow 1 (fun c x => c = [Value.string x]) P W v l
def atCells (a:At):List Value:=[.string a.name,.int .i64 a.op,.string a.text]
def AttrsF (P:Nat → Prop) (W:World) (v:Value) (l:List At):Prop:=FinRow 3 (fun c x => c = atCells x) P W v l
def psCells (p:Ps) (x:Value):List Value:=[.int .i64 p.kind,.int .i64 p.a,.int .i64 p.b,x]
def PsT (Q:Value → List Sel → Prop) (c:List Value) (p:Ps):Prop:=∃ x,c = psCells p x ∧ Q x p.list
def PssF (Q:Value → List Sel → Prop) (P:Nat → Prop) (W:World) (v:Value) (l:List Ps):Prop:=FinRow 4 (PsT Q) P W v l
def CpT (Q:Value → List Sel → Prop) (P:Nat → Prop) (W:World) (c:List Value) (q:Cp):Prop:=
 ∃ i k a p,c = [.string q.tag,i,k,a,p] ∧ StrsF P W i q.ids ∧ StrsF P W k q.classes ∧ AttrsF P W a q.attrs ∧ PssF Q P W p q.pss
def PtT (Q:Value → List Sel → Prop) (P:Nat → Prop) (W:World) (c:List Value) (q:Pt):Prop:=∃ c',c = .int .i64 q.1 :: c' ∧ CpT Q P W c' q.2
def PtsF (Q:Value → List Sel → Prop) (P:Nat → Prop) (W:World) (v:Value) (l:Sel):Prop:=FinRow 6 (PtT Q P W) P W v l
def SlT (Q:Value → List Sel → Prop) (P:Nat → Prop) (W:World) (c:List Value) (s:Sel):Prop:=∃ x,c = [x] ∧ PtsF Q P W x s
def SelsG (Q:Value → List Sel → Prop) (P:Nat → Prop) (W:World) (v:Value) (l:List Sel):Prop:=FinRow 1 (SlT Q P W) P W v l
def SelsAt:Nat → (Nat → Prop) → World → Value → List Sel → Prop
 | 0,_,_,v,l => l = [] ∧ v = .slice none 0 0
 | d + 1,P,W,v,l => SelsG (SelsAt d P W) P W v l
theorem CpT.fr {Q Q':Value → List Sel → Prop} {P P':Nat → Prop} {W W':World} {c:List Value} {q:Cp} (h:CpT Q P W c q) (f:Fr P P' W W') (hQ:∀ x l,Q x l → Q' x l):CpT Q' P' W' c q:=by
 obtain ⟨i,k,a,p,h0,h1,h2,h3,h4⟩:=h
 exact ⟨i,k,a,p,h0,FinRow.fr h1 f (fun _ _ e => e),FinRow.fr h2 f (fun _ _ e => e),FinRow.fr h3 f (fun _ _ e => e),FinRow.fr h4 f (fun _ _ ⟨x,e,hx⟩ => ⟨x,e,hQ _ _ hx⟩)⟩
theorem PtsF.fr {Q Q':Value → List Sel → Prop} {P P':Nat → Prop} {W W':World} {v:Value} {l:Sel} (h:PtsF Q P W v l) (f:Fr P P' W W') (hQ:∀ x l,Q x l → Q' x l):PtsF Q' P' W' v l:=
 FinRow.fr h f (fun _ _ ⟨c',e,hc⟩ => ⟨c',e,hc.fr f hQ⟩)
theorem SelsG.fr {Q Q':Value → List Sel → Prop} {P P':Nat → Prop} {W W':World} {v:Value} {l:List Sel} (h:SelsG Q P W v l) (f:Fr P P' W W') (hQ:∀ x l,Q x l → Q' x l):SelsG Q' P' W' v l:=
 FinRow.fr h f (fun _ _ ⟨x,e,hx⟩ => ⟨x,e,PtsF.fr hx f hQ⟩)
theorem SelsAt.fr:∀ (d:Nat) {P P':Nat → Prop} {W W':World} {v:Value} {l:List Sel},SelsAt d P W v l → Fr P P' W W' → SelsAt d P' W' v l
 | 0,_,_,_,_,_,_,h,_ => h
 | d + 1,_,_,_,_,_,_,h,f => SelsG.fr h f (fun _ _ hx => SelsAt.fr d hx f)
theorem SelsAt.nil:∀ (d:Nat) (P:Nat → Prop) (W:World),SelsAt d P W (.slice none 0 0) []
 | 0,_,_ => ⟨rfl,rfl⟩
 | _ + 1,_,_ => FinRow.nil _ _ _ _
theorem Fr.of_kept {keep P P':Nat → Prop} {W W':World} (h:Kept keep W W') (hp:∀ b,P b → Cl W b → keep b ∧ P' b):Fr P P' W W':=⟨h.size,fun b hb hl => ⟨h.block b hl.lt (hp b hb hl).1,(hp b hb hl).2⟩⟩
theorem Fr.of_below {P P':Nat → Prop} {W W':World} (h:Below W.heap.size W W') (hp:∀ b,P b → Cl W b → P' b):Fr P P' W W':=⟨h.size,fun b hb hl => ⟨h.block b hl.lt,hp b hb hl⟩⟩
/-! ### rows under way -/
def UndRow {α:Type} (e:TypeId) (sz:Nat) (T:(Nat → Prop) → World → List Value → α → Prop) (n:Nat) (P:Nat → Prop) (W:World) (v:Value) (l:List α):Prop:=
 ∃ css:List (List Value),W.ownsRow n e sz v l.length css.flatten ∧ css.length = l.length ∧ (∀ c ∈ css,c.length = sz) ∧ ∀ (j:Nat) (c:List Value) (x:α),css[j]? = some c → l[j]? = some x → T P W c x
def Stays {α:Type} (T:(Nat → Prop) → World → List Value → α → Prop):Prop:=∀ P P' W W' c x,T P W c x → Fr P P' W W' → T P' W' c x
theorem UndRow.nil {α:Type} (e:TypeId) (sz:Nat) (T:(Nat → Prop) → World → List Value → α → Prop) (n:Nat) (P:Nat → Prop) (W:World):UndRow e sz T n P W (.slice none 0 0) ([]:List α):=
 ⟨[],World.ownsRow_nil _ _ _ _,rfl,fun _ h => (by cases h),fun j c x h _ => by simp at h⟩
theorem owns_same {W W':World} {b:Nat} {e:TypeId} {s:Nat} {v:Value} {n:Nat} {xs:List Value} (h:W.ownsRow b e s v n xs) (hs:∀ g,v.ownBlock = some g → W'.heap[g]? = W.heap[g]?):W'.ownsRow b e s v n xs:=by
 refine ⟨h.1,?_⟩
 rcases h.2 with h | ⟨g,cap,cur,rfl,h1,h2,h3⟩
 ·exact .inl h
 ·exact .inr ⟨g,cap,cur,rfl,h1,(hs g rfl).trans h2,h3⟩
theorem owns_lt {W:World} {b:Nat} {e:TypeId} {s:Nat} {v:Value} {n:Nat} {xs:List Value} (h:W.ownsRow b e s v n xs) {g:Nat} (hg:v.ownBlock = some g):b ≤ g ∧ g < W.heap.size:=by
 rcases h.2 with ⟨rfl,_⟩ | ⟨g',cap,cur,rfl,h1,h2,h3⟩
 ·simp [Value.ownBlock] at hg
 ·simp [Value.ownBlock] at hg
  subst hg
  exact ⟨h1,(Array.getElem?_eq_some_iff.1 h2).1⟩
theorem owns_form {X:World} {b:Nat} {e:TypeId} {size:Nat} {v:Value} {m:Nat} {xs:List Value} (h:X.ownsRow b e size v m xs):∃ q c,v = .slice q m c:=by
 rcases h.2 with ⟨rfl,h0⟩ | ⟨g,cap,cur,rfl,_⟩
 ·exact ⟨none,0,by rw [h0]⟩
 ·exact ⟨_,_,rfl⟩
theorem owns_apart {W:World} {b:Nat} {e:TypeId} {s:Nat} {v:Value} {n:Nat} {xs:List Value} (h:W.ownsRow b e s v n xs) {g:Nat} {o:Obj} (hg:W.heap[g]? = some o) (ho:∀ c f,o ≠ .cells c e f):v.ownBlock ≠ some g:=by
 intro hv
 rcases h.2 with ⟨rfl,_⟩ | ⟨g',cap,cur,rfl,h1,h2,h3⟩
 ·simp [Value.ownBlock] at hv
 ·simp [Value.ownBlock] at hv
  subst hv
  rw [h2] at hg
  injection hg with hg
  exact ho _ _ hg.symm
theorem UndRow.kept {α:Type} {e:TypeId} {sz:Nat} {T:(Nat → Prop) → World → List Value → α → Prop} (hT:Stays T) {n:Nat} {P P':Nat → Prop} {W W':World} {v:Value} {l:List α} (h:UndRow e sz T n P W v l) (f:Fr P P' W W') (hs:∀ g,v.ownBlock = some g → W'.heap[g]? = W.heap[g]?):UndRow e sz T n P' W' v l:=by
 obtain ⟨css,h1,h2,h3,h4⟩:=h
 exact ⟨css,owns_same h1 hs,h2,h3,fun j c x hc hx => hT _ _ _ _ _ _ (h4 j c x hc hx) f⟩
theorem UndRow.done {α:Type} {e:TypeId} {sz:Nat} {T:(Nat → Prop) → World → List Value → α → Prop} {n:Nat} {P P':Nat → Prop} {W:World} {v:Value} {l:List α} (h:UndRow e sz T n P W v l) (he:e ≠ 85) (hT:Stays T) (hP:∀ b,P b → P' b) (hv:∀ g,v.ownBlock = some g → P' g):FinRow sz (T P' W) P' W v l:=by
 obtain ⟨css,h1,h2,h3,h4⟩:=h
 refine ⟨css,?_,h2,h3,fun j c x hc hx => hT _ _ _ _ _ _ (h4 j c x hc hx) ⟨Nat.le_refl _,fun b hb _ => ⟨rfl,hP b hb⟩⟩⟩
 rcases h1.2 with ⟨hv',hm⟩ | ⟨g,cap,cur,hv',hg,hb,a1,a2,a3,a4⟩
 ·have hl:css.flatten = []:=by
   have:=h1.1
   rw [hm,Nat.zero_mul] at this
   exact List.length_eq_zero_iff.1 this
  exact .inl ⟨hm,hl,hv'⟩
 ·refine .inr ⟨g,cap,hv',a1,a2,hv g (by rw [hv'];rfl),⟨_,_,_,hb,he⟩,fun j u hj => ?_⟩
  rw [cell_of_block hb]
  have hj':j < css.flatten.length:=(List.getElem?_eq_some_iff.1 hj).1
  rw [← a4,List.getElem?_take] at hj
  split at hj
  ·simpa using hj
  ·cases hj
theorem UndRow.form {α:Type} {e:TypeId} {sz:Nat} {T:(Nat → Prop) → World → List Value → α → Prop} {n:Nat} {P:Nat → Prop} {W:World} {v:Value} {l:List α} (h:UndRow e sz T n P W v l):∃ q c,v = .slice q l.length c:=owns_form h.choose_spec.1
theorem UndRow.lt {α:Type} {e:TypeId} {sz:Nat} {T:(Nat → Prop) → World → List Value → α → Prop} {n:Nat} {P:Nat → Prop} {W:World} {v:Value} {l:List α} (h:UndRow e sz T n P W v l) {g:Nat} (hg:v.ownBlock = some g):n ≤ g ∧ g < W.heap.size:=owns_lt h.choose_spec.1 hg
end Go.Proofs.YtcmmdojlhfmddaaGreat.Sl

/- One token as a value; results of structs; slices of ints: is one among them? -/
namespace Go.Proofs.YtcmmdojlhfmddaaGreat.Sl
open Go.Proofs.YtcmmdojlhfmddaaGreat.Tre
open Go Go.RowKit
def zeroT:Bt:=⟨0,⟨#[]⟩,0,false,0⟩
def at' (r:List Bt) (k:Nat):Bt:=r[k]?.getD zeroT
theorem at_drop (ts:List Bt) (b:Nat):at' ts b = (ts.drop b).head?.getD zeroT:=by
 unfold at'
 rw [List.head?_drop]
theorem at_lt {ts:List Bt} {a:Nat} (h:(at' ts a).kind ≠ 0):a < ts.length:=by
 by_cases hl:a < ts.length
 ·exact hl
 ·refine absurd ?_ h
  unfold at'
  rw [List.getElem?_eq_none (by omega)]
  rfl
theorem at_cons {ts:List Bt} {a:Nat} (h:a < ts.length):ts.drop a = at' ts a :: ts.drop (a + 1):=by
 rw [List.drop_eq_getElem_cons h,at',List.getElem?_eq_getElem h]
 rfl
theorem at_none {ts:List Bt} {a:Nat} (h:ts.length ≤ a):ts.drop a = [] ∧ at' ts a = zeroT:=
 ⟨List.drop_eq_nil_of_le h,by unfold at';rw [List.getElem?_eq_none h];rfl⟩
def Good (ts:List Bt):Prop:=∀ t ∈ ts,t.text.size ≤ 1000000 ∧ -9223372036854775808 ≤ t.n ∧ t.n ≤ 9223372036854775807
theorem Good.at {ts:List Bt} (h:Good ts) (a:Nat):(at' ts a).text.size ≤ 1000000 ∧ -9223372036854775808 ≤ (at' ts a).n ∧ (at' ts a).n ≤ 9223372036854775807:=by
 unfold at'
 cases e:ts[a]? with
 | none => decide
 | some t => exact h t (List.mem_of_getElem? e)
theorem infoTkS:(Tryz.prog.info? 85).map (·.size) = some 5:=by kernel_rfl
theorem load_tk {w:World} {g:Nat} {a b c d e:Value} (h:Blk w g 85 [a,b,c,d,e]):(loadVar 85 ⟨g,0,none⟩).run Tryz.prog w = .ok (.agg #[a,b,c,d,e]) w:=
 run_loadVar_row w g _ 85 #[a,b,c,d,e] (0,0) _ h Tryz.underlying85 rfl infoTkS
theorem tkField0 (k:Int) (s:ByteArray) (n:Int) (b:Bool) (c:Int) (w:World):(Instr.field 85 (.agg #[.int .i64 k,.string s,.int .i64 n,.bool b,.int .i64 c]) 0).run Tryz.prog w = .ok (.int .i64 k) w:=by kernel_rfl
theorem tkField1 (k:Int) (s:ByteArray) (n:Int) (b:Bool) (c:Int) (w:World):(Instr.field 85 (.agg #[.int .i64 k,.string s,.int .i64 n,.bool b,.int .i64 c]) 1).run Tryz.prog w = .ok (.string s) w:=by kernel_rfl
theorem tkField4 (k:Int) (s:ByteArray) (n:Int) (b:Bool) (c:Int) (w:World):(Instr.field 85 (.agg #[.int .i64 k,.string s,.int .i64 n,.bool b,.int .i64 c]) 4).run Tryz.prog w = .ok (.int .i64 c) w:=by kernel_rfl
def tkV (t:Bt):Value:=.agg #[.int .i64 t.kind,.string t.text,.int .i64 t.n,.bool t.whole,.int .i64 t.c]
theorem results_struct {fn:Func} {p:Tmp} {ty:TypeId} (h:fn.results = #[.cell p ty]) (tmps:Array Value) (w:World) (g:Nat) (x:Value)
  (hp:tmps.getD p undef = .pointer (some ⟨g,0,none⟩)) (hl:(loadVar ty ⟨g,0,none⟩).run Tryz.prog w = .ok x w) :
  (results fn tmps).run Tryz.prog w = .ok x w:=by
 have hp':tmps[p]?.getD undef = .pointer (some ⟨g,0,none⟩):=by simpa using hp
 simp [results,h,hp',asAddr,hl]
/-! ### a child's number, by places -/
theorem abV_real {ts:List Bt} {b:Nat} {x:Int × Int} (h:abV (at' ts b) = some x):b < ts.length:=at_lt (fun e => by
 unfold abV at h
 simp [e] at h)
theorem nth_some {ts:List Bt} {a b c:Nat} {x:Int × Int} (hdb:ts.drop b = dropW (ts.drop a)) (h:abV (at' ts b) = some x) (hc:ts.drop c = dropW (ts.drop (b + 1))) :
  nthV (ts.drop a) = if (at' ts c).kind = 17 then some (x.1,x.2,ts.drop (c + 1)) else none:=by
 unfold nthV
 rw [← hdb,at_cons (abV_real h)]
 simp only [h,Option.bind_some,← hc]
 by_cases hl:c < ts.length
 ·rw [at_cons hl]
 ·rw [List.drop_eq_nil_of_le (by omega),(at_none (by omega)).2]
  rfl
end Go.Proofs.YtcmmdojlhfmddaaGreat.Sl
