/- Values, as plain functions: what a word, digits, a length, a number, a token are to each property; as package value reads them and as the document says it, and that both are one. -/
import Derived.Test.YtcmmdojlhfmddaaGreatProg
import Derived.Test.YtcmmdojlhfmddaaGreatDcLow
import Derived.WalkKit
import Derived.Below
import Derived.OwnWalk
import Derived.WalkSmall
import Derived.Laws.OwnMore
import Derived.Laws.Rows
import Derived.Laws.IdiomStrings
import Derived.Maps.AppendAt
import Derived.Deep.QuietTactic
import Derived.Deep.RegionWith
import Derived.Deep.DeepCutAuto
import Derived.Deep.CutBlock
import Derived.Deep.RegionHeld
import Derived.BigQuiet
import Derived.Deep.RegionLaw
import Derived.Deep.AppendLies
namespace Go.Proofs.YtcmmdojlhfmddaaGreat.Vl
open Go
abbrev Vv:=Int × Int × Bool
def no:Vv:=(0,0,false)
def wordsT:List (Int × List UInt8 × Int × Int):=
 [(-1,[105,110,104,101,114,105,116],7,0),(-1,[105,110,105,116,105,97,108],8,0),(-1,[117,110,115,101,116],9,0),
  (0,[98,108,97,99,107],6,0),(0,[119,104,105,116,101],6,16777215),(0,[114,101,100],6,16711680),(0,[103,114,101,101,110],6,32768),(0,[98,108,117,101],6,255),
  (2,[108,101,102,116],1,0),(2,[114,105,103,104,116],1,1),(2,[99,101,110,116,101,114],1,2),
  (3,[110,111,110,101],1,0),(3,[98,108,111,99,107],1,1),(3,[105,110,108,105,110,101],1,2),(4,[97,117,116,111],1,0),(7,[97,117,116,111],1,0)]
def hits (r:Int × List UInt8 × Int × Int) (p:Int) (s:List UInt8):Bool:=(decide (r.1 = p) || decide (r.1 = -1)) && decide (r.2.1 = s)
def wordL:List (Int × List UInt8 × Int × Int) → Int → List UInt8 → Vv
 | [],_,_ => no
 | r :: l,p,s => if hits r p s then (r.2.2.1,r.2.2.2,true) else wordL l p s
def wordV (p:Int) (s:List UInt8):Vv:=wordL wordsT p s
/-! ### digits -/
def digV (c:UInt8):Int × Bool:=
 if 48 ≤ c.toNat ∧ c.toNat ≤ 57 then ((c.toNat:Int) - 48,true) else if 97 ≤ c.toNat ∧ c.toNat ≤ 102 then ((c.toNat:Int) - 87,true) else if 65 ≤ c.toNat ∧ c.toNat ≤ 70 then ((c.toNat:Int) - 55,true) else (0,false)
def more (sh:Bool) (n d:Int):Int:=if sh then 16 * (16 * n + d) + d else 16 * n + d
def colF (sh:Bool):Int → List UInt8 → Option Int
 | n,[] => some n
 | n,c :: l => if (digV c).2 then colF sh (more sh n (digV c).1) l else none
def colorN (s:List UInt8):Option Int:=if s.length = 3 ∨ s.length = 6 then colF (s.length == 3) 0 s else none
def colorV (p:Int) (s:List UInt8):Vv:=if p = 0 then match colorN s with
  | some n => (6,n,true)
  | none => no
 else no
def lengthV (p k n:Int):Vv:=if p = 5 ∨ (0 ≤ n ∧ (p = 1 ∨ p = 4)) then (k,n,true) else no
def cutV (n:Int):Int:=if n < 0 then 0 else if 1000 < n then 1000 else n
def numberV (p n:Int) (wh:Bool):Vv:=if p = 5 ∧ n = 0 then (2,0,true) else if p = 6 then (5,cutV n,true) else if p = 7 ∧ wh = true then (5,n,true) else no
def pxT:List UInt8:=[112,120]
def emT:List UInt8:=[101,109]
def readV (p kind:Int) (text low:List UInt8) (n:Int) (wh:Bool):Vv:=
 if kind = 1 then wordV p low
 else if kind = 3 then colorV p text
 else if kind = 8 then (if low = pxT then lengthV p 2 n else if low = emT then lengthV p 3 n else no)
 else if kind = 7 then lengthV p 4 n
 else if kind = 6 then numberV p n wh
 else no
/-! ### the document's own -/
def idx:List (List UInt8) → List UInt8 → Option Nat
 | [],_ => none
 | x :: l,s => if x = s then some 0 else (idx l s).map (· + 1)
def wideT:List (List UInt8):=[[105,110,104,101,114,105,116],[105,110,105,116,105,97,108],[117,110,115,101,116]]
def colT:List (List UInt8):=[[98,108,97,99,107],[119,104,105,116,101],[114,101,100],[103,114,101,101,110],[98,108,117,101]]
def alT:List (List UInt8):=[[108,101,102,116],[114,105,103,104,116],[99,101,110,116,101,114]]
def dispT:List (List UInt8):=[[110,111,110,101],[98,108,111,99,107],[105,110,108,105,110,101]]
def autoT:List (List UInt8):=[[97,117,116,111]]
def keyV (kind:Int) (low:List UInt8) (l:List (List UInt8)):Vv:=if kind = 1 then match idx l low with
  | some n => (1,(n:Int),true)
  | none => no
 else no
def lenV (kind:Int) (low:List UInt8) (n:Int):Vv:=if kind = 7 then (4,n,true) else if kind = 8 ∧ low = pxT then (2,n,true) else if kind = 8 ∧ low = emT then (3,n,true) else no
def colTab:List Int:=[0,16777215,16711680,32768,255]
def restV (p kind:Int) (text low:List UInt8) (n:Int) (wh:Bool):Vv:=
 if p = 0 then (if kind = 3 then (match colorN text with
   | some n => (6,n,true)
   | none => no) else if kind = 1 then (match idx colT low with
   | some i => (6,colTab.getD i 0,true)
   | none => no) else no)
 else if p = 2 then keyV kind low alT
 else if p = 3 then keyV kind low dispT
 else if p = 6 then (if kind = 6 then (5,cutV n,true) else no)
 else if p = 7 then (if kind = 6 ∧ wh = true then (5,n,true) else keyV kind low autoT)
 else if p = 5 then (if kind = 6 ∧ n = 0 then (2,0,true) else lenV kind low n)
 else if (lenV kind low n).2.2 = true ∧ n < 0 then no
 else if (lenV kind low n).2.2 = false ∧ p = 4 then keyV kind low autoT
 else lenV kind low n
def refV (p kind:Int) (text low:List UInt8) (n:Int) (wh:Bool):Vv:=
 if kind = 1 then (match idx wideT low with
  | some i => (7 + (i:Int),0,true)
  | none => restV p kind text low n wh)
 else restV p kind text low n wh
theorem wordV_eq (p:Int) (hp:0 ≤ p ∧ p < 8) (text low:List UInt8) (n:Int) (wh:Bool):refV p 1 text low n wh = wordV p low:=by
 obtain rfl | rfl | rfl | rfl | rfl | rfl | rfl | rfl:p = 0 ∨ p = 1 ∨ p = 2 ∨ p = 3 ∨ p = 4 ∨ p = 5 ∨ p = 6 ∨ p = 7:=by omega
 all_goals
  simp only [refV,restV,keyV,lenV,wordV,wordL,wordsT,hits,idx,wideT,colT,alT,dispT,autoT,colTab,no]
  simp
  repeat' (first | rfl | split)
  all_goals (try simp_all)
  all_goals (try subst_vars)
  all_goals (try rfl)
  all_goals (try omega)
theorem refV_eq (p:Int) (hp:0 ≤ p ∧ p < 8) (kind:Int) (text low:List UInt8) (n:Int) (wh:Bool):refV p kind text low n wh = readV p kind text low n wh:=by
 by_cases h1:kind = 1
 ·subst h1
  rw [wordV_eq p hp]
  rfl
 have e:refV p kind text low n wh = restV p kind text low n wh:=by unfold refV;rw [if_neg h1]
 rw [e]
 obtain rfl | rfl | rfl | rfl | rfl | rfl | rfl | rfl:p = 0 ∨ p = 1 ∨ p = 2 ∨ p = 3 ∨ p = 4 ∨ p = 5 ∨ p = 6 ∨ p = 7:=by omega
 all_goals
  simp [restV,readV,keyV,lenV,colorV,lengthV,numberV,no,h1]
  repeat' split
  all_goals first | rfl | omega | simp_all | (simp_all;omega)
end Go.Proofs.YtcmmdojlhfmddaaGreat.Vl

/- Slices of tokens, blocks of cells, values in blocks: what the walks of package value ask of the world. -/
namespace Go.Proofs.YtcmmdojlhfmddaaGreat.Vl
open Go Go.RowKit
theorem cell_of_block {X:World} {g:Nat} {cur:Array Value} {t:TypeId} {fz:Nat × Nat} (h:X.heap[g]? = some (.cells cur t fz)) (j:Nat):X.cell? ⟨g,j,none⟩ = cur[j]?:=by
 unfold World.cell?
 rw [h]
 rfl
theorem below_drew {n₀:Nat} {a b:World} (h:Below n₀ a b):Below n₀ a b.drew:=⟨h.os,h.tape,h.output,h.size,h.block⟩
theorem below_next {w W W':World} (h:Below w.heap.size w W) (hb:Below W.heap.size W W'):Below w.heap.size w W':=h.trans (hb.mono h.size)
theorem addr_add (bk off j:Nat):(⟨bk,off,none⟩:Addr).add j = ⟨bk,off + j,none⟩:=by
 cases j with
 | zero => rfl
 | succ j => simp [Addr.add]
structure Bt where
 kind:Int
 text:ByteArray
 n:Int
 whole:Bool
 c:Int
deriving DecidableEq
def btCells (t:Bt):List Value:=[.int .i64 t.kind,.string t.text,.int .i64 t.n,.bool t.whole,.int .i64 t.c]
def btsCells (l:List Bt):List Value:=l.flatMap btCells
def BtAt (W:World) (bk o:Nat) (t:Bt):Prop:=
 W.cell? ⟨bk,o,none⟩ = some (.int .i64 t.kind) ∧ W.cell? ⟨bk,o + 1,none⟩ = some (.string t.text) ∧ W.cell? ⟨bk,o + 2,none⟩ = some (.int .i64 t.n) ∧ W.cell? ⟨bk,o + 3,none⟩ = some (.bool t.whole) ∧ W.cell? ⟨bk,o + 4,none⟩ = some (.int .i64 t.c)
def BtsAt (n₀:Nat) (W:World) (v:Value) (ts:List Bt):Prop:=
 (ts = [] ∧ (v = .slice none 0 0 ∨ ∃ x cap,v = .slice (some x) 0 cap ∧ cap ≤ maxLen)) ∨ ∃ bk off cap,v = .slice (some ⟨bk,off,none⟩) ts.length cap ∧ ts.length ≤ cap ∧ cap ≤ maxLen ∧ bk < n₀ ∧ ∀ j t,ts[j]? = some t → BtAt W bk (off + j * 5) t
theorem BtAt.below {n₀:Nat} {X Y:World} {bk o:Nat} {t:Bt} (h:BtAt X bk o t) (hb:Below n₀ X Y) (hbk:bk < n₀):BtAt Y bk o t:=by
 obtain ⟨h0,h1,h2,h3,h4⟩:=h
 exact ⟨(hb.cell (p:=⟨bk,_,none⟩) hbk).trans h0,(hb.cell (p:=⟨bk,_,none⟩) hbk).trans h1,(hb.cell (p:=⟨bk,_,none⟩) hbk).trans h2,(hb.cell (p:=⟨bk,_,none⟩) hbk).trans h3,(hb.cell (p:=⟨bk,_,none⟩) hbk).trans h4⟩
theorem BtsAt.below {n₀:Nat} {X Y:World} {v:Value} {l:List Bt} (h:BtsAt n₀ X v l) (hb:Below n₀ X Y):BtsAt n₀ Y v l:=by
 rcases h with h | ⟨bk,off,cap,rfl,h1,h2,hbk,h⟩
 ·exact .inl h
 ·exact .inr ⟨bk,off,cap,rfl,h1,h2,hbk,fun j t hj => (h j t hj).below hb hbk⟩
theorem BtsAt.mono {n₀ n₁:Nat} {X:World} {v:Value} {l:List Bt} (h:BtsAt n₀ X v l) (hn:n₀ ≤ n₁):BtsAt n₁ X v l:=by
 rcases h with h | ⟨bk,off,cap,rfl,h1,h2,hbk,h⟩
 ·exact .inl h
 ·exact .inr ⟨bk,off,cap,rfl,h1,h2,by omega,h⟩
theorem BtsAt.next {X Y:World} {v:Value} {l:List Bt} (h:BtsAt X.heap.size X v l) (hb:Below X.heap.size X Y):BtsAt Y.heap.size Y v l:=(h.below hb).mono hb.size
theorem BtsAt.len {n₀:Nat} {X:World} {v:Value} {l:List Bt} (h:BtsAt n₀ X v l):∃ p cap,v = .slice p l.length cap:=by
 rcases h with ⟨rfl,rfl | ⟨x,cap,rfl,_⟩⟩ | ⟨bk,off,cap,rfl,_⟩
 ·exact ⟨_,_,rfl⟩
 ·exact ⟨_,_,rfl⟩
 ·exact ⟨_,_,rfl⟩
theorem BtsAt.get {n₀:Nat} {X:World} {p:Option Addr} {n cap:Nat} {l:List Bt} (h:BtsAt n₀ X (.slice p n cap) l) {k:Nat} {t:Bt} (hk:l[k]? = some t):∃ bk off,p = some ⟨bk,off,none⟩ ∧ bk < n₀ ∧ l.length ≤ cap ∧ cap ≤ maxLen ∧ BtAt X bk (off + k * 5) t:=by
 rcases h with ⟨rfl,_⟩ | ⟨bk,off,c,e,h1,h2,hb,h⟩
 ·simp at hk
 ·cases e
  exact ⟨bk,off,rfl,hb,h1,h2,h k t hk⟩
theorem btsCells_length:∀ l:List Bt,(btsCells l).length = l.length * 5
 | [] => rfl
 | t :: l => by
  have:=btsCells_length l
  unfold btsCells at this ⊢
  rw [List.flatMap_cons,List.length_append,this,List.length_cons]
  show 5 + _ = _
  omega
theorem btsCells_at:∀ (l:List Bt) (j:Nat) (t:Bt),l[j]? = some t → ∀ i,i < 5 → (btsCells l)[j * 5 + i]? = (btCells t)[i]?
 | [],j,t,h => by simp at h
 | x :: l,0,t,h => by
  intro i hi
  obtain rfl:x = t:=by simpa using h
  unfold btsCells
  rw [List.flatMap_cons,Nat.zero_mul,Nat.zero_add,List.getElem?_append_left (by show i < 5;exact hi)]
 | x :: l,j + 1,t,h => by
  intro i hi
  have ih:=btsCells_at l j t (by simpa using h) i hi
  unfold btsCells at ih ⊢
  rw [List.flatMap_cons,List.getElem?_append_right (by show 5 ≤ _;omega),← ih]
  congr 1
  show (j + 1) * 5 + i - 5 = _
  omega
/-! ### blocks -/
def Blk (W:World) (B:Nat) (t:TypeId) (cs:List Value):Prop:=W.heap[B]? = some (.cells cs.toArray t (0,0))
theorem Blk.lt {W:World} {B:Nat} {t:TypeId} {cs:List Value} (h:Blk W B t cs):B < W.heap.size:=(Array.getElem?_eq_some_iff.1 h).1
theorem Blk.kept {W W':World} {row:Option Nat} {B:Nat} {t:TypeId} {cs:List Value} (h:Blk W B t cs) (hg:W.grownBy W' row) (hne:some B ≠ row):Blk W' B t cs:=(hg.block B h.lt hne).trans h
theorem Blk.below {W W':World} {n:Nat} {B:Nat} {t:TypeId} {cs:List Value} (h:Blk W B t cs) (hb:Below n W W') (hn:B < n):Blk W' B t cs:=(hb.block B hn).trans h
theorem Blk.new (w:World) (t:TypeId) (cs:List Value):Blk (w.alloc (.cells cs.toArray t)) w.heap.size t cs:=heap_alloc_new w _
def set3 (W:World) (B:Nat) (a b c:Value):World:=((W.setCell ⟨B,0,none⟩ a).setCell ⟨B,1,none⟩ b).setCell ⟨B,2,none⟩ c
theorem blk5 {W:World} {B:Nat} {t:TypeId} {a b c d e:Value} (h:Blk W B t [a,b,c,d,e]):(W.cell? ⟨B,0,none⟩ = some a ∧ W.cell? ⟨B,1,none⟩ = some b ∧ W.cell? ⟨B,2,none⟩ = some c ∧ W.cell? ⟨B,3,none⟩ = some d ∧ W.cell? ⟨B,4,none⟩ = some e) ∧ W.frozen? ⟨B,0,none⟩ = false ∧ W.frozen? ⟨B,1,none⟩ = false ∧ W.frozen? ⟨B,2,none⟩ = false ∧ W.frozen? ⟨B,3,none⟩ = false ∧ W.frozen? ⟨B,4,none⟩ = false:=by
 simp [World.cell?,World.frozen?,show W.heap[B]? = _ from h]
def set5 (W:World) (B:Nat) (a b c d e:Value):World:=((((W.setCell ⟨B,0,none⟩ a).setCell ⟨B,1,none⟩ b).setCell ⟨B,2,none⟩ c).setCell ⟨B,3,none⟩ d).setCell ⟨B,4,none⟩ e
theorem grown_set (W:World) (b i:Nat) (v:Value):W.grownBy (W.setCell ⟨b,i,none⟩ v) (some b):=
 ⟨rfl,rfl,rfl,by simp [World.setCell],fun i _ hne => Below.heap_setCell _ _ _ _ (fun e => hne (by rw [e]))⟩
theorem below_grew {n:Nat} {w X Y:World} {B:Nat} (h:Below n w X) (hg:X.grownBy Y (some B)) (hn:n ≤ X.heap.size) (hB:n ≤ B):Below n w Y:=h.grown hg hn (fun r e => by cases e;exact hB)
theorem infoVal:(Tryz.prog.info? 23).map (·.size) = some 2:=by kernel_rfl
theorem load_val {w:World} {g:Nat} {a b:Value} (h:Blk w g 23 [a,b]):(loadVar 23 ⟨g,0,none⟩).run Tryz.prog w = .ok (.agg #[a,b]) w:=
 run_loadVar_row w g _ 23 #[a,b] (0,0) _ h Tryz.underlying23 rfl infoVal
theorem blk2 {W:World} {B:Nat} {t:TypeId} {a b:Value} (h:Blk W B t [a,b]):(W.cell? ⟨B,0,none⟩ = some a ∧ W.cell? ⟨B,1,none⟩ = some b) ∧ W.frozen? ⟨B,0,none⟩ = false ∧ W.frozen? ⟨B,1,none⟩ = false:=by
 simp [World.cell?,World.frozen?,show W.heap[B]? = _ from h]
def set2 (W:World) (B:Nat) (a b:Value):World:=(W.setCell ⟨B,0,none⟩ a).setCell ⟨B,1,none⟩ b
theorem blk_set2 {W:World} {B:Nat} {t:TypeId} {a b:Value} (h:Blk W B t [a,b]) (a' b':Value):Blk (set2 W B a' b') B t [a',b']:=by
 unfold Blk at h ⊢
 simp [set2,World.setCell,Array.getElem?_modify,h]
theorem grown_set2 (W:World) (B:Nat) (a b:Value):W.grownBy (set2 W B a b) (some B):=(grown_set _ _ _ _).trans (grown_set _ _ _ _)
theorem results_struct_tmp {fn:Func} {p q:Tmp} {ty:TypeId} (h:fn.results = #[.cell p ty,.tmp q]) (tmps:Array Value) (w:World) (g:Nat) (x:Value)
  (hp:tmps.getD p undef = .pointer (some ⟨g,0,none⟩)) (hl:(loadVar ty ⟨g,0,none⟩).run Tryz.prog w = .ok x w) :
  (results fn tmps).run Tryz.prog w = .ok (.tuple #[x,tmps.getD q undef]) w:=by
 have hp':tmps[p]?.getD undef = .pointer (some ⟨g,0,none⟩):=by simpa using hp
 simp [results,h,hp',asAddr,hl]
end Go.Proofs.YtcmmdojlhfmddaaGreat.Vl

/- package value: cut, within, isProp, digit, length, number, at every input. -/
namespace Go.Proofs.YtcmmdojlhfmddaaGreat.Vl
open Go Go.RowKit
def ret (v:Vv):Ending:=.returned (.tuple #[.agg #[.int .i64 v.1,.int .i64 v.2.1],.bool v.2.2])
theorem zero_new (w:World):Below w.heap.size w (w.alloc (.cells #[.int .i64 0,.int .i64 0] 23)):=(Below.refl _ w).alloc (Nat.le_refl _) _
end Go.Proofs.YtcmmdojlhfmddaaGreat.Vl

/- package value: word, over the table that its text lays; color, at every string. -/
namespace Go.Proofs.YtcmmdojlhfmddaaGreat.Vl
open Go Go.RowKit
theorem beq_false {a b:ByteArray} (h:¬ a = b):(a.toList == b.toList) = false:=by
 rw [ByteArray.toList_eq,ByteArray.toList_eq,beq_eq_false_iff_ne]
 intro e
 exact h (ByteArray.ext (Array.toList_inj.1 e))
/-! ### the table of properties -/
def propsT:List (List UInt8 × Bool × Int):=
 [([99,111,108,111,114],true,0),([102,111,110,116,45,115,105,122,101],true,16000),([116,101,120,116,45,97,108,105,103,110],true,0),([100,105,115,112,108,97,121],false,2),
  ([119,105,100,116,104],false,-1),([109,97,114,103,105,110],false,0),([111,112,97,99,105,116,121],false,1000),([122,45,105,110,100,101,120],false,1099511627776)]
end Go.Proofs.YtcmmdojlhfmddaaGreat.Vl

/- package value: color, at every string. -/
namespace Go.Proofs.YtcmmdojlhfmddaaGreat.Vl
open Go Go.RowKit
theorem get_at (s:ByteArray) (k:Nat) (h:k < s.size):s[k] = s.get! k:=by
 show s.data[k]'h = s.data[k]!
 rw [getElem!_pos s.data k h]
end Go.Proofs.YtcmmdojlhfmddaaGreat.Vl

/- package value: read and Parse, at every property and every slice of tokens. -/
namespace Go.Proofs.YtcmmdojlhfmddaaGreat.Vl
open Go Go.RowKit
def lowOf (t:Bt):List UInt8:=Lw.low t.text.data.toList
def tokV (p:Int) (t:Bt):Vv:=readV p t.kind t.text.data.toList (lowOf t) t.n t.whole
def parseV (p:Int):List Bt → Vv
 | [t] => if 0 ≤ p ∧ p ≤ 7 then tokV p t else no
 | _ => no
theorem px_ne {z:List UInt8} (h:¬ z = pxT):((⟨z.toArray⟩:ByteArray).toList == [112,120]) = false:=by
 rw [ByteArray.toList_eq,beq_eq_false_iff_ne]
 intro e
 exact h (by simpa [pxT] using e)
theorem em_ne {z:List UInt8} (h:¬ z = emT):((⟨z.toArray⟩:ByteArray).toList == [101,109]) = false:=by
 rw [ByteArray.toList_eq,beq_eq_false_iff_ne]
 intro e
 exact h (by simpa [emT] using e)
end Go.Proofs.YtcmmdojlhfmddaaGreat.Vl

/- package value: Prop, Name, Inherits, Initial, over the table that its text lays. -/
namespace Go.Proofs.YtcmmdojlhfmddaaGreat.Vl
open Go Go.RowKit
def names:List (List UInt8):=propsT.map (·.1)
def pf:Nat → List (List UInt8) → List UInt8 → Int × Bool
 | _,[],_ => (0,false)
 | k,x :: l,s => if x = s then ((k:Int),true) else pf (k + 1) l s
def propV (s:List UInt8):Int × Bool:=pf 0 names s
theorem pf_step {k:Nat} {x:List UInt8} {s:List UInt8} (hx:names[k]? = some x):pf k (names.drop k) s = if x = s then ((k:Int),true) else pf (k + 1) (names.drop (k + 1)) s:=by
 obtain ⟨hk,rfl⟩:=List.getElem?_eq_some_iff.1 hx
 rw [List.drop_eq_getElem_cons hk]
 rfl
theorem name_of {k:Nat} {r:List UInt8 × Bool × Int} (h:propsT[k]? = some r):names[k]? = some r.1:=by
 unfold names
 rw [List.getElem?_map,h]
 rfl
def propAt (p:Int):List UInt8 × Bool × Int:=if 0 ≤ p ∧ p ≤ 7 then propsT.getD p.toNat ([],false,0) else ([],false,0)
set_option maxHeartbeats 1000000 in
theorem refName_any (p:Int) (w:World):Calls Tryz.prog 65 #[.int .i64 p] w fun e w' => e = .returned (.string ⟨(propAt p).1.toArray⟩) ∧ Below w.heap.size w w':=by
 by_cases hp:0 ≤ p ∧ p ≤ 7
 ·obtain rfl | rfl | rfl | rfl | rfl | rfl | rfl | rfl:p = 0 ∨ p = 1 ∨ p = 2 ∨ p = 3 ∨ p = 4 ∨ p = 5 ∨ p = 6 ∨ p = 7:=by omega
  all_goals
   clear hp
   go_enter Tryz.func65,Tryz.ntmps65
   go_wp2
   go_ret
   exact ⟨rfl,(Below.refl _ _).alloc (Nat.le_refl _) _⟩
 ·rw [show propAt p = ([],false,0) from if_neg hp]
  by_cases h0:p < 0
  ·clear hp
   go_enter Tryz.func65,Tryz.ntmps65
   go_wp2
   go_ret
   exact ⟨rfl,(Below.refl _ _).alloc (Nat.le_refl _) _⟩
  ·have h8:8 ≤ p:=by omega
   clear hp
   go_enter Tryz.func65,Tryz.ntmps65
   go_wp2
   go_ret
   exact ⟨rfl,(Below.refl _ _).alloc (Nat.le_refl _) _⟩
set_option maxHeartbeats 1000000 in
theorem refProp_any (s:ByteArray) (w:World) :
  Calls Tryz.prog 42 #[.string s] w fun e w' => e = .returned (.tuple #[.int .i64 (propV s.data.toList).1,.bool (propV s.data.toList).2]) ∧ Below w.heap.size w w':=by
 obtain ⟨V,hV⟩:∃ V,propV s.data.toList = V:=⟨_,rfl⟩
 rw [hV]
 unfold propV at hV
 go_enter Tryz.func42,Tryz.ntmps42
 go_wp2
 go_loopw [4] (fun i wr => ∃ k:Nat,i = .int .i64 k ∧ k ≤ 8 ∧ Hid (pf k (names.drop k) s.data.toList = V) ∧ Below w.heap.size w wr) (fun i _ => 8 - (intOf i).toNat)
 case atStart => exact ⟨0,rfl,by omega,hV,Below.refl _ _⟩
 case round =>
  obtain ⟨k,rfl,hk,HV,hb⟩:=hrel
  clear hV
  by_cases hlt:k < 8
  ·have hki:(k:Int) < 8:=by omega
   obtain ⟨r,hr⟩:∃ r,propsT[k]? = some r:=⟨_,List.getElem?_eq_getElem (show k < propsT.length from hlt)⟩
   have hn:=refName_any k wr
   rw [show propAt k = r by
    unfold propAt
    rw [if_pos (by omega),Int.toNat_natCast,List.getD_eq_getElem?_getD,hr]
    rfl] at hn
   have hst:=pf_step (s:=s.data.toList) (name_of hr)
   rw [show pf k (names.drop k) s.data.toList = V from HV] at hst
   obtain ⟨x,b,m⟩:=r
   simp only at hn hst
   have hxe:(⟨x.toArray⟩:ByteArray) = s ↔ x = s.data.toList:=⟨fun e => by rw [← e],fun e => by rw [e]⟩
   generalize (⟨x.toArray⟩:ByteArray) = xs at hn hxe
   clear HV hr
   go_wp2_with fail
   refine hn.mono ?_
   clear hn
   rintro e w1 ⟨rfl,b1⟩
   have b2:=below_next hb b1
   by_cases he:xs = s
   ·subst he
    obtain rfl:((k:Int),true) = V:=by rw [hst,if_pos (hxe.1 rfl)]
    clear hst hxe
    go_wp2
    go_ret2
    exact ⟨rfl,b2⟩
   ·have HV':Hid (pf (k + 1) (names.drop (k + 1)) s.data.toList = V):=by rw [hst,if_neg (fun e => he (hxe.2 e))];rfl
    have hne:=beq_false he
    clear hst hxe
    go_wp2
    exact ⟨⟨k + 1,by go_num,by omega,HV',b2⟩,by simp [intOf];omega⟩
  ·have hki:¬ (k:Int) < 8:=by omega
   obtain rfl:k = 8:=by omega
   obtain rfl:((0:Int),false) = V:=HV
   go_wp2
   go_ret2
   exact ⟨rfl,hb⟩
end Go.Proofs.YtcmmdojlhfmddaaGreat.Vl

/- package value: Sets, at every slice of declarations. -/
namespace Go.Proofs.YtcmmdojlhfmddaaGreat.Vl
open Go Go.RowKit
structure Dl where
 name:ByteArray
 val:List Bt
 v:Value
 imp:Bool
def DlAt (n₀:Nat) (W:World) (bk o:Nat) (d:Dl):Prop:=
 W.cell? ⟨bk,o,none⟩ = some (.string d.name) ∧ W.cell? ⟨bk,o + 1,none⟩ = some d.v ∧ W.cell? ⟨bk,o + 2,none⟩ = some (.bool d.imp) ∧ BtsAt n₀ W d.v d.val
def DlsAt (n₀:Nat) (W:World) (v:Value) (ds:List Dl):Prop:=
 (ds = [] ∧ (v = .slice none 0 0 ∨ ∃ x cap,v = .slice (some x) 0 cap ∧ cap ≤ maxLen)) ∨ ∃ bk off cap,v = .slice (some ⟨bk,off,none⟩) ds.length cap ∧ ds.length ≤ cap ∧ cap ≤ maxLen ∧ bk < n₀ ∧ ∀ j d,ds[j]? = some d → DlAt n₀ W bk (off + j * 3) d
theorem DlAt.below {n₀:Nat} {X Y:World} {bk o:Nat} {d:Dl} (h:DlAt n₀ X bk o d) (hb:Below n₀ X Y) (hbk:bk < n₀):DlAt n₀ Y bk o d:=by
 obtain ⟨h0,h1,h2,h3⟩:=h
 exact ⟨(hb.cell (p:=⟨bk,_,none⟩) hbk).trans h0,(hb.cell (p:=⟨bk,_,none⟩) hbk).trans h1,(hb.cell (p:=⟨bk,_,none⟩) hbk).trans h2,h3.below hb⟩
theorem DlsAt.below {n₀:Nat} {X Y:World} {v:Value} {l:List Dl} (h:DlsAt n₀ X v l) (hb:Below n₀ X Y):DlsAt n₀ Y v l:=by
 rcases h with h | ⟨bk,off,cap,rfl,h1,h2,hbk,h⟩
 ·exact .inl h
 ·exact .inr ⟨bk,off,cap,rfl,h1,h2,hbk,fun j t hj => (h j t hj).below hb hbk⟩
theorem DlsAt.mono {n₀ n₁:Nat} {X:World} {v:Value} {l:List Dl} (h:DlsAt n₀ X v l) (hn:n₀ ≤ n₁):DlsAt n₁ X v l:=by
 rcases h with h | ⟨bk,off,cap,rfl,h1,h2,hbk,h⟩
 ·exact .inl h
 ·exact .inr ⟨bk,off,cap,rfl,h1,h2,by omega,fun j d hj => ⟨(h j d hj).1,(h j d hj).2.1,(h j d hj).2.2.1,(h j d hj).2.2.2.mono hn⟩⟩
theorem DlsAt.next {X Y:World} {v:Value} {l:List Dl} (h:DlsAt X.heap.size X v l) (hb:Below X.heap.size X Y):DlsAt Y.heap.size Y v l:=(h.below hb).mono hb.size
theorem DlsAt.len {n₀:Nat} {X:World} {v:Value} {l:List Dl} (h:DlsAt n₀ X v l):∃ p cap,v = .slice p l.length cap:=by
 rcases h with ⟨rfl,rfl | ⟨x,cap,rfl,_⟩⟩ | ⟨bk,off,cap,rfl,_⟩
 ·exact ⟨_,_,rfl⟩
 ·exact ⟨_,_,rfl⟩
 ·exact ⟨_,_,rfl⟩
theorem DlsAt.get {n₀:Nat} {X:World} {p:Option Addr} {n cap:Nat} {l:List Dl} (h:DlsAt n₀ X (.slice p n cap) l) {k:Nat} {t:Dl} (hk:l[k]? = some t):∃ bk off,p = some ⟨bk,off,none⟩ ∧ bk < n₀ ∧ l.length ≤ cap ∧ cap ≤ maxLen ∧ DlAt n₀ X bk (off + k * 3) t:=by
 rcases h with ⟨rfl,_⟩ | ⟨bk,off,c,e,h1,h2,hb,h⟩
 ·simp at hk
 ·cases e
  exact ⟨bk,off,rfl,hb,h1,h2,h k t hk⟩
abbrev Sv:=Int × Int × Int × Bool
def svCells (s:Sv):List Value:=[.int .i64 s.1,.int .i64 s.2.1,.int .i64 s.2.2.1,.bool s.2.2.2]
def setOf (d:Dl):Option Sv:=if (propV d.name.data.toList).2 then (if (parseV (propV d.name.data.toList).1 d.val).2.2 then some ((propV d.name.data.toList).1,(parseV (propV d.name.data.toList).1 d.val).1,(parseV (propV d.name.data.toList).1 d.val).2.1,d.imp) else none) else none
def setsV (ds:List Dl):List Sv:=ds.filterMap setOf
theorem setsV_len (ds:List Dl):(setsV ds).length ≤ ds.length:=List.length_filterMap_le _ _
theorem setsV_drop {ds:List Dl} {k:Nat} {d:Dl} (h:ds[k]? = some d):setsV (ds.drop k) = (setOf d).toList ++ setsV (ds.drop (k + 1)):=by
 obtain ⟨hk,rfl⟩:=List.getElem?_eq_some_iff.1 h
 rw [List.drop_eq_getElem_cons hk]
 unfold setsV
 rw [List.filterMap_cons]
 cases setOf ds[k] <;> rfl
theorem grown_of_below {w w':World} (h:Below w.heap.size w w') (row:Option Nat):w.grownBy w' row:=⟨h.os,h.tape,h.output,h.size,fun i hi _ => h.block i hi⟩
theorem no_block (x:Value):x.ownBlock = none ∨ x.ownBlock ≠ none:=by
 cases x.ownBlock with
 | none => exact .inl rfl
 | some j => exact .inr (by simp)
theorem cells_new (w:World) (l:List Value) (ty:TypeId):∀ j u,l[j]? = some u → (w.alloc (.cells l.toArray ty)).cell? ((⟨w.heap.size,0,none⟩:Addr).add j) = some u:=fun j u hj => by
 rw [addr_add,Nat.zero_add,cell_of_block (heap_alloc_new w _) j]
 simpa using hj
theorem infoSet:(Tryz.prog.info? 25).map (fun i => (i.zero,i.size,i.bytes)) = some (some (.agg #[.int .i64 0,.int .i64 0,.int .i64 0,.bool false]),4,32):=by kernel_rfl
def SetsIn (b:Nat) (W:World) (v:Value) (qs:List Sv):Prop:=W.ownsRow b 25 4 v qs.length (qs.flatMap svCells)
theorem SetsIn.keep {b:Nat} {W W':World} {v:Value} {qs:List Sv} (h:SetsIn b W v qs) (hb:Below W.heap.size W W'):SetsIn b W' v qs:=World.ownsRow.kept h (grown_of_below hb none) (no_block _)
theorem SetsIn.form {b:Nat} {W:World} {v:Value} {qs:List Sv} (h:SetsIn b W v qs):∃ q c,v = .slice q qs.length c:=by
 rcases h.2 with ⟨rfl,h0⟩ | ⟨g,cap,cur,rfl,_⟩
 ·exact ⟨none,0,by rw [h0]⟩
 ·exact ⟨_,_,rfl⟩
end Go.Proofs.YtcmmdojlhfmddaaGreat.Vl

/- The cells of what is set, one by one. -/
namespace Go.Proofs.YtcmmdojlhfmddaaGreat.Vl
open Go Go.RowKit
theorem svCells_at:∀ (l:List Sv) (j:Nat) (t:Sv),l[j]? = some t → ∀ i,i < 4 → (l.flatMap svCells)[j * 4 + i]? = (svCells t)[i]?
 | [],j,t,h => by simp at h
 | x :: l,0,t,h => by
  intro i hi
  obtain rfl:x = t:=by simpa using h
  rw [List.flatMap_cons,Nat.zero_mul,Nat.zero_add,List.getElem?_append_left (by show i < 4;exact hi)]
 | x :: l,j + 1,t,h => by
  intro i hi
  have ih:=svCells_at l j t (by simpa using h) i hi
  rw [List.flatMap_cons,List.getElem?_append_right (by show 4 ≤ _;omega),← ih]
  congr 1
  show (j + 1) * 4 + i - 4 = _
  omega
theorem SetsIn.get {b:Nat} {X:World} {p:Option Addr} {n c:Nat} {l:List Sv} (h:SetsIn b X (.slice p n c) l) {k:Nat} {t:Sv} (hk:l[k]? = some t) :
  ∃ g,p = some ⟨g,0,none⟩ ∧ X.cell? ⟨g,k * 4,none⟩ = some (.int .i64 t.1) ∧ X.cell? ⟨g,k * 4 + 1,none⟩ = some (.int .i64 t.2.1) ∧ X.cell? ⟨g,k * 4 + 2,none⟩ = some (.int .i64 t.2.2.1) ∧ X.cell? ⟨g,k * 4 + 3,none⟩ = some (.bool t.2.2.2):=by
 rcases h.2 with ⟨hv,hm⟩ | ⟨g,cap,cur,hv,hg,hb,h1,h2,h3,h4⟩
 ·rw [List.length_eq_zero_iff.1 hm] at hk
  simp at hk
 ·cases hv
  have hlt:k < l.length:=(List.getElem?_eq_some_iff.1 hk).1
  have key:∀ i,i < 4 → X.cell? ⟨g,k * 4 + i,none⟩ = (svCells t)[i]?:=fun i hi => by
   rw [cell_of_block hb,← svCells_at l k t hk i hi,← h4,List.getElem?_take_of_lt (by omega)]
   simp
  exact ⟨g,rfl,key 0 (by omega),key 1 (by omega),key 2 (by omega),key 3 (by omega)⟩
end Go.Proofs.YtcmmdojlhfmddaaGreat.Vl

/- The document's own word, hex, color, key, length, at every input. -/
set_option maxRecDepth 100000
namespace Go.Proofs.YtcmmdojlhfmddaaGreat.Vl
open Go Go.RowKit
def StrsIn (W:World) (g:Nat) (ss:List (List UInt8)):Prop:=∀ j s,ss[j]? = some s → W.cell? ⟨g,0 + j,none⟩ = some (.string ⟨s.toArray⟩)
theorem StrsIn.below {X Y:World} {g n:Nat} {ss:List (List UInt8)} (h:StrsIn X g ss) (hb:Below n X Y) (hg:g < n):StrsIn Y g ss:=fun j s hj => (hb.cell (p:=⟨g,0 + j,none⟩) hg).trans (h j s hj)
def strCells (ss:List (List UInt8)):List Value:=ss.map fun s => .string ⟨s.toArray⟩
theorem StrsIn.new (w:World) (ss:List (List UInt8)) (t:TypeId):StrsIn (w.alloc (.cells (strCells ss).toArray t)) w.heap.size ss:=fun j s hj => by
 rw [cell_of_block (heap_alloc_new w _),Nat.zero_add,List.getElem?_toArray,strCells,List.getElem?_map,hj]
 rfl
def idxV (l:List (List UInt8)) (s:List UInt8):Int × Bool:=match idx l s with
 | some n => ((n:Int),true)
 | none => (0,false)
theorem idx_lt:∀ {l:List (List UInt8)} {s:List UInt8} {n:Nat},idx l s = some n → n < l.length
 | x :: l,s,n,h => by
  unfold idx at h
  split at h
  ·cases h;simp
  ·obtain ⟨m,hm,rfl⟩:=Option.map_eq_some_iff.1 h
   have:=idx_lt hm
   simp
   omega
def Left (l:List (List UInt8)) (s:List UInt8) (k:Nat):Prop:=idx l s = (idx (l.drop k) s).map (· + k)
theorem Left.start (l:List (List UInt8)) (s:List UInt8):Left l s 0:=by
 unfold Left
 cases h:idx l s <;> simp [h]
theorem Left.next {l:List (List UInt8)} {s x:List UInt8} {k:Nat} (h:Left l s k) (hx:l[k]? = some x) (hne:¬ x = s):Left l s (k + 1):=by
 obtain ⟨hk,rfl⟩:=List.getElem?_eq_some_iff.1 hx
 unfold Left at *
 rw [h,List.drop_eq_getElem_cons hk,idx,if_neg hne,Option.map_map]
 congr 1
 funext n
 simp
 omega
theorem Left.hit {l:List (List UInt8)} {s x:List UInt8} {k:Nat} (h:Left l s k) (hx:l[k]? = some x) (he:x = s):idxV l s = ((k:Int),true):=by
 obtain ⟨hk,rfl⟩:=List.getElem?_eq_some_iff.1 hx
 unfold Left at h
 unfold idxV
 rw [h,List.drop_eq_getElem_cons hk,idx,if_pos he]
 simp
theorem Left.none {l:List (List UInt8)} {s:List UInt8} {k:Nat} (h:Left l s k) (hk:l.length ≤ k):idxV l s = (0,false):=by
 unfold Left at h
 rw [List.drop_eq_nil_of_le hk] at h
 unfold idxV
 rw [h]
 rfl
set_option maxHeartbeats 1000000 in
theorem refWord_any (s:ByteArray) (g cap:Nat) (ss:List (List UInt8)) (w:World) (hS:StrsIn w g ss) (_hl:ss.length ≤ 100) :
  Calls Tryz.prog 66 #[.string s,.slice (some ⟨g,0,none⟩) ss.length cap] w fun e w' => e = .returned (.tuple #[.int .i64 (idxV ss s.data.toList).1,.bool (idxV ss s.data.toList).2]) ∧ w' = w:=by
 obtain ⟨V,hV⟩:∃ V,idxV ss s.data.toList = V:=⟨_,rfl⟩
 rw [hV]
 go_enter Tryz.func66,Tryz.ntmps66
 go_wp2
 go_loopw [6] (fun i wr => ∃ k:Nat,i = .int .i64 k ∧ k ≤ ss.length ∧ Hid (Left ss s.data.toList k) ∧ w = wr) (fun i _ => ss.length - (intOf i).toNat)
 case atStart => exact ⟨0,rfl,Nat.zero_le _,Left.start _ _,rfl⟩
 case round =>
  obtain ⟨k,rfl,hk,HL,rfl⟩:=hrel
  by_cases hlt:k < ss.length
  ·have hki:(k:Int) < (ss.length:Int):=by omega
   obtain ⟨x,hx⟩:∃ x,ss[k]? = some x:=⟨_,List.getElem?_eq_getElem hlt⟩
   have hc:=hS k x hx
   rw [Nat.zero_add] at hc
   have hxe:(⟨x.toArray⟩:ByteArray) = s ↔ x = s.data.toList:=⟨fun e => by rw [← e],fun e => by rw [e]⟩
   generalize (⟨x.toArray⟩:ByteArray) = xs at hc hxe
   by_cases he:xs = s
   ·subst he
    obtain rfl:((k:Int),true) = V:=by rw [← hV];exact (Left.hit HL hx (hxe.1 rfl)).symm
    clear hV hS hx hxe HL
    go_wp2
    go_ret2
    exact ⟨rfl,rfl⟩
   ·have HL':Hid (Left ss s.data.toList (k + 1)):=Left.next HL hx (fun e => he (hxe.2 e))
    have hne:=beq_false he
    clear hV hx hxe HL hS
    go_wp2
    exact ⟨⟨k + 1,by go_num,by omega,HL',trivial⟩,by simp [intOf];omega⟩
  ·have hki:¬ (k:Int) < (ss.length:Int):=by omega
   obtain rfl:((0:Int),false) = V:=by rw [← hV];exact (Left.none HL (by omega)).symm
   clear hV HL hS
   go_wp2
   go_ret2
   exact ⟨rfl,rfl⟩
end Go.Proofs.YtcmmdojlhfmddaaGreat.Vl

/- The document's own color, key, length, at every input. -/
set_option maxRecDepth 100000
namespace Go.Proofs.YtcmmdojlhfmddaaGreat.Vl
open Go Go.RowKit
set_option maxHeartbeats 2000000 in
theorem refKey_any (t:Bt) (g cap:Nat) (ss:List (List UInt8)) (w:World) (hS:StrsIn w g ss) (hg:g < w.heap.size) (hl:ss.length ≤ 100) (ht:t.text.size ≤ maxLen) :
  Calls Tryz.prog 69 #[.agg #[.int .i64 t.kind,.string t.text,.int .i64 t.n,.bool t.whole,.int .i64 t.c],.slice (some ⟨g,0,none⟩) ss.length cap] w fun e w' => e = ret (keyV t.kind (lowOf t) ss) ∧ Below w.heap.size w w':=by
 obtain ⟨V,hV⟩:∃ V,keyV t.kind (lowOf t) ss = V:=⟨_,rfl⟩
 rw [hV]
 unfold keyV at hV
 obtain ⟨kind,text,n,wh,c⟩:=t
 simp only [lowOf] at hV ht ⊢
 have hlow:=fun X => Lw.refLower_any text X ht
 generalize Lw.low text.data.toList = low at *
 have b0:Below w.heap.size w ((w.alloc (.cells #[.int .i64 kind,.string text,.int .i64 n,.bool wh,.int .i64 c] 85)).alloc (.cells #[.int .i64 0,.int .i64 0] 23)):=((Below.refl _ w).alloc (Nat.le_refl _) _).alloc (by rw [World.size_alloc];omega) _
 have kT:Blk ((w.alloc (.cells #[.int .i64 kind,.string text,.int .i64 n,.bool wh,.int .i64 c] 85)).alloc (.cells #[.int .i64 0,.int .i64 0] 23)) w.heap.size 85 [.int .i64 kind,.string text,.int .i64 n,.bool wh,.int .i64 c]:=(Blk.new w 85 [.int .i64 kind,.string text,.int .i64 n,.bool wh,.int .i64 c]).kept (World.grownBy_alloc _ _ none) (by simp)
 have kV:Blk ((w.alloc (.cells #[.int .i64 kind,.string text,.int .i64 n,.bool wh,.int .i64 c] 85)).alloc (.cells #[.int .i64 0,.int .i64 0] 23)) (w.heap.size + 1) 23 [.int .i64 0,.int .i64 0]:=by
  have:=Blk.new (w.alloc (.cells #[.int .i64 kind,.string text,.int .i64 n,.bool wh,.int .i64 c] 85)) 23 [.int .i64 0,.int .i64 0]
  rwa [World.size_alloc] at this
 have hSz:((w.alloc (.cells #[.int .i64 kind,.string text,.int .i64 n,.bool wh,.int .i64 c] 85)).alloc (.cells #[.int .i64 0,.int .i64 0] 23)).heap.size = w.heap.size + 2:=by rw [World.size_alloc,World.size_alloc]
 go_enter Tryz.func69,Tryz.ntmps69
 go_upto_region 1 with fail
 generalize (w.alloc (.cells #[.int .i64 kind,.string text,.int .i64 n,.bool wh,.int .i64 c] 85)).alloc (.cells #[.int .i64 0,.int .i64 0] 23) = W at *
 obtain ⟨⟨t0,t1,t2,t3,t4⟩,_⟩:=blk5 kT
 have fin:∀ (w1:World),Below W.heap.size W w1 → Blk w1 (w.heap.size + 1) 23 [.int .i64 0,.int .i64 0] ∧ ∀ a b,Below w.heap.size w (set2 w1 (w.heap.size + 1) a b):=fun w1 b1 =>
  ⟨kV.below b1 kV.lt,fun a b => below_grew (b0.trans (b1.mono b0.size)) (grown_set2 w1 (w.heap.size + 1) a b) (by have:=b1.size;omega) (by omega)⟩
 have FIN:Hid (∀ (w1:World),Below W.heap.size W w1 → Blk w1 (w.heap.size + 1) 23 [.int .i64 0,.int .i64 0] ∧ ∀ a b,Below w.heap.size w (set2 w1 (w.heap.size + 1) a b)):=fin
 clear fin
 have hS0:=hS.below b0 hg
 by_cases h1:kind = 1
 ·subst h1
  rw [if_pos rfl] at hV
  clear t2 t3 t4
  go_wp2_with fail
  refine (hlow _).mono ?_
  clear hlow
  rintro e w1 ⟨rfl,b1⟩
  have hs1:=b1.size
  have hw:=refWord_any ⟨low.toArray⟩ g cap ss w1 (hS0.below b1 (by omega)) hl
  rw [show (⟨low.toArray⟩:ByteArray).data.toList = low from rfl] at hw
  obtain ⟨kx,HF⟩:=(show ∀ (w1:World),Below W.heap.size W w1 → Blk w1 (w.heap.size + 1) 23 [.int .i64 0,.int .i64 0] ∧ ∀ a b,Below w.heap.size w (set2 w1 (w.heap.size + 1) a b) from FIN) _ b1
  obtain ⟨⟨c0,c1⟩,f0,f1⟩:=blk2 kx
  have HFH:Hid (∀ a b,Below w.heap.size w (set2 w1 (w.heap.size + 1) a b)):=HF
  clear HF FIN hS0 hS
  unfold idxV at hw
  cases hi:idx ss low with
  | none =>
   rw [hi] at hw hV
   obtain rfl:no = V:=hV
   go_wp2_with fail
   refine hw.mono ?_
   clear hw
   rintro e w2 ⟨rfl,rfl⟩
   go_wp2
   refine bodyPost_ret (results_struct_tmp rfl _ _ (w.heap.size + 1) _ rfl (load_val (blk_set2 kx _ _))) rfl ?_
   exact ⟨rfl,HFH _ _⟩
  | some m =>
   rw [hi] at hw hV
   obtain rfl:(1,(m:Int),true) = V:=hV
   go_wp2_with fail
   refine hw.mono ?_
   clear hw
   rintro e w2 ⟨rfl,rfl⟩
   go_wp2
   refine bodyPost_ret (results_struct_tmp rfl _ _ (w.heap.size + 1) _ rfl (load_val (blk_set2 kx _ _))) rfl ?_
   exact ⟨rfl,HFH _ _⟩
 ·have e1:(kind != 1) = true:=by simpa using h1
  obtain rfl:no = V:=by rw [← hV,if_neg h1]
  obtain ⟨kx,HF⟩:=(show ∀ (w1:World),Below W.heap.size W w1 → Blk w1 (w.heap.size + 1) 23 [.int .i64 0,.int .i64 0] ∧ ∀ a b,Below w.heap.size w (set2 w1 (w.heap.size + 1) a b) from FIN) _ (Below.refl _ _)
  obtain ⟨⟨c0,c1⟩,f0,f1⟩:=blk2 kx
  have HFH:Hid (∀ a b,Below w.heap.size w (set2 W (w.heap.size + 1) a b)):=HF
  clear HF FIN hS0 hS hV h1 hlow
  go_wp2
  refine bodyPost_ret (results_struct_tmp rfl _ _ (w.heap.size + 1) _ rfl (load_val (blk_set2 kx _ _))) rfl ?_
  exact ⟨rfl,HFH _ _⟩
end Go.Proofs.YtcmmdojlhfmddaaGreat.Vl

/- The document's own length of a token, at every token. -/
set_option maxRecDepth 100000
namespace Go.Proofs.YtcmmdojlhfmddaaGreat.Vl
open Go Go.RowKit
set_option maxHeartbeats 2000000 in
theorem refLength_any (t:Bt) (w:World) (ht:t.text.size ≤ maxLen) :
  Calls Tryz.prog 70 #[.agg #[.int .i64 t.kind,.string t.text,.int .i64 t.n,.bool t.whole,.int .i64 t.c]] w fun e w' => e = ret (lenV t.kind (lowOf t) t.n) ∧ Below w.heap.size w w':=by
 obtain ⟨V,hV⟩:∃ V,lenV t.kind (lowOf t) t.n = V:=⟨_,rfl⟩
 rw [hV]
 obtain ⟨kind,text,n,wh,c⟩:=t
 simp only [lowOf] at hV ht ⊢
 have hlow:=fun X => Lw.refLower_any text X ht
 generalize Lw.low text.data.toList = low at *
 unfold lenV at hV
 have b0:Below w.heap.size w ((w.alloc (.cells #[.int .i64 kind,.string text,.int .i64 n,.bool wh,.int .i64 c] 85)).alloc (.cells #[.int .i64 0,.int .i64 0] 23)):=((Below.refl _ w).alloc (Nat.le_refl _) _).alloc (by rw [World.size_alloc];omega) _
 have kT:Blk ((w.alloc (.cells #[.int .i64 kind,.string text,.int .i64 n,.bool wh,.int .i64 c] 85)).alloc (.cells #[.int .i64 0,.int .i64 0] 23)) w.heap.size 85 [.int .i64 kind,.string text,.int .i64 n,.bool wh,.int .i64 c]:=(Blk.new w 85 [.int .i64 kind,.string text,.int .i64 n,.bool wh,.int .i64 c]).kept (World.grownBy_alloc _ _ none) (by simp)
 have kV:Blk ((w.alloc (.cells #[.int .i64 kind,.string text,.int .i64 n,.bool wh,.int .i64 c] 85)).alloc (.cells #[.int .i64 0,.int .i64 0] 23)) (w.heap.size + 1) 23 [.int .i64 0,.int .i64 0]:=by
  have:=Blk.new (w.alloc (.cells #[.int .i64 kind,.string text,.int .i64 n,.bool wh,.int .i64 c] 85)) 23 [.int .i64 0,.int .i64 0]
  rwa [World.size_alloc] at this
 have hSz:((w.alloc (.cells #[.int .i64 kind,.string text,.int .i64 n,.bool wh,.int .i64 c] 85)).alloc (.cells #[.int .i64 0,.int .i64 0] 23)).heap.size = w.heap.size + 2:=by rw [World.size_alloc,World.size_alloc]
 go_enter Tryz.func70,Tryz.ntmps70
 go_upto_region 1 with fail
 generalize (w.alloc (.cells #[.int .i64 kind,.string text,.int .i64 n,.bool wh,.int .i64 c] 85)).alloc (.cells #[.int .i64 0,.int .i64 0] 23) = W at *
 obtain ⟨⟨t0,t1,t2,t3,t4⟩,_⟩:=blk5 kT
 have fin:∀ (w1:World),Below W.heap.size W w1 → Blk w1 (w.heap.size + 1) 23 [.int .i64 0,.int .i64 0] ∧ ∀ a b,Below w.heap.size w (set2 w1 (w.heap.size + 1) a b):=fun w1 b1 =>
  ⟨kV.below b1 kV.lt,fun a b => below_grew (b0.trans (b1.mono b0.size)) (grown_set2 w1 (w.heap.size + 1) a b) (by have:=b1.size;omega) (by omega)⟩
 have FIN:Hid (∀ (w1:World),Below W.heap.size W w1 → Blk w1 (w.heap.size + 1) 23 [.int .i64 0,.int .i64 0] ∧ ∀ a b,Below w.heap.size w (set2 w1 (w.heap.size + 1) a b)):=fin
 clear fin
 clear t3 t4
 by_cases h7:kind = 7
 ·subst h7
  obtain rfl:(4,n,true) = V:=by rw [← hV,if_pos rfl]
  obtain ⟨kx,HF⟩:=(show ∀ (w1:World),Below W.heap.size W w1 → Blk w1 (w.heap.size + 1) 23 [.int .i64 0,.int .i64 0] ∧ ∀ a b,Below w.heap.size w (set2 w1 (w.heap.size + 1) a b) from FIN) _ (Below.refl _ _)
  obtain ⟨⟨c0,c1⟩,f0,f1⟩:=blk2 kx
  have HFH:Hid (∀ a b,Below w.heap.size w (set2 W (w.heap.size + 1) a b)):=HF
  clear HF FIN
  clear hV hlow
  go_wp2
  refine bodyPost_ret (results_struct_tmp rfl _ _ (w.heap.size + 1) _ rfl (load_val (blk_set2 kx _ _))) rfl ?_
  exact ⟨rfl,HFH _ _⟩
 have e7:(kind == 7) = false:=by simpa using h7
 rw [if_neg h7] at hV
 by_cases h8:kind = 8
 ·subst h8
  clear h7 e7
  by_cases hx:low = pxT
  ·subst hx
   obtain rfl:(2,n,true) = V:=by rw [← hV,if_pos ⟨rfl,rfl⟩]
   unfold pxT at hlow
   clear hV
   go_wp2_with fail
   refine (hlow _).mono ?_
   clear hlow
   rintro e w1 ⟨rfl,b1⟩
   replace t2:=(b1.cell (p:=⟨w.heap.size,2,none⟩) kT.lt).trans t2
   obtain ⟨kx,HF⟩:=(show ∀ (w1:World),Below W.heap.size W w1 → Blk w1 (w.heap.size + 1) 23 [.int .i64 0,.int .i64 0] ∧ ∀ a b,Below w.heap.size w (set2 w1 (w.heap.size + 1) a b) from FIN) _ (b1)
   obtain ⟨⟨c0,c1⟩,f0,f1⟩:=blk2 kx
   have HFH:Hid (∀ a b,Below w.heap.size w (set2 w1 (w.heap.size + 1) a b)):=HF
   clear HF FIN
   clear t0 t1
   go_wp2
   refine bodyPost_ret (results_struct_tmp rfl _ _ (w.heap.size + 1) _ rfl (load_val (blk_set2 kx _ _))) rfl ?_
   exact ⟨rfl,HFH _ _⟩
  have ex:=px_ne hx
  by_cases hm:low = emT
  ·subst hm
   obtain rfl:(3,n,true) = V:=by rw [← hV,if_neg (by simp [pxT,emT]),if_pos ⟨rfl,rfl⟩]
   unfold emT at hlow ex
   clear hV hx
   go_wp2_with fail
   refine (hlow _).mono ?_
   rintro e w1 ⟨rfl,b1⟩
   replace t0:=(b1.cell (p:=⟨w.heap.size,0,none⟩) kT.lt).trans t0
   replace t1:=(b1.cell (p:=⟨w.heap.size,1,none⟩) kT.lt).trans t1
   replace t2:=(b1.cell (p:=⟨w.heap.size,2,none⟩) kT.lt).trans t2
   go_wp2_with fail
   refine (hlow _).mono ?_
   clear hlow
   rintro e w2 ⟨rfl,b2⟩
   replace t2:=(b2.cell (p:=⟨w.heap.size,2,none⟩) (by have:=kT.lt;have:=b1.size;show w.heap.size < _;omega)).trans t2
   obtain ⟨kx,HF⟩:=(show ∀ (w1:World),Below W.heap.size W w1 → Blk w1 (w.heap.size + 1) 23 [.int .i64 0,.int .i64 0] ∧ ∀ a b,Below w.heap.size w (set2 w1 (w.heap.size + 1) a b) from FIN) _ (b1.trans (b2.mono b1.size))
   obtain ⟨⟨c0,c1⟩,f0,f1⟩:=blk2 kx
   have HFH:Hid (∀ a b,Below w.heap.size w (set2 w2 (w.heap.size + 1) a b)):=HF
   clear HF FIN
   clear t0 t1
   go_wp2
   refine bodyPost_ret (results_struct_tmp rfl _ _ (w.heap.size + 1) _ rfl (load_val (blk_set2 kx _ _))) rfl ?_
   exact ⟨rfl,HFH _ _⟩
  have em:=em_ne hm
  obtain rfl:no = V:=by rw [← hV,if_neg (by simp [hx]),if_neg (by simp [hm])]
  clear hV hx hm
  generalize (⟨low.toArray⟩:ByteArray) = z at *
  go_wp2_with fail
  refine (hlow _).mono ?_
  rintro e w1 ⟨rfl,b1⟩
  replace t0:=(b1.cell (p:=⟨w.heap.size,0,none⟩) kT.lt).trans t0
  replace t1:=(b1.cell (p:=⟨w.heap.size,1,none⟩) kT.lt).trans t1
  go_wp2_with fail
  refine (hlow _).mono ?_
  clear hlow
  rintro e w2 ⟨rfl,b2⟩
  obtain ⟨kx,HF⟩:=(show ∀ (w1:World),Below W.heap.size W w1 → Blk w1 (w.heap.size + 1) 23 [.int .i64 0,.int .i64 0] ∧ ∀ a b,Below w.heap.size w (set2 w1 (w.heap.size + 1) a b) from FIN) _ (b1.trans (b2.mono b1.size))
  obtain ⟨⟨c0,c1⟩,f0,f1⟩:=blk2 kx
  have HFH:Hid (∀ a b,Below w.heap.size w (set2 w2 (w.heap.size + 1) a b)):=HF
  clear HF FIN
  clear t0 t1 t2
  go_wp2
  refine bodyPost_ret (results_struct_tmp rfl _ _ (w.heap.size + 1) _ rfl (load_val (blk_set2 kx _ _))) rfl ?_
  exact ⟨rfl,HFH _ _⟩
 have e8:(kind == 8) = false:=by simpa using h8
 obtain rfl:no = V:=by rw [← hV,if_neg (by simp [h8]),if_neg (by simp [h8])]
 obtain ⟨kx,HF⟩:=(show ∀ (w1:World),Below W.heap.size W w1 → Blk w1 (w.heap.size + 1) 23 [.int .i64 0,.int .i64 0] ∧ ∀ a b,Below w.heap.size w (set2 w1 (w.heap.size + 1) a b) from FIN) _ (Below.refl _ _)
 obtain ⟨⟨c0,c1⟩,f0,f1⟩:=blk2 kx
 have HFH:Hid (∀ a b,Below w.heap.size w (set2 W (w.heap.size + 1) a b)):=HF
 clear HF FIN
 clear hV hlow h7 h8
 go_wp2
 refine bodyPost_ret (results_struct_tmp rfl _ _ (w.heap.size + 1) _ rfl (load_val (blk_set2 kx _ _))) rfl ?_
 exact ⟨rfl,HFH _ _⟩
end Go.Proofs.YtcmmdojlhfmddaaGreat.Vl

/- The document's own Value, property by property: 1, 4. -/
set_option maxRecDepth 100000
namespace Go.Proofs.YtcmmdojlhfmddaaGreat.Vl
open Go Go.RowKit
set_option maxHeartbeats 4000000 in
theorem refValue_4 (t:Bt) (bk off cap:Nat) (w:World) (hbk:bk < w.heap.size) (hat:BtAt w bk off t) (ht:t.text.size ≤ maxLen) :
  Calls Tryz.prog 43 #[.int .i64 4,.slice (some ⟨bk,off,none⟩) 1 cap] w fun e w' => e = ret (refV 4 t.kind t.text.data.toList (lowOf t) t.n t.whole) ∧ Below w.heap.size w w':=by
 obtain ⟨V,hV⟩:∃ V,refV 4 t.kind t.text.data.toList (lowOf t) t.n t.whole = V:=⟨_,rfl⟩
 rw [hV]
 obtain ⟨kind,text,n,wh,c⟩:=t
 obtain ⟨x0,x1,x2,x3,x4⟩:=hat
 simp only [lowOf] at hV ht ⊢ x0 x1 x2 x3 x4
 have hlow:=fun X => Lw.refLower_any text X ht
 obtain ⟨low,hlw⟩:∃ low,Lw.low text.data.toList = low:=⟨_,rfl⟩
 rw [hlw] at hV
 simp only [hlw] at hlow
 unfold refV at hV
 have bz:=zero_new w
 replace x0:=(bz.cell (p:=⟨bk,off,none⟩) hbk).trans x0
 replace x1:=(bz.cell (p:=⟨bk,off + 1,none⟩) hbk).trans x1
 replace x2:=(bz.cell (p:=⟨bk,off + 2,none⟩) hbk).trans x2
 replace x3:=(bz.cell (p:=⟨bk,off + 3,none⟩) hbk).trans x3
 replace x4:=(bz.cell (p:=⟨bk,off + 4,none⟩) hbk).trans x4
 have b0:Below w.heap.size w ((w.alloc (.cells #[.int .i64 0,.int .i64 0] 23)).alloc (.cells #[.int .i64 kind,.string text,.int .i64 n,.bool wh,.int .i64 c] 85)):=((Below.refl _ w).alloc (Nat.le_refl _) _).alloc (by rw [World.size_alloc];omega) _
 have kV:Blk ((w.alloc (.cells #[.int .i64 0,.int .i64 0] 23)).alloc (.cells #[.int .i64 kind,.string text,.int .i64 n,.bool wh,.int .i64 c] 85)) w.heap.size 23 [.int .i64 0,.int .i64 0]:=(Blk.new w 23 [.int .i64 0,.int .i64 0]).kept (World.grownBy_alloc _ _ none) (by simp)
 have kT:Blk ((w.alloc (.cells #[.int .i64 0,.int .i64 0] 23)).alloc (.cells #[.int .i64 kind,.string text,.int .i64 n,.bool wh,.int .i64 c] 85)) (w.heap.size + 1) 85 [.int .i64 kind,.string text,.int .i64 n,.bool wh,.int .i64 c]:=by
  have:=Blk.new (w.alloc (.cells #[.int .i64 0,.int .i64 0] 23)) 85 [.int .i64 kind,.string text,.int .i64 n,.bool wh,.int .i64 c]
  rwa [World.size_alloc] at this
 have hSz:((w.alloc (.cells #[.int .i64 0,.int .i64 0] 23)).alloc (.cells #[.int .i64 kind,.string text,.int .i64 n,.bool wh,.int .i64 c] 85)).heap.size = w.heap.size + 2:=by rw [World.size_alloc,World.size_alloc]
 go_enter Tryz.func43,Tryz.ntmps43
 go_upto_region 4 with fail
 generalize ((w.alloc (.cells #[.int .i64 0,.int .i64 0] 23)).alloc (.cells #[.int .i64 kind,.string text,.int .i64 n,.bool wh,.int .i64 c] 85)) = W at *
 clear x0 x1 x2 x3 x4 bz
 obtain ⟨⟨t0,t1,t2,t3,t4⟩,_⟩:=blk5 kT
 have FIN:Hid (∀ (w1:World),Below W.heap.size W w1 → Blk w1 w.heap.size 23 [.int .i64 0,.int .i64 0] ∧ ∀ a b,Below w.heap.size w (set2 w1 w.heap.size a b)):=fun w1 b1 =>
  ⟨kV.below b1 kV.lt,fun a b => below_grew (b0.trans (b1.mono b0.size)) (grown_set2 w1 w.heap.size a b) (by have:=b1.size;omega) (by omega)⟩
 clear hSz
 by_cases h1:kind = 1
 ·subst h1
  rw [if_pos rfl] at hV
  go_wp2_with fail
  refine (hlow _).mono ?_
  clear hlow
  rintro e w1 ⟨rfl,b1⟩
  have bA:Below w1.heap.size w1 (w1.alloc (.cells #[.string ⟨#[105,110,104,101,114,105,116]⟩,.string ⟨#[105,110,105,116,105,97,108]⟩,.string ⟨#[117,110,115,101,116]⟩] 9)):=(Below.refl _ _).alloc (Nat.le_refl _) _
  have hk:Calls Tryz.prog 66 #[.string ⟨low.toArray⟩,.slice (some ⟨w1.heap.size,0,none⟩) 3 3] (w1.alloc (.cells #[.string ⟨#[105,110,104,101,114,105,116]⟩,.string ⟨#[105,110,105,116,105,97,108]⟩,.string ⟨#[117,110,115,101,116]⟩] 9)) fun e w' => e = .returned (.tuple #[.int .i64 (idxV wideT low).1,.bool (idxV wideT low).2]) ∧ w' = (w1.alloc (.cells #[.string ⟨#[105,110,104,101,114,105,116]⟩,.string ⟨#[105,110,105,116,105,97,108]⟩,.string ⟨#[117,110,115,101,116]⟩] 9)):=
   refWord_any ⟨low.toArray⟩ w1.heap.size 3 wideT _ (StrsIn.new w1 wideT 9) (by decide)
  unfold idxV at hk
  have b2:Below W.heap.size W (w1.alloc (.cells #[.string ⟨#[105,110,104,101,114,105,116]⟩,.string ⟨#[105,110,105,116,105,97,108]⟩,.string ⟨#[117,110,115,101,116]⟩] 9)):=b1.trans (bA.mono b1.size)
  clear bA
  cases hi:idx wideT low with
  | some m =>
   have hm:=idx_lt hi
   rw [hi] at hk hV
   have hw7:IntKind.i64.wrap (7 + (m:Int)) = 7 + (m:Int):=by simp [wideT] at hm;rw [IntKind.wrap_i64];omega
   obtain rfl:(7 + (m:Int),0,true) = V:=hV
   go_wp2_with fail
   refine hk.mono ?_
   clear hk
   rintro e w2 ⟨rfl,rfl⟩
   clear t0 t1 t2 t3 t4
   generalize (w1.alloc (.cells #[.string ⟨#[105,110,104,101,114,105,116]⟩,.string ⟨#[105,110,105,116,105,97,108]⟩,.string ⟨#[117,110,115,101,116]⟩] 9)) = w2 at *
   obtain ⟨kx,HF⟩:=(show ∀ (w1:World),Below W.heap.size W w1 → Blk w1 w.heap.size 23 [.int .i64 0,.int .i64 0] ∧ ∀ a b,Below w.heap.size w (set2 w1 w.heap.size a b) from FIN) _ (b2)
   obtain ⟨⟨c0,c1⟩,f0,f1⟩:=blk2 kx
   have HFH:Hid (∀ a b,Below w.heap.size w (set2 w2 w.heap.size a b)):=HF
   clear HF FIN
   go_wp2
   refine bodyPost_ret (results_struct_tmp rfl _ _ w.heap.size _ rfl (load_val (blk_set2 kx _ _))) rfl ?_
   exact ⟨rfl,HFH _ _⟩
  | none =>
   rw [hi] at hk hV
   go_wp2_with fail
   refine hk.mono ?_
   clear hk
   rintro e w2 ⟨rfl,rfl⟩
   generalize (w1.alloc (.cells #[.string ⟨#[105,110,104,101,114,105,116]⟩,.string ⟨#[105,110,105,116,105,97,108]⟩,.string ⟨#[117,110,115,101,116]⟩] 9)) = w2 at *
   clear hi b1
   have kT2:=kT.below b2 kT.lt
   clear t0 t1 t2 t3 t4
   obtain ⟨⟨t0,t1,t2,t3,t4⟩,_⟩:=blk5 kT2
   replace hV:restV 4 1 text.data.toList low n wh = V:=hV
   have hk:Calls Tryz.prog 70 #[.agg #[.int .i64 1,.string text,.int .i64 n,.bool wh,.int .i64 c]] w2 fun e w' => e = ret (lenV 1 low n) ∧ Below w2.heap.size w2 w':=by
    rw [← hlw]
    exact refLength_any ⟨1,text,n,wh,c⟩ w2 ht
   obtain ⟨L,hL⟩:∃ L,lenV 1 low n = L:=⟨_,rfl⟩
   have hLn:L.2.2 = true → L.2.1 = n:=by
    rw [← hL]
    unfold lenV no
    repeat' split
    all_goals simp
   unfold restV at hV
   rw [hL] at hV hk
   clear hL
   obtain ⟨l1,l2,l3⟩:=L
   simp at hV hLn
   unfold ret at hk
   go_wp2_with fail
   refine hk.mono ?_
   clear hk
   rintro e w3 ⟨rfl,b3⟩
   have b3':Below W.heap.size W w3:=b2.trans (b3.mono b2.size)
   have bL:Below w3.heap.size w3 (w3.alloc (.cells #[.int .i64 l1,.int .i64 l2] 23)):=(Below.refl _ _).alloc (Nat.le_refl _) _
   have kL:Blk (w3.alloc (.cells #[.int .i64 l1,.int .i64 l2] 23)) w3.heap.size 23 [.int .i64 l1,.int .i64 l2]:=Blk.new w3 23 [.int .i64 l1,.int .i64 l2]
   have b4:Below W.heap.size W (w3.alloc (.cells #[.int .i64 l1,.int .i64 l2] 23)):=b3'.trans (bL.mono b3'.size)
   have hs3:=b3'.size
   cases l3 with
   | true =>
    obtain rfl:=hLn rfl
    by_cases g0:l2 < 0
    ·obtain rfl:no = V:=by rw [← hV];simp [g0]
     clear hV t0 t1 t2 t3 t4
     obtain ⟨kx,HF⟩:=(show ∀ (w1:World),Below W.heap.size W w1 → Blk w1 w.heap.size 23 [.int .i64 0,.int .i64 0] ∧ ∀ a b,Below w.heap.size w (set2 w1 w.heap.size a b) from FIN) _ b3'
     obtain ⟨⟨c0,c1⟩,f0,f1⟩:=blk2 kx
     have hBx:=kx.lt
     have HFH:Hid (∀ a b o,Below w.heap.size w ((set2 w3 w.heap.size a b).alloc o)):=fun a b o => (HF a b).alloc (Nat.le_trans (Nat.le_of_lt hBx) (grown_set2 w3 w.heap.size a b).size) _
     clear HF FIN
     go_wp2
     refine bodyPost_ret (results_struct_tmp rfl _ _ w.heap.size _ rfl (load_val ((blk_set2 kx _ _).kept (World.grownBy_alloc _ _ none) (by simp)))) rfl ?_
     exact ⟨rfl,HFH _ _ _⟩
    obtain rfl:(l1,l2,true) = V:=by rw [← hV];simp [g0]
    clear hV t0 t1 t2 t3 t4
    obtain ⟨kx,HF⟩:=(show ∀ (w1:World),Below W.heap.size W w1 → Blk w1 w.heap.size 23 [.int .i64 0,.int .i64 0] ∧ ∀ a b,Below w.heap.size w (set2 w1 w.heap.size a b) from FIN) _ b3'
    obtain ⟨⟨c0,c1⟩,f0,f1⟩:=blk2 kx
    have hBx:=kx.lt
    have HFH:Hid (∀ a b o,Below w.heap.size w ((set2 w3 w.heap.size a b).alloc o)):=fun a b o => (HF a b).alloc (Nat.le_trans (Nat.le_of_lt hBx) (grown_set2 w3 w.heap.size a b).size) _
    clear HF FIN
    go_wp2
    refine bodyPost_ret (results_struct_tmp rfl _ _ w.heap.size _ rfl (load_val ((blk_set2 kx _ _).kept (World.grownBy_alloc _ _ none) (by simp)))) rfl ?_
    exact ⟨rfl,HFH _ _ _⟩
   | false =>
    have hE:keyV 1 low autoT = V:=by rw [← hV];simp
    clear hV hLn
    have kT3:=kT.below b3' kT.lt
    have hB3:=kT3.lt
    clear t0 t1 t2 t3 t4
    obtain ⟨⟨t0,t1,t2,t3,t4⟩,_⟩:=blk5 kT3
    have bA:Below (w3.alloc (.cells #[.int .i64 l1,.int .i64 l2] 23)).heap.size (w3.alloc (.cells #[.int .i64 l1,.int .i64 l2] 23)) ((w3.alloc (.cells #[.int .i64 l1,.int .i64 l2] 23)).alloc (.cells #[.string ⟨#[97,117,116,111]⟩] 9)):=(Below.refl _ _).alloc (Nat.le_refl _) _
    have hsX:(w3.alloc (.cells #[.int .i64 l1,.int .i64 l2] 23)).heap.size = w3.heap.size + 1:=World.size_alloc _ _
    have hk:Calls Tryz.prog 69 #[.agg #[.int .i64 1,.string text,.int .i64 n,.bool wh,.int .i64 c],.slice (some ⟨w3.heap.size + 1,0,none⟩) 1 1] ((w3.alloc (.cells #[.int .i64 l1,.int .i64 l2] 23)).alloc (.cells #[.string ⟨#[97,117,116,111]⟩] 9)) fun e w' => e = ret (keyV 1 low autoT) ∧ Below ((w3.alloc (.cells #[.int .i64 l1,.int .i64 l2] 23)).alloc (.cells #[.string ⟨#[97,117,116,111]⟩] 9)).heap.size ((w3.alloc (.cells #[.int .i64 l1,.int .i64 l2] 23)).alloc (.cells #[.string ⟨#[97,117,116,111]⟩] 9)) w':=by
     rw [← hlw,← hsX]
     exact refKey_any ⟨1,text,n,wh,c⟩ (w3.alloc (.cells #[.int .i64 l1,.int .i64 l2] 23)).heap.size 1 autoT _ (StrsIn.new (w3.alloc (.cells #[.int .i64 l1,.int .i64 l2] 23)) autoT 9) (by simp only [World.size_alloc];omega) (by decide) ht
    rw [hE] at hk
    clear hE hsX
    go_wp2_with fail
    refine hk.mono ?_
    clear hk
    rintro e w5 ⟨rfl,b5⟩
    clear t0 t1 t2 t3 t4
    obtain ⟨kx,HF⟩:=(show ∀ (w1:World),Below W.heap.size W w1 → Blk w1 w.heap.size 23 [.int .i64 0,.int .i64 0] ∧ ∀ a b,Below w.heap.size w (set2 w1 w.heap.size a b) from FIN) _ (b4.trans ((bA.trans (b5.mono bA.size)).mono b4.size))
    obtain ⟨⟨c0,c1⟩,f0,f1⟩:=blk2 kx
    have HFH:Hid (∀ a b,Below w.heap.size w (set2 w5 w.heap.size a b)):=HF
    clear HF FIN
    obtain ⟨v1,v2,v3⟩:=V
    unfold ret
    go_wp2
    refine bodyPost_ret (results_struct_tmp rfl _ _ w.heap.size _ rfl (load_val (blk_set2 kx _ _))) rfl ?_
    exact ⟨rfl,HFH _ _⟩
 rw [if_neg h1] at hV
 have e1:(kind == 1) = false:=by simpa using h1
 have b2:Below W.heap.size W W:=Below.refl _ _
 clear hlow
 have hk:Calls Tryz.prog 70 #[.agg #[.int .i64 kind,.string text,.int .i64 n,.bool wh,.int .i64 c]] W fun e w' => e = ret (lenV kind low n) ∧ Below W.heap.size W w':=by
  rw [← hlw]
  exact refLength_any ⟨kind,text,n,wh,c⟩ W ht
 obtain ⟨L,hL⟩:∃ L,lenV kind low n = L:=⟨_,rfl⟩
 have hLn:L.2.2 = true → L.2.1 = n:=by
  rw [← hL]
  unfold lenV no
  repeat' split
  all_goals simp
 unfold restV at hV
 rw [hL] at hV hk
 clear hL
 obtain ⟨l1,l2,l3⟩:=L
 simp at hV hLn
 unfold ret at hk
 go_wp2_with fail
 refine hk.mono ?_
 clear hk
 rintro e w3 ⟨rfl,b3⟩
 have b3':Below W.heap.size W w3:=b2.trans (b3.mono b2.size)
 have bL:Below w3.heap.size w3 (w3.alloc (.cells #[.int .i64 l1,.int .i64 l2] 23)):=(Below.refl _ _).alloc (Nat.le_refl _) _
 have kL:Blk (w3.alloc (.cells #[.int .i64 l1,.int .i64 l2] 23)) w3.heap.size 23 [.int .i64 l1,.int .i64 l2]:=Blk.new w3 23 [.int .i64 l1,.int .i64 l2]
 have b4:Below W.heap.size W (w3.alloc (.cells #[.int .i64 l1,.int .i64 l2] 23)):=b3'.trans (bL.mono b3'.size)
 have hs3:=b3'.size
 cases l3 with
 | true =>
  obtain rfl:=hLn rfl
  by_cases g0:l2 < 0
  ·obtain rfl:no = V:=by rw [← hV];simp [g0]
   clear hV t0 t1 t2 t3 t4
   obtain ⟨kx,HF⟩:=(show ∀ (w1:World),Below W.heap.size W w1 → Blk w1 w.heap.size 23 [.int .i64 0,.int .i64 0] ∧ ∀ a b,Below w.heap.size w (set2 w1 w.heap.size a b) from FIN) _ b3'
   obtain ⟨⟨c0,c1⟩,f0,f1⟩:=blk2 kx
   have hBx:=kx.lt
   have HFH:Hid (∀ a b o,Below w.heap.size w ((set2 w3 w.heap.size a b).alloc o)):=fun a b o => (HF a b).alloc (Nat.le_trans (Nat.le_of_lt hBx) (grown_set2 w3 w.heap.size a b).size) _
   clear HF FIN
   go_wp2
   refine bodyPost_ret (results_struct_tmp rfl _ _ w.heap.size _ rfl (load_val ((blk_set2 kx _ _).kept (World.grownBy_alloc _ _ none) (by simp)))) rfl ?_
   exact ⟨rfl,HFH _ _ _⟩
  obtain rfl:(l1,l2,true) = V:=by rw [← hV];simp [g0]
  clear hV t0 t1 t2 t3 t4
  obtain ⟨kx,HF⟩:=(show ∀ (w1:World),Below W.heap.size W w1 → Blk w1 w.heap.size 23 [.int .i64 0,.int .i64 0] ∧ ∀ a b,Below w.heap.size w (set2 w1 w.heap.size a b) from FIN) _ b3'
  obtain ⟨⟨c0,c1⟩,f0,f1⟩:=blk2 kx
  have hBx:=kx.lt
  have HFH:Hid (∀ a b o,Below w.heap.size w ((set2 w3 w.heap.size a b).alloc o)):=fun a b o => (HF a b).alloc (Nat.le_trans (Nat.le_of_lt hBx) (grown_set2 w3 w.heap.size a b).size) _
  clear HF FIN
  go_wp2
  refine bodyPost_ret (results_struct_tmp rfl _ _ w.heap.size _ rfl (load_val ((blk_set2 kx _ _).kept (World.grownBy_alloc _ _ none) (by simp)))) rfl ?_
  exact ⟨rfl,HFH _ _ _⟩
 | false =>
  have hE:keyV kind low autoT = V:=by rw [← hV];simp
  clear hV hLn
  have kT3:=kT.below b3' kT.lt
  have hB3:=kT3.lt
  clear t0 t1 t2 t3 t4
  obtain ⟨⟨t0,t1,t2,t3,t4⟩,_⟩:=blk5 kT3
  have bA:Below (w3.alloc (.cells #[.int .i64 l1,.int .i64 l2] 23)).heap.size (w3.alloc (.cells #[.int .i64 l1,.int .i64 l2] 23)) ((w3.alloc (.cells #[.int .i64 l1,.int .i64 l2] 23)).alloc (.cells #[.string ⟨#[97,117,116,111]⟩] 9)):=(Below.refl _ _).alloc (Nat.le_refl _) _
  have hsX:(w3.alloc (.cells #[.int .i64 l1,.int .i64 l2] 23)).heap.size = w3.heap.size + 1:=World.size_alloc _ _
  have hk:Calls Tryz.prog 69 #[.agg #[.int .i64 kind,.string text,.int .i64 n,.bool wh,.int .i64 c],.slice (some ⟨w3.heap.size + 1,0,none⟩) 1 1] ((w3.alloc (.cells #[.int .i64 l1,.int .i64 l2] 23)).alloc (.cells #[.string ⟨#[97,117,116,111]⟩] 9)) fun e w' => e = ret (keyV kind low autoT) ∧ Below ((w3.alloc (.cells #[.int .i64 l1,.int .i64 l2] 23)).alloc (.cells #[.string ⟨#[97,117,116,111]⟩] 9)).heap.size ((w3.alloc (.cells #[.int .i64 l1,.int .i64 l2] 23)).alloc (.cells #[.string ⟨#[97,117,116,111]⟩] 9)) w':=by
   rw [← hlw,← hsX]
   exact refKey_any ⟨kind,text,n,wh,c⟩ (w3.alloc (.cells #[.int .i64 l1,.int .i64 l2] 23)).heap.size 1 autoT _ (StrsIn.new (w3.alloc (.cells #[.int .i64 l1,.int .i64 l2] 23)) autoT 9) (by simp only [World.size_alloc];omega) (by decide) ht
  rw [hE] at hk
  clear hE hsX
  go_wp2_with fail
  refine hk.mono ?_
  clear hk
  rintro e w5 ⟨rfl,b5⟩
  clear t0 t1 t2 t3 t4
  obtain ⟨kx,HF⟩:=(show ∀ (w1:World),Below W.heap.size W w1 → Blk w1 w.heap.size 23 [.int .i64 0,.int .i64 0] ∧ ∀ a b,Below w.heap.size w (set2 w1 w.heap.size a b) from FIN) _ (b4.trans ((bA.trans (b5.mono bA.size)).mono b4.size))
  obtain ⟨⟨c0,c1⟩,f0,f1⟩:=blk2 kx
  have HFH:Hid (∀ a b,Below w.heap.size w (set2 w5 w.heap.size a b)):=HF
  clear HF FIN
  obtain ⟨v1,v2,v3⟩:=V
  unfold ret
  go_wp2
  refine bodyPost_ret (results_struct_tmp rfl _ _ w.heap.size _ rfl (load_val (blk_set2 kx _ _))) rfl ?_
  exact ⟨rfl,HFH _ _⟩
end Go.Proofs.YtcmmdojlhfmddaaGreat.Vl

/- The document's own Sets at declarations of a width alone (the constant sheet of the laws' own 'alive'). -/
set_option maxRecDepth 100000
namespace Go.Proofs.YtcmmdojlhfmddaaGreat.Vl
open Go Go.RowKit
theorem refValue_w (p:Int) (hp:p = 4) (v:Value) (ts:List Bt) (w:World) (hv:BtsAt w.heap.size w v ts) (ht:∀ t ∈ ts,t.text.size ≤ maxLen) (h1:ts.length = 1) :
  Calls Tryz.prog 43 #[.int .i64 p,v] w fun e w' => e = ret (parseV p ts) ∧ Below w.heap.size w w':=by
 subst hp
 obtain ⟨q,cap,rfl⟩:=hv.len
 obtain ⟨t,rfl⟩:=List.length_eq_one_iff.1 h1
 obtain ⟨bk,off,rfl,hbk,_,_,hat⟩:=hv.get (k:=0) (t:=t) rfl
 rw [Nat.zero_mul,Nat.add_zero] at hat
 have h2:=ht t (List.mem_singleton_self t)
 rw [parseV,if_pos (by omega),tokV,← refV_eq 4 (by omega)]
 exact refValue_4 t bk off cap w hbk hat h2
set_option maxHeartbeats 4000000 in
theorem refSets_w (v:Value) (ds:List Dl) (w:World) (hv:DlsAt w.heap.size w v ds) (ht:∀ d ∈ ds,∀ t ∈ d.val,t.text.size ≤ maxLen) (hl:ds.length ≤ 1000) (hw:∀ d ∈ ds,(propV d.name.data.toList).1 = 4 ∧ d.val.length = 1) :
  Calls Tryz.prog 17 #[v] w fun e w' => ∃ v',e = .returned v' ∧ SetsIn w.heap.size w' v' (setsV ds) ∧ Below w.heap.size w w':=by
 obtain ⟨i0,hi,hz0,hz1,hz2⟩:=info_parts infoSet
 obtain ⟨q,cap,rfl⟩:=hv.len
 have HT:Hid ((∀ d ∈ ds,∀ t ∈ d.val,t.text.size ≤ maxLen) ∧ ∀ d ∈ ds,(propV d.name.data.toList).1 = 4 ∧ d.val.length = 1):=⟨ht,hw⟩
 clear ht hw
 obtain ⟨A,hA⟩:∃ A,setsV ds = A:=⟨_,rfl⟩
 have hAl:=setsV_len ds
 rw [hA] at hAl ⊢
 go_enter Tryz.func17,Tryz.ntmps17
 go_wp2
 go_loopw [3,4] (fun o i wr => ∃ (k:Nat) (qs:List Sv) (v0:Value),i = .int .i64 k ∧ o = v0 ∧ k ≤ ds.length ∧ qs.length ≤ k ∧ SetsIn w.heap.size wr v0 qs ∧ Hid (qs ++ setsV (ds.drop k) = A) ∧ Below w.heap.size w wr) (fun _ i _ => ds.length - (intOf i).toNat)
 case atStart => exact ⟨0,[],_,rfl,rfl,Nat.zero_le _,by simp,World.ownsRow_nil _ _ _ _,hA,Below.refl _ _⟩
 case round =>
  obtain ⟨k,qs,v0,rfl,rfl,hk,hqk,hR,HA,hbw⟩:=hrel
  clear hA
  have hvr:=hv.next hbw
  obtain ⟨q0,c0,rfl⟩:=hR.form
  by_cases hlt:k < ds.length
  ·have hki:(k:Int) < (ds.length:Int):=by omega
   have hdk:ds[k]? = some ds[k]:=List.getElem?_eq_getElem hlt
   have htd:=HT.out.1 ds[k] (List.getElem_mem hlt)
   have hwd:=HT.out.2 ds[k] (List.getElem_mem hlt)
   obtain ⟨bk,off,rfl,hbk,_,_,x0,x1,x2,hbt⟩:=hvr.get hdk
   have HA2:qs ++ ((setOf ds[k]).toList ++ setsV (ds.drop (k + 1))) = A:=by
    rw [← setsV_drop hdk]
    exact HA
   unfold setOf at HA2
   clear HA hdk
   generalize ds[k] = d at *
   obtain ⟨name,val,dv,imp⟩:=d
   simp only at htd x0 x1 x2 hbt HA2 hwd
   obtain ⟨qd,cd,rfl⟩:=hbt.len
   have hp:=refProp_any name wr
   obtain ⟨pn,ok,hV⟩:∃ pn ok,propV name.data.toList = (pn,ok):=⟨_,_,rfl⟩
   rw [hV] at hp HA2 hwd
   simp only at hp HA2 hwd
   have HPN:Hid (pn = 4 ∧ val.length = 1):=hwd
   clear hwd
   clear hV hvr
   have hsr:=hbw.size
   go_wp2_with fail
   refine hp.mono ?_
   clear hp
   rintro e w1 ⟨rfl,b1⟩
   replace x1:=(b1.cell (p:=⟨bk,off + k * 3 + 1,none⟩) hbk).trans x1
   replace x2:=(b1.cell (p:=⟨bk,off + k * 3 + 2,none⟩) hbk).trans x2
   have hbt1:=hbt.next b1
   have hR1:=hR.keep b1
   have hb1:=below_next hbw b1
   have hbk1:bk < w1.heap.size:=Nat.lt_of_lt_of_le hbk b1.size
   clear x0 hbt hR
   cases ok with
   | false =>
    have HA3:Hid (qs ++ setsV (ds.drop (k + 1)) = A):=by unfold Hid;simpa using HA2
    clear HA2
    go_wp2
    exact ⟨⟨k + 1,qs,_,by go_num,rfl,by omega,by omega,hR1,HA3,hb1⟩,by simp [intOf];omega⟩
   | true =>
    have hpa:=refValue_w pn HPN.out.1 _ val _ hbt1 htd HPN.out.2
    simp only [if_true] at HA2
    obtain ⟨v1,v2,v3,hV⟩:∃ v1 v2 v3,parseV pn val = (v1,v2,v3):=⟨_,_,_,rfl⟩
    rw [hV] at hpa HA2
    simp only at HA2
    unfold ret at hpa
    simp only at hpa
    clear hV htd
    go_wp2_with fail
    refine hpa.mono ?_
    clear hpa
    rintro e w2 ⟨rfl,b2⟩
    have hR2:=hR1.keep b2
    have hb2:=below_next hb1 b2
    have bE:Below w2.heap.size w2 (w2.alloc (.cells #[.int .i64 v1,.int .i64 v2] 23)):=(Below.refl _ _).alloc (Nat.le_refl _) _
    have kE:Blk (w2.alloc (.cells #[.int .i64 v1,.int .i64 v2] 23)) w2.heap.size _ _:=Blk.new w2 23 [.int .i64 v1,.int .i64 v2]
    have hR3:=hR2.keep bE
    have hb3:=below_next hb2 bE
    replace x2:=(b2.cell (p:=⟨bk,off + k * 3 + 2,none⟩) hbk1).trans x2
    have hbk2:bk < w2.heap.size:=Nat.lt_of_lt_of_le hbk1 b2.size
    replace x2:=(bE.cell (p:=⟨bk,off + k * 3 + 2,none⟩) hbk2).trans x2
    clear hR1 hR2 hbt1 x1
    cases v3 with
    | false =>
     have HA3:Hid (qs ++ setsV (ds.drop (k + 1)) = A):=by unfold Hid;simpa using HA2
     clear HA2 kE x2
     go_wp2
     exact ⟨⟨k + 1,qs,_,by go_num,rfl,by omega,by omega,hR3,HA3,hb3⟩,by simp [intOf];omega⟩
    | true =>
     have HA3:Hid ((qs ++ [(pn,v1,v2,imp)]) ++ setsV (ds.drop (k + 1)) = A):=by unfold Hid;simpa using HA2
     clear HA2
     obtain ⟨⟨z0,z1⟩,_⟩:=blk2 kE
     go_upto_region 9 with fail
     generalize w2.alloc (.cells #[.int .i64 v1,.int .i64 v2] 23) = w3 at *
     have hs3:=hb3.size
     have bO:Below w3.heap.size w3 (w3.alloc (.cells #[.int .i64 pn,.int .i64 v1,.int .i64 v2,.bool imp] 25)):=(Below.refl _ _).alloc (Nat.le_refl _) _
     have HC:∀ j u,([.int .i64 pn,.int .i64 v1,.int .i64 v2,.bool imp]:List Value)[j]? = some u → (w3.alloc (.cells #[.int .i64 pn,.int .i64 v1,.int .i64 v2,.bool imp] 25)).drew.cell? ((⟨w3.heap.size,0,none⟩:Addr).add j) = some u:=cells_new w3 [.int .i64 pn,.int .i64 v1,.int .i64 v2,.bool imp] 25
     have hR4:(w3.alloc (.cells #[.int .i64 pn,.int .i64 v1,.int .i64 v2,.bool imp] 25)).drew.ownsRow w.heap.size 25 4 (.slice q0 qs.length c0) qs.length (qs.flatMap svCells):=hR3.keep (below_drew bO)
     have hbO:w.heap.size ≤ (w3.alloc (.cells #[.int .i64 pn,.int .i64 v1,.int .i64 v2,.bool imp] 25)).drew.heap.size:=by show _ ≤ (w3.alloc (.cells #[.int .i64 pn,.int .i64 v1,.int .i64 v2,.bool imp] 25)).heap.size;rw [World.size_alloc];omega
     have H1:∀ u ∈ ([.int .i64 pn,.int .i64 v1,.int .i64 v2,.bool imp]:List Value),u.oneCell' = true:=fun u hu => by simp at hu;rcases hu with rfl | rfl | rfl | rfl <;> rfl
     have m1:qs.length + 1 ≤ maxLen:=by unfold maxLen;omega
     have m2:(qs.length + 1) * 32 ≤ 140737488355328:=by omega
     have HH:Hid (Below w.heap.size w (w3.alloc (.cells #[.int .i64 pn,.int .i64 v1,.int .i64 v2,.bool imp] 25)).drew):=below_drew (hb3.alloc hs3 _)
     go_region_law (refine step_append_lies (w:=(w3.alloc (.cells #[.int .i64 pn,.int .i64 v1,.int .i64 v2,.bool imp] 25)).drew) rfl _ _ 38 rfl w.heap.size 25 i0 (.agg #[.int .i64 0,.int .i64 0,.int .i64 0,.bool false]) 4 32 Tryz.underlying38 hi hz0 hz1 hz2 rfl (by decide) (.slice q0 qs.length c0) _ _ rfl hR4 ⟨w3.heap.size,0,none⟩ 1 1 [.int .i64 pn,.int .i64 v1,.int .i64 v2,.bool imp] rfl rfl HC H1 (by decide) m1 m2 hbO _ rfl ?_;intro g7 c7 w7 hown7 hgrow7 hat7 hlt7)
     all_goals
      have hR7:SetsIn w.heap.size w7 (.slice (some ⟨g7,0,none⟩) (qs.length + 1) c7) (qs ++ [(pn,v1,v2,imp)]):=by
       unfold SetsIn
       rw [List.length_append,List.flatMap_append]
       simpa [svCells] using hown7
      have hB7:=(show Below w.heap.size w _ from HH).grown hgrow7 hbO (fun j e => (World.ownsRow.lt hR4 j e).1)
      clear HC hR4 H1 HH hat7
      go_wp2
      exact ⟨⟨k + 1,qs ++ [(pn,v1,v2,imp)],_,by go_num,rfl,by omega,by simp;omega,hR7,HA3,hB7⟩,by simp [intOf];omega⟩
  ·have hki:¬ (k:Int) < (ds.length:Int):=by omega
   obtain rfl:qs = A:=by
    have:=HA
    unfold Hid at this
    rw [List.drop_eq_nil_of_le (by omega)] at this
    simpa [setsV] using this
   clear HA
   go_wp2
   go_ret
   exact ⟨_,rfl,hR,hbw⟩
end Go.Proofs.YtcmmdojlhfmddaaGreat.Vl
