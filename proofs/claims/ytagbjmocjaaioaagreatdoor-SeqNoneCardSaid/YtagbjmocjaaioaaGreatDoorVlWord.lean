/- Values, as plain functions: what a word, digits, a length, a number, a token are to each property; as package value reads them and as the document says it, and that both are one. -/
import Derived.Test.YtagbjmocjaaioaaGreatDoorProg
import Derived.WalkKit
import Derived.Below
import Derived.OwnWalk
import Derived.WalkSmall
import Derived.Laws.OwnMore
import Derived.Laws.Rows
import Derived.Laws.IdiomStrings
import Derived.Maps.AppendAt
import Derived.Deep.QuietTactic
import Derived.Deep.RegionWith
import Derived.Deep.DeepCutAuto
import Derived.Deep.CutBlock
import Derived.Deep.RegionHeld
import Derived.BigQuiet
namespace Go.Proofs.YtagbjmocjaaioaaGreatDoor.Vl
open Go
abbrev Vv:=Int × Int × Bool
def no:Vv:=(0,0,false)
def wordsT:List (Int × List UInt8 × Int × Int):=
 [(-1,[105,110,104,101,114,105,116],7,0),(-1,[105,110,105,116,105,97,108],8,0),(-1,[117,110,115,101,116],9,0),
  (0,[98,108,97,99,107],6,0),(0,[119,104,105,116,101],6,16777215),(0,[114,101,100],6,16711680),(0,[103,114,101,101,110],6,32768),(0,[98,108,117,101],6,255),
  (2,[108,101,102,116],1,0),(2,[114,105,103,104,116],1,1),(2,[99,101,110,116,101,114],1,2),
  (3,[110,111,110,101],1,0),(3,[98,108,111,99,107],1,1),(3,[105,110,108,105,110,101],1,2),(4,[97,117,116,111],1,0),(7,[97,117,116,111],1,0)]
def hits (r:Int × List UInt8 × Int × Int) (p:Int) (s:List UInt8):Bool:=(decide (r.1 = p) || decide (r.1 = -1)) && decide (r.2.1 = s)
def wordL:List (Int × List UInt8 × Int × Int) → Int → List UInt8 → Vv
 | [],_,_ => no
 | r :: l,p,s => if hits r p s then (r.2.2.1,r.2.2.2,true) else wordL l p s
def wordV (p:Int) (s:List UInt8):Vv:=wordL wordsT p s
/-! ### digits -/
def digV (c:UInt8):Int × Bool:=
 if 48 ≤ c.toNat ∧ c.toNat ≤ 57 then ((c.toNat:Int) - 48,true) else if 97 ≤ c.toNat ∧ c.toNat ≤ 102 then ((c.toNat:Int) - 87,true) else if 65 ≤ c.toNat ∧ c.toNat ≤ 70 then ((c.toNat:Int) - 55,true) else (0,false)
theorem digV_bounds (c:UInt8):0 ≤ (digV c).1 ∧ (digV c).1 ≤ 15:=by
 unfold digV
 repeat' split
 all_goals simp only
 all_goals omega
def more (sh:Bool) (n d:Int):Int:=if sh then 16 * (16 * n + d) + d else 16 * n + d
def colF (sh:Bool):Int → List UInt8 → Option Int
 | n,[] => some n
 | n,c :: l => if (digV c).2 then colF sh (more sh n (digV c).1) l else none
def colorN (s:List UInt8):Option Int:=if s.length = 3 ∨ s.length = 6 then colF (s.length == 3) 0 s else none
def colorV (p:Int) (s:List UInt8):Vv:=if p = 0 then match colorN s with
  | some n => (6,n,true)
  | none => no
 else no
def lengthV (p k n:Int):Vv:=if p = 5 ∨ (0 ≤ n ∧ (p = 1 ∨ p = 4)) then (k,n,true) else no
def cutV (n:Int):Int:=if n < 0 then 0 else if 1000 < n then 1000 else n
def numberV (p n:Int) (wh:Bool):Vv:=if p = 5 ∧ n = 0 then (2,0,true) else if p = 6 then (5,cutV n,true) else if p = 7 ∧ wh = true then (5,n,true) else no
def pxT:List UInt8:=[112,120]
def emT:List UInt8:=[101,109]
def readV (p kind:Int) (text low:List UInt8) (n:Int) (wh:Bool):Vv:=
 if kind = 1 then wordV p low
 else if kind = 3 then colorV p text
 else if kind = 8 then (if low = pxT then lengthV p 2 n else if low = emT then lengthV p 3 n else no)
 else if kind = 7 then lengthV p 4 n
 else if kind = 6 then numberV p n wh
 else no
/-! ### the document's own -/
def idx:List (List UInt8) → List UInt8 → Option Nat
 | [],_ => none
 | x :: l,s => if x = s then some 0 else (idx l s).map (· + 1)
def colT:List (List UInt8):=[[98,108,97,99,107],[119,104,105,116,101],[114,101,100],[103,114,101,101,110],[98,108,117,101]]
def alT:List (List UInt8):=[[108,101,102,116],[114,105,103,104,116],[99,101,110,116,101,114]]
def dispT:List (List UInt8):=[[110,111,110,101],[98,108,111,99,107],[105,110,108,105,110,101]]
def autoT:List (List UInt8):=[[97,117,116,111]]
def keyV (kind:Int) (low:List UInt8) (l:List (List UInt8)):Vv:=if kind = 1 then match idx l low with
  | some n => (1,(n:Int),true)
  | none => no
 else no
def lenV (kind:Int) (low:List UInt8) (n:Int):Vv:=if kind = 7 then (4,n,true) else if kind = 8 ∧ low = pxT then (2,n,true) else if kind = 8 ∧ low = emT then (3,n,true) else no
def colTab:List Int:=[0,16777215,16711680,32768,255]
def restV (p kind:Int) (text low:List UInt8) (n:Int) (wh:Bool):Vv:=
 if p = 0 then (if kind = 3 then (match colorN text with
   | some n => (6,n,true)
   | none => no) else if kind = 1 then (match idx colT low with
   | some i => (6,colTab.getD i 0,true)
   | none => no) else no)
 else if p = 2 then keyV kind low alT
 else if p = 3 then keyV kind low dispT
 else if p = 6 then (if kind = 6 then (5,cutV n,true) else no)
 else if p = 7 then (if kind = 6 ∧ wh = true then (5,n,true) else keyV kind low autoT)
 else if p = 5 then (if kind = 6 ∧ n = 0 then (2,0,true) else lenV kind low n)
 else if (lenV kind low n).2.2 = true ∧ n < 0 then no
 else if (lenV kind low n).2.2 = false ∧ p = 4 then keyV kind low autoT
 else lenV kind low n
end Go.Proofs.YtagbjmocjaaioaaGreatDoor.Vl

/- Slices of tokens, blocks of cells, values in blocks: what the walks of package value ask of the world. -/
namespace Go.Proofs.YtagbjmocjaaioaaGreatDoor.Vl
open Go Go.RowKit
theorem cell_of_block {X:World} {g:Nat} {cur:Array Value} {t:TypeId} {fz:Nat × Nat} (h:X.heap[g]? = some (.cells cur t fz)) (j:Nat):X.cell? ⟨g,j,none⟩ = cur[j]?:=by
 unfold World.cell?
 rw [h]
 rfl
theorem below_drewN (w:World) (n:Nat):Below w.heap.size w (w.drewN n):=⟨rfl,rfl,rfl,Nat.le_refl _,fun _ _ => rfl⟩
theorem below_next {w W W':World} (h:Below w.heap.size w W) (hb:Below W.heap.size W W'):Below w.heap.size w W':=h.trans (hb.mono h.size)
theorem addr_add (bk off j:Nat):(⟨bk,off,none⟩:Addr).add j = ⟨bk,off + j,none⟩:=by
 cases j with
 | zero => rfl
 | succ j => simp [Addr.add]
structure Bt where
 kind:Int
 text:ByteArray
 n:Int
 whole:Bool
 c:Int
deriving DecidableEq
def btCells (t:Bt):List Value:=[.int .i64 t.kind,.string t.text,.int .i64 t.n,.bool t.whole,.int .i64 t.c]
def btsCells (l:List Bt):List Value:=l.flatMap btCells
def BtAt (W:World) (bk o:Nat) (t:Bt):Prop:=
 W.cell? ⟨bk,o,none⟩ = some (.int .i64 t.kind) ∧ W.cell? ⟨bk,o + 1,none⟩ = some (.string t.text) ∧ W.cell? ⟨bk,o + 2,none⟩ = some (.int .i64 t.n) ∧ W.cell? ⟨bk,o + 3,none⟩ = some (.bool t.whole) ∧ W.cell? ⟨bk,o + 4,none⟩ = some (.int .i64 t.c)
def BtsAt (n₀:Nat) (W:World) (v:Value) (ts:List Bt):Prop:=
 (ts = [] ∧ (v = .slice none 0 0 ∨ ∃ x cap,v = .slice (some x) 0 cap ∧ cap ≤ maxLen)) ∨ ∃ bk off cap,v = .slice (some ⟨bk,off,none⟩) ts.length cap ∧ ts.length ≤ cap ∧ cap ≤ maxLen ∧ bk < n₀ ∧ ∀ j t,ts[j]? = some t → BtAt W bk (off + j * 5) t
theorem BtAt.below {n₀:Nat} {X Y:World} {bk o:Nat} {t:Bt} (h:BtAt X bk o t) (hb:Below n₀ X Y) (hbk:bk < n₀):BtAt Y bk o t:=by
 obtain ⟨h0,h1,h2,h3,h4⟩:=h
 exact ⟨(hb.cell (p:=⟨bk,_,none⟩) hbk).trans h0,(hb.cell (p:=⟨bk,_,none⟩) hbk).trans h1,(hb.cell (p:=⟨bk,_,none⟩) hbk).trans h2,(hb.cell (p:=⟨bk,_,none⟩) hbk).trans h3,(hb.cell (p:=⟨bk,_,none⟩) hbk).trans h4⟩
theorem BtsAt.below {n₀:Nat} {X Y:World} {v:Value} {l:List Bt} (h:BtsAt n₀ X v l) (hb:Below n₀ X Y):BtsAt n₀ Y v l:=by
 rcases h with h | ⟨bk,off,cap,rfl,h1,h2,hbk,h⟩
 ·exact .inl h
 ·exact .inr ⟨bk,off,cap,rfl,h1,h2,hbk,fun j t hj => (h j t hj).below hb hbk⟩
theorem BtsAt.mono {n₀ n₁:Nat} {X:World} {v:Value} {l:List Bt} (h:BtsAt n₀ X v l) (hn:n₀ ≤ n₁):BtsAt n₁ X v l:=by
 rcases h with h | ⟨bk,off,cap,rfl,h1,h2,hbk,h⟩
 ·exact .inl h
 ·exact .inr ⟨bk,off,cap,rfl,h1,h2,by omega,h⟩
theorem BtsAt.next {X Y:World} {v:Value} {l:List Bt} (h:BtsAt X.heap.size X v l) (hb:Below X.heap.size X Y):BtsAt Y.heap.size Y v l:=(h.below hb).mono hb.size
theorem BtsAt.len {n₀:Nat} {X:World} {v:Value} {l:List Bt} (h:BtsAt n₀ X v l):∃ p cap,v = .slice p l.length cap:=by
 rcases h with ⟨rfl,rfl | ⟨x,cap,rfl,_⟩⟩ | ⟨bk,off,cap,rfl,_⟩
 ·exact ⟨_,_,rfl⟩
 ·exact ⟨_,_,rfl⟩
 ·exact ⟨_,_,rfl⟩
theorem BtsAt.short {n₀:Nat} {X:World} {v:Value} {l:List Bt} (h:BtsAt n₀ X v l):l.length ≤ 9223372036854775807:=by
 rcases h with ⟨rfl,_⟩ | ⟨bk,off,cap,_,h1,h2,_⟩
 ·simp
 ·unfold maxLen at h2
  omega
theorem BtsAt.get {n₀:Nat} {X:World} {p:Option Addr} {n cap:Nat} {l:List Bt} (h:BtsAt n₀ X (.slice p n cap) l) {k:Nat} {t:Bt} (hk:l[k]? = some t):∃ bk off,p = some ⟨bk,off,none⟩ ∧ bk < n₀ ∧ l.length ≤ cap ∧ cap ≤ maxLen ∧ BtAt X bk (off + k * 5) t:=by
 rcases h with ⟨rfl,_⟩ | ⟨bk,off,c,e,h1,h2,hb,h⟩
 ·simp at hk
 ·cases e
  exact ⟨bk,off,rfl,hb,h1,h2,h k t hk⟩
theorem btsCells_length:∀ l:List Bt,(btsCells l).length = l.length * 5
 | [] => rfl
 | t :: l => by
  have:=btsCells_length l
  unfold btsCells at this ⊢
  rw [List.flatMap_cons,List.length_append,this,List.length_cons]
  show 5 + _ = _
  omega
theorem btsCells_at:∀ (l:List Bt) (j:Nat) (t:Bt),l[j]? = some t → ∀ i,i < 5 → (btsCells l)[j * 5 + i]? = (btCells t)[i]?
 | [],j,t,h => by simp at h
 | x :: l,0,t,h => by
  intro i hi
  obtain rfl:x = t:=by simpa using h
  unfold btsCells
  rw [List.flatMap_cons,Nat.zero_mul,Nat.zero_add,List.getElem?_append_left (by show i < 5;exact hi)]
 | x :: l,j + 1,t,h => by
  intro i hi
  have ih:=btsCells_at l j t (by simpa using h) i hi
  unfold btsCells at ih ⊢
  rw [List.flatMap_cons,List.getElem?_append_right (by show 5 ≤ _;omega),← ih]
  congr 1
  show (j + 1) * 5 + i - 5 = _
  omega
/-! ### blocks -/
def Blk (W:World) (B:Nat) (t:TypeId) (cs:List Value):Prop:=W.heap[B]? = some (.cells cs.toArray t (0,0))
theorem Blk.lt {W:World} {B:Nat} {t:TypeId} {cs:List Value} (h:Blk W B t cs):B < W.heap.size:=(Array.getElem?_eq_some_iff.1 h).1
theorem Blk.kept {W W':World} {row:Option Nat} {B:Nat} {t:TypeId} {cs:List Value} (h:Blk W B t cs) (hg:W.grownBy W' row) (hne:some B ≠ row):Blk W' B t cs:=(hg.block B h.lt hne).trans h
theorem Blk.below {W W':World} {n:Nat} {B:Nat} {t:TypeId} {cs:List Value} (h:Blk W B t cs) (hb:Below n W W') (hn:B < n):Blk W' B t cs:=(hb.block B hn).trans h
theorem Blk.new (w:World) (t:TypeId) (cs:List Value):Blk (w.alloc (.cells cs.toArray t)) w.heap.size t cs:=heap_alloc_new w _
theorem blk3 {W:World} {B:Nat} {t:TypeId} {a b c:Value} (h:Blk W B t [a,b,c]):(W.cell? ⟨B,0,none⟩ = some a ∧ W.cell? ⟨B,1,none⟩ = some b ∧ W.cell? ⟨B,2,none⟩ = some c) ∧ W.frozen? ⟨B,0,none⟩ = false ∧ W.frozen? ⟨B,1,none⟩ = false ∧ W.frozen? ⟨B,2,none⟩ = false:=by
 simp [World.cell?,World.frozen?,show W.heap[B]? = _ from h]
def set3 (W:World) (B:Nat) (a b c:Value):World:=((W.setCell ⟨B,0,none⟩ a).setCell ⟨B,1,none⟩ b).setCell ⟨B,2,none⟩ c
theorem blk_set3 {W:World} {B:Nat} {t:TypeId} {a b c:Value} (h:Blk W B t [a,b,c]) (a' b' c':Value):Blk (set3 W B a' b' c') B t [a',b',c']:=by
 unfold Blk at h ⊢
 simp [set3,World.setCell,Array.getElem?_modify,h]
theorem blk5 {W:World} {B:Nat} {t:TypeId} {a b c d e:Value} (h:Blk W B t [a,b,c,d,e]):(W.cell? ⟨B,0,none⟩ = some a ∧ W.cell? ⟨B,1,none⟩ = some b ∧ W.cell? ⟨B,2,none⟩ = some c ∧ W.cell? ⟨B,3,none⟩ = some d ∧ W.cell? ⟨B,4,none⟩ = some e) ∧ W.frozen? ⟨B,0,none⟩ = false ∧ W.frozen? ⟨B,1,none⟩ = false ∧ W.frozen? ⟨B,2,none⟩ = false ∧ W.frozen? ⟨B,3,none⟩ = false ∧ W.frozen? ⟨B,4,none⟩ = false:=by
 simp [World.cell?,World.frozen?,show W.heap[B]? = _ from h]
def set5 (W:World) (B:Nat) (a b c d e:Value):World:=((((W.setCell ⟨B,0,none⟩ a).setCell ⟨B,1,none⟩ b).setCell ⟨B,2,none⟩ c).setCell ⟨B,3,none⟩ d).setCell ⟨B,4,none⟩ e
theorem grown_set (W:World) (b i:Nat) (v:Value):W.grownBy (W.setCell ⟨b,i,none⟩ v) (some b):=
 ⟨rfl,rfl,rfl,by simp [World.setCell],fun i _ hne => Below.heap_setCell _ _ _ _ (fun e => hne (by rw [e]))⟩
theorem grown_set3 (W:World) (B:Nat) (a b c:Value):W.grownBy (set3 W B a b c) (some B):=((grown_set _ _ _ _).trans (grown_set _ _ _ _)).trans (grown_set _ _ _ _)
theorem below_grew {n:Nat} {w X Y:World} {B:Nat} (h:Below n w X) (hg:X.grownBy Y (some B)) (hn:n ≤ X.heap.size) (hB:n ≤ B):Below n w Y:=h.grown hg hn (fun r e => by cases e;exact hB)
theorem infoVal:(Tryz.prog.info? 51).map (·.size) = some 2:=by kernel_rfl
theorem load_val {w:World} {g:Nat} {a b:Value} (h:Blk w g 51 [a,b]):(loadVar 51 ⟨g,0,none⟩).run Tryz.prog w = .ok (.agg #[a,b]) w:=
 run_loadVar_row w g _ 51 #[a,b] (0,0) _ h Tryz.underlying51 rfl infoVal
theorem blk2 {W:World} {B:Nat} {t:TypeId} {a b:Value} (h:Blk W B t [a,b]):(W.cell? ⟨B,0,none⟩ = some a ∧ W.cell? ⟨B,1,none⟩ = some b) ∧ W.frozen? ⟨B,0,none⟩ = false ∧ W.frozen? ⟨B,1,none⟩ = false:=by
 simp [World.cell?,World.frozen?,show W.heap[B]? = _ from h]
def set2 (W:World) (B:Nat) (a b:Value):World:=(W.setCell ⟨B,0,none⟩ a).setCell ⟨B,1,none⟩ b
theorem blk_set2 {W:World} {B:Nat} {t:TypeId} {a b:Value} (h:Blk W B t [a,b]) (a' b':Value):Blk (set2 W B a' b') B t [a',b']:=by
 unfold Blk at h ⊢
 simp [set2,World.setCell,Array.getElem?_modify,h]
theorem grown_set2 (W:World) (B:Nat) (a b:Value):W.grownBy (set2 W B a b) (some B):=(grown_set _ _ _ _).trans (grown_set _ _ _ _)
theorem results_struct_tmp {fn:Func} {p q:Tmp} {ty:TypeId} (h:fn.results = #[.cell p ty,.tmp q]) (tmps:Array Value) (w:World) (g:Nat) (x:Value)
  (hp:tmps.getD p undef = .pointer (some ⟨g,0,none⟩)) (hl:(loadVar ty ⟨g,0,none⟩).run Tryz.prog w = .ok x w) :
  (results fn tmps).run Tryz.prog w = .ok (.tuple #[x,tmps.getD q undef]) w:=by
 have hp':tmps[p]?.getD undef = .pointer (some ⟨g,0,none⟩):=by simpa using hp
 simp [results,h,hp',asAddr,hl]
end Go.Proofs.YtagbjmocjaaioaaGreatDoor.Vl

/- package value: cut, within, isProp, digit, length, number, at every input. -/
set_option maxRecDepth 100000
namespace Go.Proofs.YtagbjmocjaaioaaGreatDoor.Vl
open Go Go.RowKit
set_option maxHeartbeats 400000 in
theorem cut_any (n a b:Int) (w:World) (hab:a ≤ b):Calls Tryz.prog 220 #[.int .i64 n,.int .i64 a,.int .i64 b] w fun e w' => e = .returned (.int .i64 (if n < a then a else if b < n then b else n)) ∧ w' = w:=by
 by_cases h1:n < a
 ·rw [if_pos h1]
  have h2:¬ b < n:=by omega
  go_enter Tryz.func220,Tryz.ntmps220
  go_wp2
  go_ret
  exact ⟨rfl,rfl⟩
 ·by_cases h2:b < n
  ·rw [if_neg h1,if_pos h2]
   by_cases h3:a < b
   ·go_enter Tryz.func220,Tryz.ntmps220
    go_wp2
    go_ret
    exact ⟨rfl,rfl⟩
   ·obtain rfl:a = b:=by omega
    go_enter Tryz.func220,Tryz.ntmps220
    go_wp2
    go_ret
    exact ⟨rfl,rfl⟩
  ·rw [if_neg h1,if_neg h2]
   by_cases h3:a < n
   ·go_enter Tryz.func220,Tryz.ntmps220
    go_wp2
    go_ret
    exact ⟨rfl,rfl⟩
   ·obtain rfl:n = a:=by omega
    go_enter Tryz.func220,Tryz.ntmps220
    go_wp2
    go_ret
    exact ⟨rfl,rfl⟩
set_option maxHeartbeats 400000 in
theorem cutB_any (n a b:Int) (w:World) (hab:a ≤ b):Calls Tryz.prog 304 #[.int .u8 n,.int .u8 a,.int .u8 b] w fun e w' => e = .returned (.int .u8 (if n < a then a else if b < n then b else n)) ∧ w' = w:=by
 by_cases h1:n < a
 ·rw [if_pos h1]
  have h2:¬ b < n:=by omega
  go_enter Tryz.func304,Tryz.ntmps304
  go_wp2
  go_ret
  exact ⟨rfl,rfl⟩
 ·by_cases h2:b < n
  ·rw [if_neg h1,if_pos h2]
   by_cases h3:a < b
   ·go_enter Tryz.func304,Tryz.ntmps304
    go_wp2
    go_ret
    exact ⟨rfl,rfl⟩
   ·obtain rfl:a = b:=by omega
    go_enter Tryz.func304,Tryz.ntmps304
    go_wp2
    go_ret
    exact ⟨rfl,rfl⟩
  ·rw [if_neg h1,if_neg h2]
   by_cases h3:a < n
   ·go_enter Tryz.func304,Tryz.ntmps304
    go_wp2
    go_ret
    exact ⟨rfl,rfl⟩
   ·obtain rfl:n = a:=by omega
    go_enter Tryz.func304,Tryz.ntmps304
    go_wp2
    go_ret
    exact ⟨rfl,rfl⟩
theorem cut_eq {n a b:Int} (_:a ≤ b):((if n < a then a else if b < n then b else n) == n) = decide (a ≤ n ∧ n ≤ b):=by
 by_cases h1:n < a
 ·rw [if_pos h1,decide_eq_false (by omega)];simp;omega
 ·by_cases h2:b < n
  ·rw [if_neg h1,if_pos h2,decide_eq_false (by omega)];simp;omega
  ·rw [if_neg h1,if_neg h2,decide_eq_true (by omega)];simp
set_option maxHeartbeats 400000 in
theorem within_any (n a b:Int) (w:World) (hab:a ≤ b):Calls Tryz.prog 178 #[.int .i64 n,.int .i64 a,.int .i64 b] w fun e w' => e = .returned (.bool (decide (a ≤ n ∧ n ≤ b))) ∧ w' = w:=by
 have h:=cut_any n a b w hab
 have e0:=cut_eq (n:=n) hab
 generalize (if n < a then a else if b < n then b else n) = x at *
 generalize decide (a ≤ n ∧ n ≤ b) = r at *
 go_enter Tryz.func178,Tryz.ntmps178
 go_wp2_with fail
 refine h.mono ?_
 clear h
 rintro e w1 ⟨rfl,rfl⟩
 go_wp2
 go_ret
 exact ⟨rfl,rfl⟩
set_option maxHeartbeats 400000 in
theorem withinB_any (n a b:Int) (w:World) (hab:a ≤ b):Calls Tryz.prog 275 #[.int .u8 n,.int .u8 a,.int .u8 b] w fun e w' => e = .returned (.bool (decide (a ≤ n ∧ n ≤ b))) ∧ w' = w:=by
 have h:=cutB_any n a b w hab
 have e0:=cut_eq (n:=n) hab
 generalize (if n < a then a else if b < n then b else n) = x at *
 generalize decide (a ≤ n ∧ n ≤ b) = r at *
 go_enter Tryz.func275,Tryz.ntmps275
 go_wp2_with fail
 refine h.mono ?_
 clear h
 rintro e w1 ⟨rfl,rfl⟩
 go_wp2
 go_ret
 exact ⟨rfl,rfl⟩
set_option maxHeartbeats 400000 in
theorem isProp_any (p:Int) (w:World):Calls Tryz.prog 141 #[.int .i64 p] w fun e w' => e = .returned (.bool (decide (0 ≤ p ∧ p ≤ 7))) ∧ w' = w:=by
 have h:=within_any p 0 7 w (by omega)
 generalize decide (0 ≤ p ∧ p ≤ 7) = r at *
 go_enter Tryz.func141,Tryz.ntmps141
 go_wp2_with fail
 refine h.mono ?_
 clear h
 rintro e w1 ⟨rfl,rfl⟩
 go_wp2
 go_ret
 exact ⟨rfl,rfl⟩
set_option maxHeartbeats 1000000 in
theorem digit_any (c:UInt8) (w:World):Calls Tryz.prog 242 #[.int .u8 c.toNat] w fun e w' => e = .returned (.tuple #[.int .i64 (digV c).1,.bool (digV c).2]) ∧ w' = w:=by
 have hc:=c.toNat_lt
 have h1:=fun W => withinB_any c.toNat 48 57 W (by omega)
 have h2:=fun W => withinB_any c.toNat 97 102 W (by omega)
 have h3:=fun W => withinB_any c.toNat 65 70 W (by omega)
 unfold digV
 generalize c.toNat = n at *
 by_cases g1:48 ≤ n ∧ n ≤ 57
 ·rw [if_pos g1]
  rw [show decide ((48:Int) ≤ n ∧ (n:Int) ≤ 57) = true from decide_eq_true (by omega)] at h1
  have e1:IntKind.u8.wrap ((n:Int) - 48) = (n:Int) - 48:=by rw [IntKind.wrap_u8];omega
  have e2:IntKind.i64.wrap ((n:Int) - 48) = (n:Int) - 48:=by rw [IntKind.wrap_i64];omega
  clear h2 h3
  go_enter Tryz.func242,Tryz.ntmps242
  go_wp2_with fail
  refine (h1 _).mono ?_
  clear h1
  rintro e w1 ⟨rfl,rfl⟩
  go_wp2
  go_ret2
  exact ⟨rfl,rfl⟩
 rw [if_neg g1]
 rw [show decide ((48:Int) ≤ n ∧ (n:Int) ≤ 57) = false from decide_eq_false (by omega)] at h1
 by_cases g2:97 ≤ n ∧ n ≤ 102
 ·rw [if_pos g2]
  rw [show decide ((97:Int) ≤ n ∧ (n:Int) ≤ 102) = true from decide_eq_true (by omega)] at h2
  have e1:IntKind.u8.wrap ((n:Int) - 97) = (n:Int) - 97:=by rw [IntKind.wrap_u8];omega
  have e2:IntKind.i64.wrap ((n:Int) - 97) = (n:Int) - 97:=by rw [IntKind.wrap_i64];omega
  have e3:IntKind.i64.wrap ((n:Int) - 97 + 10) = (n:Int) - 87:=by rw [IntKind.wrap_i64];omega
  clear h3
  go_enter Tryz.func242,Tryz.ntmps242
  go_wp2_with fail
  refine (h1 _).mono ?_
  clear h1
  rintro e w1 ⟨rfl,rfl⟩
  go_wp2_with fail
  refine (h2 _).mono ?_
  clear h2
  rintro e w1 ⟨rfl,rfl⟩
  go_wp2
  go_ret2
  exact ⟨rfl,rfl⟩
 rw [if_neg g2]
 rw [show decide ((97:Int) ≤ n ∧ (n:Int) ≤ 102) = false from decide_eq_false (by omega)] at h2
 by_cases g3:65 ≤ n ∧ n ≤ 70
 ·rw [if_pos g3]
  rw [show decide ((65:Int) ≤ n ∧ (n:Int) ≤ 70) = true from decide_eq_true (by omega)] at h3
  have e1:IntKind.u8.wrap ((n:Int) - 65) = (n:Int) - 65:=by rw [IntKind.wrap_u8];omega
  have e2:IntKind.i64.wrap ((n:Int) - 65) = (n:Int) - 65:=by rw [IntKind.wrap_i64];omega
  have e3:IntKind.i64.wrap ((n:Int) - 65 + 10) = (n:Int) - 55:=by rw [IntKind.wrap_i64];omega
  go_enter Tryz.func242,Tryz.ntmps242
  go_wp2_with fail
  refine (h1 _).mono ?_
  clear h1
  rintro e w1 ⟨rfl,rfl⟩
  go_wp2_with fail
  refine (h2 _).mono ?_
  clear h2
  rintro e w1 ⟨rfl,rfl⟩
  go_wp2_with fail
  refine (h3 _).mono ?_
  clear h3
  rintro e w1 ⟨rfl,rfl⟩
  go_wp2
  go_ret2
  exact ⟨rfl,rfl⟩
 rw [if_neg g3]
 rw [show decide ((65:Int) ≤ n ∧ (n:Int) ≤ 70) = false from decide_eq_false (by omega)] at h3
 go_enter Tryz.func242,Tryz.ntmps242
 go_wp2_with fail
 refine (h1 _).mono ?_
 clear h1
 rintro e w1 ⟨rfl,rfl⟩
 go_wp2_with fail
 refine (h2 _).mono ?_
 clear h2
 rintro e w1 ⟨rfl,rfl⟩
 go_wp2_with fail
 refine (h3 _).mono ?_
 clear h3
 rintro e w1 ⟨rfl,rfl⟩
 go_wp2
 go_ret2
 exact ⟨rfl,rfl⟩
def ret (v:Vv):Ending:=.returned (.tuple #[.agg #[.int .i64 v.1,.int .i64 v.2.1],.bool v.2.2])
theorem zero_new (w:World):Below w.heap.size w (w.alloc (.cells #[.int .i64 0,.int .i64 0] 51)):=(Below.refl _ w).alloc (Nat.le_refl _) _
set_option maxHeartbeats 1000000 in
theorem length_any (p k n:Int) (w:World):Calls Tryz.prog 203 #[.int .i64 p,.int .i64 k,.int .i64 n] w fun e w' => e = ret (lengthV p k n) ∧ Below w.heap.size w w':=by
 have b0:=zero_new w
 have k0:=Blk.new w 51 [.int .i64 0,.int .i64 0]
 obtain ⟨V,hV⟩:∃ V,lengthV p k n = V:=⟨_,rfl⟩
 rw [hV]
 unfold lengthV at hV
 go_enter Tryz.func203,Tryz.ntmps203
 go_upto_region 1 with fail
 replace k0:Blk (w.alloc (.cells #[.int .i64 0,.int .i64 0] 51)) w.heap.size _ _:=k0
 generalize w.alloc (.cells #[.int .i64 0,.int .i64 0] 51) = W at *
 obtain ⟨⟨c0,c1⟩,f0,f1⟩:=blk2 k0
 have hB:=k0.lt
 have HF:Hid (∀ a b,Below w.heap.size w (set2 W w.heap.size a b)):=fun a b => below_grew b0 (grown_set2 W w.heap.size a b) (by omega) (Nat.le_refl _)
 by_cases h5:p = 5
 ·subst h5
  obtain rfl:(k,n,true) = V:=by rw [← hV,if_pos (.inl rfl)]
  clear hV
  go_wp2
  refine bodyPost_ret (results_struct_tmp rfl _ _ w.heap.size _ rfl (load_val (blk_set2 k0 _ _))) rfl ?_
  exact ⟨rfl,HF _ _⟩
 have e5:(p == 5) = false:=by simpa using h5
 by_cases h0:0 ≤ n
 ·by_cases h1:p = 1
  ·subst h1
   obtain rfl:(k,n,true) = V:=by rw [← hV,if_pos (.inr ⟨h0,.inl rfl⟩)]
   clear hV
   go_wp2
   refine bodyPost_ret (results_struct_tmp rfl _ _ w.heap.size _ rfl (load_val (blk_set2 k0 _ _))) rfl ?_
   exact ⟨rfl,HF _ _⟩
  have e1:(p == 1) = false:=by simpa using h1
  by_cases h4:p = 4
  ·subst h4
   obtain rfl:(k,n,true) = V:=by rw [← hV,if_pos (.inr ⟨h0,.inr rfl⟩)]
   clear hV
   go_wp2
   refine bodyPost_ret (results_struct_tmp rfl _ _ w.heap.size _ rfl (load_val (blk_set2 k0 _ _))) rfl ?_
   exact ⟨rfl,HF _ _⟩
  have e4:(p == 4) = false:=by simpa using h4
  obtain rfl:no = V:=by rw [← hV,if_neg (by omega)]
  clear hV h5 h1 h4
  go_wp2
  refine bodyPost_ret (results_struct_tmp rfl _ _ w.heap.size _ rfl (load_val (blk_set2 k0 _ _))) rfl ?_
  exact ⟨rfl,HF _ _⟩
 ·obtain rfl:no = V:=by rw [← hV,if_neg (by omega)]
  clear hV h5
  go_wp2
  refine bodyPost_ret (results_struct_tmp rfl _ _ w.heap.size _ rfl (load_val (blk_set2 k0 _ _))) rfl ?_
  exact ⟨rfl,HF _ _⟩
set_option maxHeartbeats 1000000 in
theorem number_any (p n:Int) (wh:Bool) (w:World):Calls Tryz.prog 204 #[.int .i64 p,.int .i64 n,.bool wh] w fun e w' => e = ret (numberV p n wh) ∧ Below w.heap.size w w':=by
 have b0:=zero_new w
 have k0:=Blk.new w 51 [.int .i64 0,.int .i64 0]
 have hcut:=fun W => cut_any n 0 1000 W (by omega)
 rw [show (if n < 0 then 0 else if 1000 < n then 1000 else n) = cutV n from rfl] at hcut
 obtain ⟨V,hV⟩:∃ V,numberV p n wh = V:=⟨_,rfl⟩
 rw [hV]
 unfold numberV at hV
 generalize cutV n = cv at *
 go_enter Tryz.func204,Tryz.ntmps204
 go_upto_region 1 with fail
 replace k0:Blk (w.alloc (.cells #[.int .i64 0,.int .i64 0] 51)) w.heap.size _ _:=k0
 generalize w.alloc (.cells #[.int .i64 0,.int .i64 0] 51) = W at *
 obtain ⟨⟨c0,c1⟩,f0,f1⟩:=blk2 k0
 have hB:=k0.lt
 have HF:Hid (∀ a b,Below w.heap.size w (set2 W w.heap.size a b)):=fun a b => below_grew b0 (grown_set2 W w.heap.size a b) (by omega) (Nat.le_refl _)
 by_cases h6:p = 6
 ·subst h6
  obtain rfl:(5,cv,true) = V:=by rw [← hV];simp
  clear hV
  go_wp2_with fail
  refine (hcut _).mono ?_
  clear hcut
  rintro e w1 ⟨rfl,rfl⟩
  go_wp2
  refine bodyPost_ret (results_struct_tmp rfl _ _ w.heap.size _ rfl (load_val (blk_set2 k0 _ _))) rfl ?_
  exact ⟨rfl,HF _ _⟩
 clear hcut
 have e6:(p == 6) = false:=by simpa using h6
 by_cases h5:p = 5
 ·subst h5
  by_cases h0:n = 0
  ·subst h0
   obtain rfl:(2,0,true) = V:=by rw [← hV];simp
   clear hV
   go_wp2
   refine bodyPost_ret (results_struct_tmp rfl _ _ w.heap.size _ rfl (load_val (blk_set2 k0 _ _))) rfl ?_
   exact ⟨rfl,HF _ _⟩
  ·have e0:(n == 0) = false:=by simpa using h0
   obtain rfl:no = V:=by rw [← hV];simp [h0]
   clear hV h0
   go_wp2
   refine bodyPost_ret (results_struct_tmp rfl _ _ w.heap.size _ rfl (load_val (blk_set2 k0 _ _))) rfl ?_
   exact ⟨rfl,HF _ _⟩
 have e5:(p == 5) = false:=by simpa using h5
 by_cases h7:p = 7
 ·subst h7
  cases wh with
  | true =>
   obtain rfl:(5,n,true) = V:=by rw [← hV];simp
   clear hV
   go_wp2
   refine bodyPost_ret (results_struct_tmp rfl _ _ w.heap.size _ rfl (load_val (blk_set2 k0 _ _))) rfl ?_
   exact ⟨rfl,HF _ _⟩
  | false =>
   obtain rfl:no = V:=by rw [← hV];simp
   clear hV
   go_wp2
   refine bodyPost_ret (results_struct_tmp rfl _ _ w.heap.size _ rfl (load_val (blk_set2 k0 _ _))) rfl ?_
   exact ⟨rfl,HF _ _⟩
 have e7:(p == 7) = false:=by simpa using h7
 obtain rfl:no = V:=by rw [← hV];simp [h5,h6,h7]
 clear hV h5 h6 h7
 go_wp2
 refine bodyPost_ret (results_struct_tmp rfl _ _ w.heap.size _ rfl (load_val (blk_set2 k0 _ _))) rfl ?_
 exact ⟨rfl,HF _ _⟩
end Go.Proofs.YtagbjmocjaaioaaGreatDoor.Vl

/- package value: word, over the table that its text lays; color, at every string. -/
set_option maxRecDepth 100000
namespace Go.Proofs.YtagbjmocjaaioaaGreatDoor.Vl
open Go Go.RowKit
def wordCells (r:Int × List UInt8 × Int × Int):List Value:=[.int .i64 r.1,.string ⟨r.2.1.toArray⟩,.int .i64 r.2.2.1,.int .i64 r.2.2.2]
def wordRow:Array Value:=(wordsT.flatMap wordCells).toArray
def WordsAt (n₀:Nat) (W:World):Prop:=3 < n₀ ∧ ∃ t fr,W.heap[(3:Nat)]? = some (.cells wordRow t fr)
theorem WordsAt.below {n₀:Nat} {X Y:World} (h:WordsAt n₀ X) (hb:Below n₀ X Y):WordsAt n₀ Y:=⟨h.1,h.2.elim fun t h2 => h2.elim fun fr h3 => ⟨t,fr,(hb.block _ h.1).trans h3⟩⟩
theorem WordsAt.mono {n₀ n₁:Nat} {X:World} (h:WordsAt n₀ X) (hn:n₀ ≤ n₁):WordsAt n₁ X:=⟨Nat.lt_of_lt_of_le h.1 hn,h.2⟩
theorem WordsAt.next {X Y:World} (h:WordsAt X.heap.size X) (hb:Below X.heap.size X Y):WordsAt Y.heap.size Y:=(h.below hb).mono hb.size
theorem infoWords:(Tryz.prog.info? 273).map (·.size) = some 64:=by kernel_rfl
theorem word_at (w:World):∀ (k:Nat) (r:Int × List UInt8 × Int × Int),wordsT[k]? = some r →
  (Instr.index 273 (.agg wordRow) (.int .i64 k)).run Tryz.prog w = .ok (.agg (wordCells r).toArray) w
 | 0,_,h => by cases h;kernel_rfl
 | 1,_,h => by cases h;kernel_rfl
 | 2,_,h => by cases h;kernel_rfl
 | 3,_,h => by cases h;kernel_rfl
 | 4,_,h => by cases h;kernel_rfl
 | 5,_,h => by cases h;kernel_rfl
 | 6,_,h => by cases h;kernel_rfl
 | 7,_,h => by cases h;kernel_rfl
 | 8,_,h => by cases h;kernel_rfl
 | 9,_,h => by cases h;kernel_rfl
 | 10,_,h => by cases h;kernel_rfl
 | 11,_,h => by cases h;kernel_rfl
 | 12,_,h => by cases h;kernel_rfl
 | 13,_,h => by cases h;kernel_rfl
 | 14,_,h => by cases h;kernel_rfl
 | 15,_,h => by cases h;kernel_rfl
 | k + 16,_,h => by simp [wordsT] at h
theorem wordL_step {k:Nat} {r:Int × List UInt8 × Int × Int} {p:Int} {s:List UInt8} (hr:wordsT[k]? = some r):wordL (wordsT.drop k) p s = if hits r p s then (r.2.2.1,r.2.2.2,true) else wordL (wordsT.drop (k + 1)) p s:=by
 obtain ⟨hk,rfl⟩:=List.getElem?_eq_some_iff.1 hr
 rw [List.drop_eq_getElem_cons hk]
 rfl
theorem beq_false {a b:ByteArray} (h:¬ a = b):(a.toList == b.toList) = false:=by
 rw [ByteArray.toList_eq,ByteArray.toList_eq,beq_eq_false_iff_ne]
 intro e
 exact h (ByteArray.ext (Array.toList_inj.1 e))
set_option maxHeartbeats 4000000 in
theorem word_any (p:Int) (s:ByteArray) (w:World) (hS:WordsAt w.heap.size w) :
  Calls Tryz.prog 201 #[.int .i64 p,.string s] w fun e w' => e = ret (wordV p s.data.toList) ∧ Below w.heap.size w w':=by
 obtain ⟨hlt,t0,fr0,hrow⟩:=hS
 have b0:=zero_new w
 have k0:=Blk.new w 51 [.int .i64 0,.int .i64 0]
 replace hrow:=(b0.block _ hlt).trans hrow
 obtain ⟨V,hV⟩:∃ V,wordV p s.data.toList = V:=⟨_,rfl⟩
 rw [hV]
 unfold wordV at hV
 go_enter Tryz.func201,Tryz.ntmps201
 go_upto_region 1 with fail
 replace k0:Blk (w.alloc (.cells #[.int .i64 0,.int .i64 0] 51)) w.heap.size _ _:=k0
 generalize w.alloc (.cells #[.int .i64 0,.int .i64 0] 51) = W at *
 have hB:=k0.lt
 refine wp_region_lit ?_
 refine wpList_load_row rfl 273 _ rfl 3 rfl t0 wordRow fr0 _ hrow Tryz.underlying273 rfl infoWords ?_
 clear hrow
 have hat:=word_at
 generalize Value.agg wordRow = row at *
 have HA:Hid (∀ (w:World) (k:Nat) (r:Int × List UInt8 × Int × Int),wordsT[k]? = some r → (Instr.index 273 row (.int .i64 k)).run Tryz.prog w = .ok (.agg (wordCells r).toArray) w):=hat
 clear hat
 go_wp2
 go_loopw [9] (fun i wr => ∃ k:Nat,i = .int .i64 k ∧ k ≤ 16 ∧ Hid (wordL (wordsT.drop k) p s.data.toList = V) ∧ Below w.heap.size w wr ∧ Blk wr w.heap.size 51 [.int .i64 0,.int .i64 0]) (fun i _ => 16 - (intOf i).toNat)
 case atStart => exact ⟨0,rfl,by omega,hV,b0,k0⟩
 case round =>
  obtain ⟨k,rfl,hk,HV,hb,hk0⟩:=hrel
  clear hV k0
  have hsz:=hb.size
  by_cases hlt:k < 16
  ·obtain ⟨r,hr⟩:∃ r,wordsT[k]? = some r:=⟨_,List.getElem?_eq_getElem (show k < wordsT.length from hlt)⟩
   have hi:=(show ∀ (w:World) (k:Nat) (r:Int × List UInt8 × Int × Int),wordsT[k]? = some r → (Instr.index 273 row (.int .i64 k)).run Tryz.prog w = .ok (.agg (wordCells r).toArray) w from HA) wr k r hr
   have hstep:=wordL_step (p:=p) (s:=s.data.toList) hr
   rw [show wordL (wordsT.drop k) p s.data.toList = V from HV] at hstep
   clear HA HV hr
   obtain ⟨q,x,kd,n⟩:=r
   simp only [wordCells] at hi
   have hxe:(⟨x.toArray⟩:ByteArray) = s ↔ x = s.data.toList:=⟨fun e => by rw [← e],fun e => by rw [e]⟩
   generalize (⟨x.toArray⟩:ByteArray) = xs at hi hxe
   have bX:Below wr.heap.size wr (wr.alloc (.cells #[.int .i64 q,.string xs,.int .i64 kd,.int .i64 n] 272)):=(Below.refl _ _).alloc (Nat.le_refl _) _
   have hB':=hk0.lt
   have kX:=hk0.below bX hB'
   obtain ⟨⟨c0,c1⟩,f0,f1⟩:=blk2 hk0
   have HF:Hid (∀ a b o,Below w.heap.size w ((set2 wr w.heap.size a b).alloc o)):=fun a b o => (below_grew hb (grown_set2 _ w.heap.size a b) (by omega) (Nat.le_refl _)).alloc (Nat.le_trans hsz (grown_set2 wr w.heap.size a b).size) _
   have hki:(k:Int) < 16:=by omega
   have HN:hits (q,x,kd,n) p s.data.toList = false → Hid (wordL (wordsT.drop (k + 1)) p s.data.toList = V):=fun e => by
    rw [hstep,e]
    rfl
   have HY:hits (q,x,kd,n) p s.data.toList = true → (kd,n,true) = V:=fun e => by
    rw [hstep,e]
    rfl
   clear hstep
   have bwX:=below_next hb bX
   by_cases hx:xs = s
   ·subst hx
    have hx':=hxe.1 rfl
    by_cases hq:q = p
    ·subst hq
     obtain rfl:=HY (by simp [hits,hx'])
     clear HN HY hxe hx'
     go_wp2
     refine bodyPost_ret (results_struct_tmp rfl _ _ w.heap.size _ rfl (load_val ((blk_set2 hk0 _ _).kept (World.grownBy_alloc _ _ none) (by simp)))) rfl ?_
     exact ⟨rfl,HF _ _ _⟩
    ·have eq:(q == p) = false:=by simpa using hq
     by_cases hq1:q = -1
     ·subst hq1
      obtain rfl:=HY (by simp [hits,hx'])
      clear HN HY hxe hx' hq
      go_wp2
      refine bodyPost_ret (results_struct_tmp rfl _ _ w.heap.size _ rfl (load_val ((blk_set2 hk0 _ _).kept (World.grownBy_alloc _ _ none) (by simp)))) rfl ?_
      exact ⟨rfl,HF _ _ _⟩
     ·have eq1:(q == -1) = false:=by simpa using hq1
      have HN':=HN (by simp [hits,hq,hq1])
      clear HN HY hxe hx' hq hq1
      go_wp2
      exact ⟨⟨k + 1,by go_num,by omega,HN',bwX,kX⟩,by simp [intOf];omega⟩
   ·have hx':¬ x = s.data.toList:=fun e => hx (hxe.2 e)
    have HN':=HN (by simp [hits,hx'])
    clear HN HY hxe hx'
    have ex:(xs.toList == s.toList) = false:=beq_false hx
    by_cases hq:q = p
    ·subst hq
     go_wp2
     exact ⟨⟨k + 1,by go_num,by omega,HN',bwX,kX⟩,by simp [intOf];omega⟩
    ·have eq:(q == p) = false:=by simpa using hq
     by_cases hq1:q = -1
     ·subst hq1
      clear hq
      go_wp2
      exact ⟨⟨k + 1,by go_num,by omega,HN',bwX,kX⟩,by simp [intOf];omega⟩
     ·have eq1:(q == -1) = false:=by simpa using hq1
      clear hq hq1
      go_wp2
      exact ⟨⟨k + 1,by go_num,by omega,HN',bwX,kX⟩,by simp [intOf];omega⟩
  ·have hki:¬ (k:Int) < 16:=by omega
   obtain rfl:k = 16:=by omega
   obtain rfl:no = V:=HV
   obtain ⟨⟨c0,c1⟩,f0,f1⟩:=blk2 hk0
   clear HA
   go_wp2
   refine bodyPost_ret (results_struct_tmp rfl _ _ w.heap.size _ rfl (load_val (blk_set2 hk0 _ _))) rfl ?_
   exact ⟨rfl,below_grew hb (grown_set2 _ w.heap.size _ _) (by omega) (Nat.le_refl _)⟩
/-! ### the table of properties -/
def propsT:List (List UInt8 × Bool × Int):=
 [([99,111,108,111,114],true,0),([102,111,110,116,45,115,105,122,101],true,16000),([116,101,120,116,45,97,108,105,103,110],true,0),([100,105,115,112,108,97,121],false,2),
  ([119,105,100,116,104],false,-1),([109,97,114,103,105,110],false,0),([111,112,97,99,105,116,121],false,1000),([122,45,105,110,100,101,120],false,1099511627776)]
def propCells (r:List UInt8 × Bool × Int):List Value:=[.string ⟨r.1.toArray⟩,.bool r.2.1,.int .i64 r.2.2]
def propRow:Array Value:=(propsT.flatMap propCells).toArray
def PropsAt (n₀:Nat) (W:World):Prop:=0 < n₀ ∧ ∃ t fr,W.heap[(0:Nat)]? = some (.cells propRow t fr)
theorem PropsAt.below {n₀:Nat} {X Y:World} (h:PropsAt n₀ X) (hb:Below n₀ X Y):PropsAt n₀ Y:=⟨h.1,h.2.elim fun t h2 => h2.elim fun fr h3 => ⟨t,fr,(hb.block _ h.1).trans h3⟩⟩
theorem PropsAt.mono {n₀ n₁:Nat} {X:World} (h:PropsAt n₀ X) (hn:n₀ ≤ n₁):PropsAt n₁ X:=⟨Nat.lt_of_lt_of_le h.1 hn,h.2⟩
theorem PropsAt.next {X Y:World} (h:PropsAt X.heap.size X) (hb:Below X.heap.size X Y):PropsAt Y.heap.size Y:=(h.below hb).mono hb.size
theorem PropsAt.cells {n₀:Nat} {X:World} (h:PropsAt n₀ X):∀ (k:Nat) (r:List UInt8 × Bool × Int),propsT[k]? = some r →
  X.cell? ⟨0,k * 3,none⟩ = some (.string ⟨r.1.toArray⟩) ∧ X.cell? ⟨0,k * 3 + 1,none⟩ = some (.bool r.2.1) ∧ X.cell? ⟨0,k * 3 + 2,none⟩ = some (.int .i64 r.2.2):=by
 obtain ⟨_,t,fr,hr⟩:=h
 intro k r hk
 rw [cell_of_block hr,cell_of_block hr,cell_of_block hr]
 match k,hk with
 | 0,hk => cases hk;exact ⟨rfl,rfl,rfl⟩
 | 1,hk => cases hk;exact ⟨rfl,rfl,rfl⟩
 | 2,hk => cases hk;exact ⟨rfl,rfl,rfl⟩
 | 3,hk => cases hk;exact ⟨rfl,rfl,rfl⟩
 | 4,hk => cases hk;exact ⟨rfl,rfl,rfl⟩
 | 5,hk => cases hk;exact ⟨rfl,rfl,rfl⟩
 | 6,hk => cases hk;exact ⟨rfl,rfl,rfl⟩
 | 7,hk => cases hk;exact ⟨rfl,rfl,rfl⟩
 | k + 8,hk => simp [propsT] at hk
def Tabs7 (n₀:Nat) (W:World):Prop:=WordsAt n₀ W ∧ PropsAt n₀ W
theorem Tabs7.next {X Y:World} (h:Tabs7 X.heap.size X) (hb:Below X.heap.size X Y):Tabs7 Y.heap.size Y:=⟨h.1.next hb,h.2.next hb⟩
end Go.Proofs.YtagbjmocjaaioaaGreatDoor.Vl
