/- The laws' own Big: what it tells where it says no. -/
import Derived.Test.YtagbjmocjaaioaaGreatDoorDmAlive
import Derived.Test.YtagbjmocjaaioaaGreatDoorWgGr
import Derived.Test.YtagbjmocjaaioaaGreatDoorProg
import Derived.Test.YtagbjmocjaaioaaGreatDoorRows
import Derived.Test.YtagbjmocjaaioaaGreatDoorRgn
import Derived.Test.YtagbjmocjaaioaaGreatDoorMtAttr
import Derived.Test.YtagbjmocjaaioaaGreatDoorShelf
import Derived.Test.YtagbjmocjaaioaaGreatDoorMtSpec
import Derived.Test.YtagbjmocjaaioaaGreatDoorRfTree
import Derived.Test.YtagbjmocjaaioaaGreatDoorCsWrite
import Derived.Test.YtagbjmocjaaioaaGreatDoorMtNext
import Derived.Test.YtagbjmocjaaioaaGreatDoorMtSel
import Derived.Test.YtagbjmocjaaioaaGreatDoorSqSheet
import Derived.Test.YtagbjmocjaaioaaGreatDoorCpOfB
import Derived.Test.YtagbjmocjaaioaaGreatDoorRgIn
import Derived.Test.YtagbjmocjaaioaaGreatDoorBkAdd
import Derived.Deep.Strs
import Derived.Deep.Grids
import Derived.ProofKit
import Derived.OpenShut
import Derived.ShutString
import Derived.ChangeOld
import Derived.SizedLaws
import Derived.WalkKit
import Derived.Below
import Derived.Deep.QuietTactic
import Derived.BigQuiet
import Derived.Shelf.RegionOpen
import Derived.Lib.FieldsP
import Derived.Lib.DecodeN
import Derived.Laws.MakeOwn
import Derived.RangeFuncBox
set_option maxRecDepth 100000
namespace Go.Proofs.YtagbjmocjaaioaaGreatDoor.Dm
open Go Go.RowKit
def SmallN (n:Nd):Prop:=n.cls.length ≤ 8 ∧ n.ats.length ≤ 8 ∧ n.tag.size ≤ 60 ∧ n.id.size ≤ 60 ∧ (∀ s ∈ n.cls,s.size ≤ 60) ∧ ∀ a ∈ n.ats,a.1.size ≤ 60 ∧ a.2.size ≤ 100
def Bigs2 (l:List Nv) (w:World) (e:Ending) (w':World):Prop:=∃ b,e = .returned (.bool b) ∧ w' = w ∧ (b = false → (l.length ≤ 40 ∧ ∀ n ∈ l,SmallN n.nd) ∨ 4096 < l.length)
theorem Bigs.yes (l:List Nv) (w:World):Bigs2 l w (.returned (.bool true)) w:=⟨true,rfl,rfl,fun h => by cases h⟩
theorem Bigs.no {l:List Nv} (w:World) (h:(l.length ≤ 40 ∧ ∀ n ∈ l,SmallN n.nd) ∨ 4096 < l.length):Bigs2 l w (.returned (.bool false)) w:=⟨false,rfl,rfl,fun _ => h⟩
theorem mem_take_more {α:Type} {l:List α} {k:Nat} {x y:α} (h:l[k]? = some x) (hy:y ∈ l.take (k + 1)):y ∈ l.take k ∨ y = x:=by
 obtain ⟨hk,rfl⟩:=List.getElem?_eq_some_iff.1 h
 rw [List.take_succ_eq_append_getElem hk,List.mem_append,List.mem_singleton] at hy
 exact hy
theorem hid_take {α:Type} {l:List α} {k:Nat} {x:α} {P:α → Prop} (H:Hid (∀ y ∈ l.take k,P y)) (h:l[k]? = some x) (hx:P x):Hid (∀ y ∈ l.take (k + 1),P y):=fun y hy => by
 rcases mem_take_more h hy with hy | rfl
 ·exact H.out y hy
 ·exact hx
set_option maxHeartbeats 8000000 in
theorem big_small (v:Value) (l:List Nv) (w:World) (hv:NodesAt w.heap.size w v l) :
  Calls Tryz.prog 9 #[v] w (Bigs2 l w):=by
 obtain ⟨p,cap,rfl⟩:=hv.row.len
 have hsh:=hv.row.short
 go_enter Tryz.func9,Tryz.ntmps9
 go_wp2
 go_loop [3] (fun i => ∃ k:Nat,i = .int .i64 k ∧ k ≤ l.length ∧ Hid (∀ n ∈ l.take k,SmallN n.nd)) (fun i => l.length - (intOf i).toNat)
 case atStart => exact ⟨0,rfl,Nat.zero_le _,fun n hn => by simp at hn⟩
 case round =>
  obtain ⟨k,rfl,hk,HSM⟩:=hrel
  by_cases hlt:k < l.length ∧ k < 100
  ·obtain ⟨hlt,h100⟩:=hlt
   have hki:(k:Int) < (l.length:Int):=by omega
   have hkj:(k:Int) < 100:=by omega
   have hlk:l[k]? = some l[k]:=List.getElem?_eq_getElem hlt
   have hck:=hv.cls _ (List.getElem_mem hlt)
   have hak:=hv.ats _ (List.getElem_mem hlt)
   obtain ⟨bk,off,rfl,hbk,hcap,hmx,hcell⟩:=hv.row.get hlk
   have x1:=hcell 1 _ rfl
   have x2:=hcell 2 _ rfl
   have x3:=hcell 3 _ rfl
   have x4:=hcell 4 _ rfl
   unfold maxLen at hmx
   have HLK:Hid (l[k]? = some l[k]):=hlk
   clear hcell hlk hv
   generalize l[k] = n at *
   obtain ⟨⟨parent,tag,id,cls,ats⟩,cv,av⟩:=n
   simp only at x1 x2 x3 x4 hck hak
   have hcs:=hck.short
   have has:=hak.short
   obtain ⟨pc,cc,rfl⟩:=hck.len
   obtain ⟨pa,ca,rfl⟩:=hak.len
   by_cases g1:8 < cls.length
   ·have g1':(8:Int) < (cls.length:Int):=by omega
    clear hck hak
    go_wp2
    go_ret
    exact Bigs.yes _ _
   have g1':decide ((8:Int) < (cls.length:Int)) = false:=decide_eq_false (by omega)
   by_cases g2:8 < ats.length
   ·have g2':(8:Int) < (ats.length:Int):=by omega
    clear hck hak
    go_wp2
    go_ret
    exact Bigs.yes _ _
   have g2':decide ((8:Int) < (ats.length:Int)) = false:=decide_eq_false (by omega)
   by_cases g3:60 < tag.size
   ·have g3':(60:Int) < (tag.size:Int):=by omega
    clear hck hak
    go_wp2
    go_ret
    exact Bigs.yes _ _
   have g3':decide ((60:Int) < (tag.size:Int)) = false:=decide_eq_false (by omega)
   by_cases g4:60 < id.size
   ·have g4':(60:Int) < (id.size:Int):=by omega
    clear hck hak
    go_wp2
    go_ret
    exact Bigs.yes _ _
   have g4':decide ((60:Int) < (id.size:Int)) = false:=decide_eq_false (by omega)
   go_wp2
   go_loop [4] (fun i => ∃ j:Nat,i = .int .i64 j ∧ j ≤ cls.length ∧ Hid (∀ s ∈ cls.take j,s.size ≤ 60)) (fun i => cls.length - (intOf i).toNat)
   case atStart => exact ⟨0,rfl,Nat.zero_le _,fun n hn => by simp at hn⟩
   case round =>
    obtain ⟨j,rfl,hj,HCS⟩:=hrel
    by_cases hjl:j < cls.length
    ·have hji:(j:Int) < (cls.length:Int):=by omega
     obtain ⟨bc,oc,rfl,_,hcc1,hcc2,hcellc⟩:=hck.get (List.getElem?_eq_getElem hjl)
     have y0:=hcellc 0 _ rfl
     simp only [Nat.mul_one,Nat.add_zero] at y0
     unfold maxLen at hcc2
     have HCJ:Hid (cls[j]? = some cls[j]):=List.getElem?_eq_getElem hjl
     generalize cls[j] = s at *
     clear hck hak hcellc
     by_cases g5:60 < s.size
     ·have g5':(60:Int) < (s.size:Int):=by omega
      go_wp2
      go_ret
      exact Bigs.yes _ _
     ·have g5':¬ (60:Int) < (s.size:Int):=by omega
      have HCS1:=hid_take HCS HCJ.out (show s.size ≤ 60 by omega)
      clear HCS HCJ
      go_wp2
      first | exact ⟨⟨j + 1,by go_num,by omega,HCS1⟩,by simp [intOf];omega⟩ | (go_round;case rel => exact ⟨j + 1,by go_num,by omega,HCS1⟩;case measure => simp [intOf];omega)
    ·have hji:¬ (j:Int) < (cls.length:Int):=by omega
     clear hck
     have HCA:Hid (∀ s ∈ cls,s.size ≤ 60):=by
      have h:=HCS.out
      rw [List.take_of_length_le (by omega)] at h
      exact h
     clear HCS
     go_wp2
     go_loop [5] (fun i => ∃ j:Nat,i = .int .i64 j ∧ j ≤ ats.length ∧ Hid (∀ a ∈ ats.take j,a.1.size ≤ 60 ∧ a.2.size ≤ 100)) (fun i => ats.length - (intOf i).toNat)
     case atStart => exact ⟨0,rfl,Nat.zero_le _,fun n hn => by simp at hn⟩
     case round =>
      obtain ⟨j2,rfl,hj2,HAS⟩:=hrel
      by_cases hjl2:j2 < ats.length
      ·have hji2:(j2:Int) < (ats.length:Int):=by omega
       obtain ⟨bc,oc,rfl,_,hcc1,hcc2,hcellc⟩:=hak.get (List.getElem?_eq_getElem hjl2)
       have y0:=hcellc 0 _ rfl
       have y1:=hcellc 1 _ rfl
       simp only [Nat.add_zero] at y0
       unfold maxLen at hcc2
       have HAJ:Hid (ats[j2]? = some ats[j2]):=List.getElem?_eq_getElem hjl2
       generalize ats[j2] = a at *
       obtain ⟨a1,a2⟩:=a
       simp only at y0 y1
       clear hak hcellc
       by_cases g6:60 < a1.size
       ·have g6':(60:Int) < (a1.size:Int):=by omega
        go_wp2
        go_ret
        exact Bigs.yes _ _
       have g6':decide ((60:Int) < (a1.size:Int)) = false:=decide_eq_false (by omega)
       by_cases g7:100 < a2.size
       ·have g7':(100:Int) < (a2.size:Int):=by omega
        go_wp2
        go_ret
        exact Bigs.yes _ _
       have g7':decide ((100:Int) < (a2.size:Int)) = false:=decide_eq_false (by omega)
       have HAS1:=hid_take HAS HAJ.out (show a1.size ≤ 60 ∧ a2.size ≤ 100 by omega)
       clear HAS HAJ
       go_wp2
       first | exact ⟨⟨j2 + 1,by go_num,by omega,HAS1⟩,by simp [intOf];omega⟩ | (go_round;case rel => exact ⟨j2 + 1,by go_num,by omega,HAS1⟩;case measure => simp [intOf];omega)
      ·have hji2:¬ (j2:Int) < (ats.length:Int):=by omega
       clear hak
       have HSM1:=hid_take HSM HLK.out (show SmallN _ from ⟨by simp only;omega,by simp only;omega,by simp only;omega,by simp only;omega,HCA.out,by
        have h:=HAS.out
        rw [List.take_of_length_le (by omega)] at h
        exact h⟩)
       clear HSM HLK HCA HAS
       go_wp2
       first | exact ⟨⟨k + 1,by go_num,by omega,HSM1⟩,by simp [intOf];omega⟩ | (go_round;case rel => exact ⟨k + 1,by go_num,by omega,HSM1⟩;case measure => simp [intOf];omega)
  ·clear hv
   by_cases hl:k < l.length
   ·have hki:(k:Int) < (l.length:Int):=by omega
    have hkj:¬ (k:Int) < 100:=by omega
    have h40:(40:Int) < (l.length:Int):=by omega
    by_cases h41:(l.length:Int) ≤ 4096
    ·go_wp2
     go_ret
     exact Bigs.yes _ _
    ·have h41':decide ((l.length:Int) ≤ 4096) = false:=decide_eq_false h41
     by_cases h42:(4100:Int) < (l.length:Int)
     ·go_wp2
      go_ret
      exact Bigs.yes _ _
     ·have h42':decide ((4100:Int) < (l.length:Int)) = false:=decide_eq_false h42
      go_wp2
      go_ret
      exact Bigs.no _ (.inr (by omega))
   ·have hki:¬ (k:Int) < (l.length:Int):=by omega
    have HALL:Hid (∀ n ∈ l,SmallN n.nd):=by
     have h:=HSM.out
     rw [List.take_of_length_le (by omega)] at h
     exact h
    clear HSM
    by_cases h40:(40:Int) < (l.length:Int)
    ·by_cases h41:(l.length:Int) ≤ 4096
     ·go_wp2
      go_ret
      exact Bigs.yes _ _
     ·have h41':decide ((l.length:Int) ≤ 4096) = false:=decide_eq_false h41
      by_cases h42:(4100:Int) < (l.length:Int)
      ·go_wp2
       go_ret
       exact Bigs.yes _ _
      ·have h42':decide ((4100:Int) < (l.length:Int)) = false:=decide_eq_false h42
       go_wp2
       go_ret
       exact Bigs.no _ (.inr (by omega))
    ·have h40':decide ((40:Int) < (l.length:Int)) = false:=decide_eq_false h40
     by_cases h42:(4100:Int) < (l.length:Int)
     ·omega
     ·have h42':decide ((4100:Int) < (l.length:Int)) = false:=decide_eq_false h42
      go_wp2
      go_ret
      exact Bigs.no _ (.inl ⟨by omega,HALL.out⟩)
end Go.Proofs.YtagbjmocjaaioaaGreatDoor.Dm

/- Selectors and rules that came in as arguments: what the walk is told of them. -/
set_option maxRecDepth 100000
namespace Go.Proofs.YtagbjmocjaaioaaGreatDoor.Wg
open Go.Proofs.YtagbjmocjaaioaaGreatDoor.Tre
open Go Go.RowKit Go.ChangeShapes Go.WideShapes Go.ChangeAt Sl
theorem cells_str:Tryz.prog.cellsOf 9 = 1:=by kernel_rfl
end Go.Proofs.YtagbjmocjaaioaaGreatDoor.Wg
namespace Go.Proofs.YtagbjmocjaaioaaGreatDoor
open Go.Proofs.YtagbjmocjaaioaaGreatDoor.Tre
open Go Go.RowKit Go.ChangeShapes Go.WideShapes Go.ChangeAt Sl Wg
end Go.Proofs.YtagbjmocjaaioaaGreatDoor

/- The document's own matching (tapestrierref9): texts (blank, begins, ends, in). -/
namespace Go.Proofs.YtagbjmocjaaioaaGreatDoor.Rf
open Go Go.RowKit
/-! ### plain facts -/
def bts (s:ByteArray):List UInt8:=s.data.toList
def infixV (t:List UInt8):List UInt8 → Bool
 | [] => t.isPrefixOf []
 | c :: l => t.isPrefixOf (c :: l) || infixV t l
def white (c:UInt8):Bool:=c == 9 || c == 10 || c == 12 || c == 13 || c == 32
end Go.Proofs.YtagbjmocjaaioaaGreatDoor.Rf

/- The document's own has (tapestrierref9), and small facts on texts (a seat without buckets). -/
namespace Go.Proofs.YtagbjmocjaaioaaGreatDoor.Bk
open Go.Proofs.YtagbjmocjaaioaaGreatDoor.Tre
open Go Go.RowKit Sl Wg
theorem bytes_ne {x:ByteArray} (ht:x ≠ ⟨#[]⟩):(x.toList == []) = false:=by
 rw [ByteArray.toList_eq,beq_eq_false_iff_ne]
 intro e
 exact ht (by
  cases h:x with
  | mk d =>
   rw [h] at e
   simp only [ByteArray.mk.injEq]
   exact Array.toList_inj.1 e)
theorem eqlEmpty (s:ByteArray):s.toList.isEmpty = decide (s = ⟨#[]⟩):=by
 by_cases h:s = ⟨#[]⟩
 ·rw [h,ByteArray.toList_eq];rfl
 ·rw [decide_eq_false h]
  have:=bytes_ne h
  cases e:s.toList with
  | nil => rw [e] at this;cases this
  | cons a l => rfl
end Go.Proofs.YtagbjmocjaaioaaGreatDoor.Bk

/- The document's own matching (tapestrierref9): the words of a text. -/
namespace Go.Proofs.YtagbjmocjaaioaaGreatDoor.Rf
open Go Go.RowKit Go.Shelf Sl Wg Bk
/-! ### plain facts -/
def wordsV:List UInt8 → List UInt8 → List (List UInt8)
 | acc,[] => if acc = [] then [] else [acc]
 | acc,c :: l => if white c then (if acc = [] then wordsV [] l else acc :: wordsV [] l) else wordsV (acc ++ [c]) l
end Go.Proofs.YtagbjmocjaaioaaGreatDoor.Rf

/- The document's own matching (tapestrierref9): attributes. -/
namespace Go.Proofs.YtagbjmocjaaioaaGreatDoor.Rf
open Go Go.RowKit Go.Shelf Sl Wg Bk
def dashV (s t:List UInt8):Bool:=decide (s = t) || (t ++ [45]).isPrefixOf s
def textV (s:ByteArray) (op:Int) (t:ByteArray):Bool:=
 if op = 0 then true else if op = 1 then decide (s = t)
 else if op = 2 then (wordsV [] (bts s)).contains (bts t)
 else if op = 3 then dashV (bts s) (bts t)
 else if op = 4 then decide (bts t ≠ []) && (bts t).isPrefixOf (bts s)
 else if op = 5 then decide (bts t ≠ []) && (bts t).isSuffixOf (bts s)
 else if op = 6 then decide (bts t ≠ []) && infixV (bts t) (bts s)
 else false
def attrV (l:List (ByteArray × ByteArray)) (nm:ByteArray) (op:Int) (t:ByteArray):Bool:=match l.find? (fun p => decide (p.1 = nm)) with
 | some p => textV p.2 op t
 | none => false
end Go.Proofs.YtagbjmocjaaioaaGreatDoor.Rf

/- Attributes asked of a node that has none. -/
set_option maxRecDepth 100000
namespace Go.Proofs.YtagbjmocjaaioaaGreatDoor.Mt
open Go.Proofs.YtagbjmocjaaioaaGreatDoor.Tre
open Go Go.RowKit Go.Shelf Dm
set_option maxHeartbeats 4000000 in
theorem hasAttr0_any (n:Nd) (cv av:Value) (W:World) (hno:n.ats = []) (hcv:StrsAt W.heap.size W cv n.cls) (hav:PairsAt W.heap.size W av n.ats) (a:Tre.At) :
  Calls Tryz.prog 316 #[ndVal n cv av,.agg #[.string a.name,.int .i64 a.op,.string a.text]] W fun r W' => r = .returned (.bool (attrV n a)) ∧ Below W.heap.size W W':=by
 obtain ⟨pn,cn,rfl⟩:=hcv.len
 obtain ⟨pa,ca,rfl⟩:=hav.len
 obtain ⟨w2,hw2⟩:∃ w2,(W.alloc (.cells #[.int .i64 n.parent,.string n.tag,.string n.id,.slice pn n.cls.length cn,.slice pa n.ats.length ca] 65)).alloc (.cells #[.string a.name,.int .i64 a.op,.string a.text] 231) = w2:=⟨_,rfl⟩
 have b2:Below W.heap.size W w2:=by rw [← hw2];exact ((Below.refl _ W).alloc (Nat.le_refl _) _).alloc (by simp) _
 have kn:Blk w2 W.heap.size 65 [.int .i64 n.parent,.string n.tag,.string n.id,.slice pn n.cls.length cn,.slice pa n.ats.length ca]:=by
  rw [← hw2]
  exact (Blk.new W 65 _).next ((Below.refl _ _).alloc (Nat.le_refl _) _)
 have kc:Blk w2 (W.heap.size + 1) 231 (atCells a):=by
  rw [← hw2]
  have:=Blk.new (W.alloc (.cells #[.int .i64 n.parent,.string n.tag,.string n.id,.slice pn n.cls.length cn,.slice pa n.ats.length ca] 65)) 231 (atCells a)
  rwa [World.size_alloc] at this
 obtain ⟨⟨n0,n1,n2,n3,n4⟩,_⟩:=blk5 kn
 have hi:=indexPair_any (.slice pa n.ats.length ca) n.ats a w2 (hav.next b2) (W.heap.size + 1) kc
 obtain ⟨V,hV⟩:∃ V,attrV n a = V:=⟨_,rfl⟩
 rw [hV]
 have HVV:Hid (attrV n a = V):=hV
 have KN:Hid (Blk w2 W.heap.size 65 [.int .i64 n.parent,.string n.tag,.string n.id,.slice pn n.cls.length cn,.slice pa n.ats.length ca]):=kn
 have KC:Hid (Blk w2 (W.heap.size + 1) 231 (atCells a)):=kc
 have HNO:Hid (n.ats = []):=hno
 unfold ndVal
 clear hV kn kc hav hcv hno n0 n1 n2 n3
 go_enter Tryz.func316,Tryz.ntmps316
 go_wp2_with fail
 refine hi.mono ?_
 clear hi n4 hw2
 rintro r X ⟨hk,bX⟩
 have bWX:=below_next b2 bX
 obtain ⟨⟨n0,n1,n2,n3,n4⟩,_⟩:=blk5 (KN.out.next bX)
 rcases hk with ⟨i,p,rfl,hp,hf⟩ | ⟨rfl,hf⟩
 ·rw [HNO.out] at hp
  simp at hp
 ·obtain rfl:V = false:=by rw [← show attrV n a = V from HVV.out];unfold attrV;rw [hf]
  clear hf HVV
  go_upto_region 2 with fail
  go_quiet (fail)
  go_wp2
  go_ret
  exact ⟨rfl,below_drewN' bWX _⟩
theorem attrs_none {w:World} {es:List El} (hs:∀ e ∈ es,e.nd.ats = []):∀ a,AtOk a → AttrK w es a:=fun a _ n cv av W hq _ _ h1 h2 => by
 obtain ⟨q,hq,rfl⟩:=hq
 exact hasAttr0_any q.nd cv av W (hs q hq) h1 h2 a
end Go.Proofs.YtagbjmocjaaioaaGreatDoor.Mt

/- package match: conditions of attributes. -/
namespace Go.Proofs.YtagbjmocjaaioaaGreatDoor.Mt
open Go.Proofs.YtagbjmocjaaioaaGreatDoor.Tre
open Go Go.RowKit Go.Shelf Dm
/-! ### plain facts -/
/-! ### white -/
def ML (W:World):Prop:=∃ m:Int,W.cell? ⟨6,0,none⟩ = some (.int .i64 m)
theorem ML.next {W X:World} (h:ML W) (hb:Below W.heap.size W X):ML X:=by
 obtain ⟨m,hm⟩:=h
 exact ⟨m,(hb.cell (p:=⟨6,0,none⟩) (World.block_lt_of_cell? W ⟨6,0,none⟩ hm)).trans hm⟩
/-! ### isText -/
/-! ### hasAttr -/
def ShortN (n:Nd):Prop:=∀ p ∈ n.ats,p.2.size < 4294967281
end Go.Proofs.YtagbjmocjaaioaaGreatDoor.Mt

/- The document's own matching (tapestrierref9): the parts of a selector, with what is known kept: front, hangs. -/
namespace Go.Proofs.YtagbjmocjaaioaaGreatDoor.Rf
open Go Go.RowKit Go.Shelf Sl Wg Bk Go.Proofs.YtagbjmocjaaioaaGreatDoor.Tre
open Dm (El parentV placeV childrenV nodeV beforeV)
/-! ### frames -/
structure But (K:Nat) (w w':World):Prop where
 os:w'.os = w.os
 tape:w'.tape = w.tape
 output:w'.output = w.output
 size:w.heap.size ≤ w'.heap.size
 block:∀ i,i < w.heap.size → i ≠ K → w'.heap[i]? = w.heap[i]?
theorem But.below {K n:Nat} {a b:World} (h:But K a b) (hn:n ≤ K) (hs:n ≤ a.heap.size):Below n a b:=⟨h.os,h.tape,h.output,h.size,fun i hi => h.block i (by omega) (by omega)⟩
/-! ### what is known -/
def Kn (X:World) (K m N:Nat) (f:Nat → Nat → Bool):Prop:=
 ∃ cs:List Int,Blk X K 3 (cs.map (Value.int .i64)) ∧ cs.length = N * m ∧ ∀ k e,k < m → e < N → cs[e * m + k]? = some 0 ∨ cs[e * m + k]? = some (if f k e then 1 else 2)
theorem Kn.get {X:World} {K m N:Nat} {f:Nat → Nat → Bool} (h:Kn X K m N f) {k e:Nat} (hk:k < m) (he:e < N) :
  ∃ z:Int,X.cell? ⟨K,e * m + k,none⟩ = some (.int .i64 z) ∧ X.frozen? ⟨K,e * m + k,none⟩ = false ∧ (z = 0 ∨ z = if f k e then 1 else 2):=by
 obtain ⟨cs,h1,h2,h3⟩:=h
 have hb:X.heap[K]? = some (.cells (cs.map (Value.int .i64)).toArray 3 (0,0)):=h1
 have hfz:X.frozen? ⟨K,e * m + k,none⟩ = false:=by simp [World.frozen?,hb]
 rcases h3 k e hk he with h | h
 ·exact ⟨0,by simp [World.cell?,hb,h],hfz,.inl rfl⟩
 ·exact ⟨_,by simp [World.cell?,hb,h],hfz,.inr rfl⟩
/-! ### front, hangs -/
end Go.Proofs.YtagbjmocjaaioaaGreatDoor.Rf

/- The document's own matching (tapestrierref9): selectors and lists of them, at every tree and element. -/
namespace Go.Proofs.YtagbjmocjaaioaaGreatDoor.Rf
open Go Go.RowKit Go.Shelf Sl Wg Bk Go.Proofs.YtagbjmocjaaioaaGreatDoor.Tre
open Dm (El parentV placeV childrenV nodeV beforeV TreeOk)
/-! ### numbers that are made -/
/-! ### selector, any -/
def selectorV (es:List El) (e:Int) (s:Sel):Bool:=decide (0 ≤ e ∧ e < (es.length:Int)) && (!deepS 8 s && Mt.selV (Mt.anyV es 8) es s e.toNat)
end Go.Proofs.YtagbjmocjaaioaaGreatDoor.Rf

/- The document's New, and what its tree is to matching. -/
namespace Go.Proofs.YtagbjmocjaaioaaGreatDoor.Rf
open Go Go.RowKit Sl Wg Go.Proofs.YtagbjmocjaaioaaGreatDoor.Tre
open Dm (El Nd Nv lowN SmallN newV newF addV growV zeroEl RTr Tells)
theorem grow_nds {es:List El} {p c:Nat} {q:El} (hq:es[p]? = some q) {x:El} (hx:x ∈ growV es p q c):∃ y ∈ es,x.nd = y.nd:=by
 unfold growV at hx
 rcases List.mem_or_eq_of_mem_set hx with h | rfl
 ·exact ⟨x,h,rfl⟩
 ·exact ⟨q,List.mem_of_getElem? hq,rfl⟩
theorem add_nds {es es':List El} {n:Nd} (h:addV es n = .ok es') {x:El} (hx:x ∈ es'):(∃ y ∈ es,x.nd = y.nd) ∨ x.nd = lowN n:=by
 unfold Dm.addV at h
 split at h
 ·split at h
  ·cases h
   rw [List.mem_singleton] at hx
   subst hx
   exact .inr rfl
  ·cases h
 ·split at h
  ·rename_i hp
   split at h
   ·cases h
   ·cases h
    rcases List.mem_append.1 hx with hx | hx
    ·obtain ⟨q,hq⟩:∃ q,es[n.parent.toNat]? = some q:=⟨_,List.getElem?_eq_getElem (by omega)⟩
     have hg:es.getD n.parent.toNat zeroEl = q:=by simp [List.getD,hq]
     rw [hg] at hx
     exact .inl (grow_nds hq hx)
    ·rw [List.mem_singleton] at hx
     subst hx
     exact .inr rfl
  ·cases h
theorem newF_nds:∀ (l:List Nd) (es es':List El),newF es l = .ok es' → ∀ x ∈ es',(∃ y ∈ es,x.nd = y.nd) ∨ ∃ n ∈ l,x.nd = lowN n
 | [],es,es',h,x,hx => by cases h;exact .inl ⟨x,hx,rfl⟩
 | n :: l,es,es',h,x,hx => by
  unfold newF at h
  cases ha:addV es n with
  | error e => rw [ha] at h;cases h
  | ok e2 =>
   rw [ha] at h
   rcases newF_nds l e2 es' h x hx with ⟨y,hy,e⟩ | ⟨m,hm,e⟩
   ·rcases add_nds ha hy with ⟨z,hz,e'⟩ | e'
    ·exact .inl ⟨z,hz,e.trans e'⟩
    ·exact .inr ⟨n,List.mem_cons_self ..,e.trans e'⟩
   ·exact .inr ⟨m,List.mem_cons_of_mem _ hm,e⟩
theorem newV_nds {l:List Nd} {es:List El} (h:newV l = .ok es):∀ x ∈ es,∃ n ∈ l,x.nd = lowN n:=fun x hx => by
 unfold newV at h
 split at h
 ·cases h
 ·rcases newF_nds l [] es h x hx with ⟨y,hy,_⟩ | h
  ·cases hy
  ·exact h
end Go.Proofs.YtagbjmocjaaioaaGreatDoor.Rf

/- The laws of stage 10: their own alive and trees. -/
namespace Go.Proofs.YtagbjmocjaaioaaGreatDoor.Mt
open Go.Proofs.YtagbjmocjaaioaaGreatDoor.Tre
open Go Go.RowKit Dm
theorem low_ok {n:Nd} (h:NdOk n):NdOk (lowN n):=by
 refine ⟨by show (lowS n.tag).size ≤ _;rw [lowS_size];exact h.tag,h.id,h.cls,fun a ha => ?_,h.ncls,by show (n.ats.map lowA).length * 32 ≤ _;rw [List.length_map];exact h.nats⟩
 obtain ⟨b,hb,rfl⟩:=List.mem_map.1 (show a ∈ n.ats.map lowA from ha)
 have:=h.ats b hb
 exact ⟨by show (lowS b.1).size ≤ _;rw [lowS_size];exact this.1,this.2⟩
theorem addV_nds {es es':List El} {n:Nd} (h:addV es n = .ok es') (he:∀ e ∈ es,NdOk e.nd) (hn:NdOk n):∀ e ∈ es',NdOk e.nd:=by
 unfold addV at h
 split at h
 ·split at h
  ·cases h
   intro e hm
   obtain rfl:=List.mem_singleton.1 hm
   exact low_ok hn
  ·cases h
 ·split at h
  ·rename_i hp
   split at h
   ·cases h
   ·cases h
    intro e hm
    rcases List.mem_append.1 hm with hm | hm
    ·unfold growV at hm
     rcases List.mem_or_eq_of_mem_set hm with hm | rfl
     ·exact he e hm
     ·show NdOk (es.getD n.parent.toNat zeroEl).nd
      have hlt:n.parent.toNat < es.length:=by omega
      rw [show es.getD n.parent.toNat zeroEl = es[n.parent.toNat] by simp [List.getD,hlt]]
      exact he _ (List.getElem_mem hlt)
    ·obtain rfl:=List.mem_singleton.1 hm
     exact low_ok hn
  ·cases h
theorem newF_nds:∀ (l:List Nd) (es es':List El),newF es l = .ok es' → (∀ e ∈ es,NdOk e.nd) → (∀ n ∈ l,NdOk n) → ∀ e ∈ es',NdOk e.nd
 | [],es,es',h,he,_ => by cases h;exact he
 | n :: l,es,es',h,he,hl => by
  unfold newF at h
  cases ha:addV es n with
  | error x => rw [ha] at h;cases h
  | ok e2 =>
   rw [ha] at h
   exact newF_nds l e2 es' h (addV_nds ha he (hl n (List.mem_cons_self ..))) (fun m hm => hl m (List.mem_cons_of_mem _ hm))
theorem newV_nds {l:List Nd} {es:List El} (h:newV l = .ok es) (hl:∀ n ∈ l,NdOk n):∀ e ∈ es,NdOk e.nd:=by
 unfold newV at h
 split at h
 ·cases h
 ·exact newF_nds l [] es h (fun _ h => by cases h) hl
structure Good (W:World) (tb:Nat) (es:List El):Prop where
 tr:∃ b g cap qs,Tr b W tb g cap qs ∧ qs.map Em.e = es
 ok:TreeOk es
 len:es.length ≤ 4096
 nds:∀ e ∈ es,NdOk e.nd
 ats:∀ a,AtOk a → AttrK W es a
theorem Good.sel {W:World} {tb:Nat} {es:List El} (h:Good W tb es) (e:Int) (d:Nat) (v:Value) (s:Sel) (hP:PartsAt d W.heap.size W v s) :
  Calls Tryz.prog 137 #[.pointer (some ⟨tb,0,none⟩),.int .i64 e,.agg #[v]] W fun r w' => r = .returned (.bool (selectorV es e s)) ∧ Below W.heap.size W w':=by
 obtain ⟨⟨b,g,cap,qs,hT,rfl⟩,h1,h2,h3,h4⟩:=h
 exact selector_any qs W h4 b tb g cap hT h1 (by simpa using h2) (fun q hq => h3 _ (List.mem_map_of_mem hq)) e d v s hP
theorem short_small {n:Nd} (h:SmallN n):ShortN n:=fun p hp => by
 have:=(h.2.2.2.2.2 p hp).2
 omega
theorem short_low {n:Nd} (h:ShortN n):ShortN (lowN n):=fun p hp => by
 obtain ⟨a,ha,rfl⟩:=List.mem_map.1 (show p ∈ n.ats.map lowA from hp)
 exact h a ha
/-! ### alive -/
/-! ### trees -/
end Go.Proofs.YtagbjmocjaaioaaGreatDoor.Mt

/- package seq: elements, above: an iterator of elements and their parents. -/
set_option maxRecDepth 100000
namespace Go.Proofs.YtagbjmocjaaioaaGreatDoor.Sq
open Go.Proofs.YtagbjmocjaaioaaGreatDoor.Tre
open Go Go.RowKit Sl Mt Wg Cs
open Dm (Em El Nd Nv Tr TreeOk NdOk parentV)
attribute [local go_sem] Oper.semAt_some
theorem Tr_sees {b:Nat} {W X:World} {tb g cap:Nat} {qs:List Em} (h:Tr b W tb g cap qs) (hS:Sees W X):Tr b X tb g cap qs:=by
 have h1:=h.next hS.above
 exact ⟨h1.blk,h1.low,h1.row,h1.cls,h1.ats,h1.chs,h1.apart⟩
def elsV (es:List El):List (Nat × Int):=(List.range es.length).map (fun i => (i,parentV es i))
theorem elsV_at {es:List El} {k:Nat} (h:k < es.length):(elsV es)[k]? = some (k,parentV es k):=by
 unfold elsV
 rw [List.getElem?_map,List.getElem?_range h]
 rfl
theorem elsV_len (es:List El):(elsV es).length = es.length:=by unfold elsV;rw [List.length_map,List.length_range]
theorem egEls:∀ args w,(callFunc 75 args).run Tryz.prog w = .ok (.enter 75 args) w:=enters_of Tryz.func75 (by kernel_rfl) rfl
theorem elements_any (tb:Nat) (w:World):Calls Tryz.prog 36 #[.pointer (some ⟨tb,0,none⟩)] w fun e w' => e = .returned (.func (.func 75) #[] #[.pointer (some ⟨w.heap.size,0,none⟩)]) ∧ w' = w.alloc (.cells #[.pointer (some ⟨tb,0,none⟩)] 40):=by
 go_enter Tryz.func36,Tryz.ntmps36
 go_wp2
 go_ret
 exact ⟨rfl,rfl⟩
theorem above_any (q:Option Addr) (m c:Nat) (p:Int) (w:World) (hp:p = -1 ∨ ∃ g k,q = some ⟨g,0,none⟩ ∧ p = (k:Nat) ∧ k < m ∧ m ≤ c ∧ c ≤ maxLen) :
  Calls Tryz.prog 37 #[.slice q m c,.int .i64 p] w fun e w' => e = .returned (.pointer (if p = -1 then none else q.map (fun a => ⟨a.block,p.toNat * 8,none⟩))) ∧ w' = w:=by
 rcases hp with rfl | ⟨g,k,rfl,rfl,hk,h1,h2⟩
 ·go_enter Tryz.func37,Tryz.ntmps37
  go_wp2
  go_ret
  exact ⟨rfl,rfl⟩
 ·have hb:(((k:Nat):Int) == (-1)) = false:=by rw [beq_eq_false_iff_ne];omega
  have hn:¬ ((k:Int) = -1):=by omega
  have hki:(k:Int) < (m:Int):=by omega
  unfold maxLen at h2
  rw [if_neg hn]
  go_enter Tryz.func37,Tryz.ntmps37
  go_wp2
  go_ret
  exact ⟨by simp,rfl⟩
set_option maxHeartbeats 1000000 in
theorem els_seq (n Bt tb b g cap:Nat) (qs:List Em) (w:World) (ct:w.cell? ⟨Bt,0,none⟩ = some (.pointer (some ⟨tb,0,none⟩))) (w0:World) (hT:Tr b w0 tb g cap qs) (hb0:Sees w0 w) :
  SeqD Fence.wide n Tryz.prog 75 #[.pointer (some ⟨Bt,0,none⟩)] (fun x:Nat × Int => #[.int .i64 (x.1:Int),.int .i64 x.2]) (fun r => r < w0.heap.size ∨ r = Bt) (elsV (qs.map Em.e)) w:=by
 intro L J Jx D W hR hs hRD hD hJ hJx hY hJ0
 have dt:W.cell? ⟨Bt,0,none⟩ = some (.pointer (some ⟨tb,0,none⟩)):=(World.cell?_of_block (a:=⟨Bt,0,none⟩) (hR Bt (.inr rfl))).trans ct
 have HS:Hid (∀ X E,Fr D E W X → Sees w0 X ∧ X.cell? ⟨Bt,0,none⟩ = some (.pointer (some ⟨tb,0,none⟩))):=fun X E fr =>
  ⟨⟨by have:=fr.size;have:=hb0.size;omega,fun r hr => (fr.block r (by have:=hb0.size;omega) (hRD r (.inl hr))).trans ((hR r (.inl hr)).trans (hb0.block r hr))⟩,fr.keep (p:=⟨Bt,0,none⟩) (hRD Bt (.inr rfl)) dt⟩
 have HY:Hid (∀ pre x post D1 W1,elsV (qs.map Em.e) = pre ++ x :: post → J pre D1 W1 → Fr D D1 W W1 → YieldAt Fence.wide (n - 1) Tryz.prog L #[.int .i64 ((x:Nat × Int).1:Int),.int .i64 x.2] W1 fun e W' =>
   (e = .returned (.bool true) ∧ ∃ D',J (pre ++ [x]) D' W' ∧ Fr D1 D' W1 W') ∨ (e = .returned (.bool false) ∧ ∃ D',Jx (pre ++ [x]) D' W' ∧ Fr D1 D' W1 W')):=hY
 have HD:Hid (∀ r,D r → r < W.heap.size):=hD
 have HT:Hid (∀ X,Sees w0 X → Tr b X tb g cap qs):=fun X hX => Tr_sees hT hX
 have hroom:=hT.room
 have hlen:=Dm.len_any b tb g cap qs W (HT.out W (HS.out W D (Fr.refl hD)).1)
 clear hY hD hRD hT hR hb0 ct
 unfold maxLen at hroom
 refine callsIn_of_wp Tryz.func75 rfl trivial ?_ rfl
 simp only [Tryz.ntmps75,List.size_toArray,List.length_cons,List.length_nil,Nat.reduceAdd,Nat.reduceSub,Array.replicate_succ,Array.replicate_zero,List.push_toArray,List.append_toArray,List.nil_append,List.cons_append]
 gi_wp2_with fail
 refine ⟨trivial,fun h => (by cases h),?_⟩
 refine (callsIn_wide.2 hlen).mono ?_
 clear hlen
 rintro e w1 ⟨rfl,rfl⟩
 gi_wp2_with fail
 gi_loopw [8] (fun x wr => ∃ (k:Nat) (E:Nat → Prop),x = .int .i64 k ∧ k ≤ qs.length ∧ J ((elsV (qs.map Em.e)).take k) E wr ∧ Fr D E w1 wr) (fun x _ => qs.length - (intOf x).toNat)
 case atStart => exact ⟨0,D,rfl,Nat.zero_le _,(by rw [List.take_zero];exact hJ0),Fr.refl HD.out⟩
 case round =>
  obtain ⟨k,E,rfl,hk,hJk,frk⟩:=hrel
  by_cases hkl:k < qs.length
  ·have hx:(elsV (qs.map Em.e))[k]? = some (k,parentV (qs.map Em.e) k):=elsV_at (by simpa using hkl)
   have htk:(elsV (qs.map Em.e)).take (k + 1) = (elsV (qs.map Em.e)).take k ++ [(k,parentV (qs.map Em.e) k)]:=by rw [List.take_add_one,hx];rfl
   have hsp:elsV (qs.map Em.e) = (elsV (qs.map Em.e)).take k ++ (k,parentV (qs.map Em.e) k) :: (elsV (qs.map Em.e)).drop (k + 1):=by
    have:=List.take_append_drop (k + 1) (elsV (qs.map Em.e))
    rw [htk,List.append_assoc,List.singleton_append] at this
    exact this.symm
   obtain ⟨hse,hct⟩:=HS.out wr E frk
   have hpa:=Dm.parent_any b tb g cap qs (k:Int) wr (HT.out wr hse)
   have hki:(k:Int) < (qs.length:Int):=by omega
   obtain ⟨fn,tmps,assign,body,hy,hRo⟩:=HY.out ((elsV (qs.map Em.e)).take k) (k,parentV (qs.map Em.e) k) _ E wr hsp hJk frk
   have HP:Hid (_ = _):=hsp
   have HTK:Hid (_ = _):=htk
   have HF1:Hid (Fr D E w1 wr):=frk
   clear hx htk hsp hse frk
   generalize parentV (qs.map Em.e) (k:Int) = pv at *
   gi_wp2_with fail
   refine ⟨trivial,fun h => (by cases h),?_⟩
   refine (callsIn_wide.2 hpa).mono ?_
   clear hpa
   rintro e wx ⟨rfl,rfl⟩
   gi_wp2_with fail
   refine ⟨fun h => (by cases h),hRo.mono ?_⟩
   clear hRo hy hct
   rintro e w3 (⟨rfl,E3,hJ3,fr3⟩ | ⟨rfl,E3,hJ3,fr3⟩)
   ·gi_wp2
    go_roundw
    case rel => exact ⟨k + 1,E3,by go_num,by omega,(by rw [HTK.out];exact hJ3),HF1.out.trans fr3⟩
    case measure => simp [intOf] <;> omega
   ·gi_wp2
    refine bodyPost_ret (results_none rfl _ _ _) rfl ?_
    exact ⟨⟨_,rfl⟩,E3,HF1.out.trans fr3,.inr ⟨_,_,_,HP.out,hJ3⟩⟩
  ·obtain rfl:k = qs.length:=by omega
   have hki:¬ ((qs.length:Int) < (qs.length:Int)):=by omega
   rw [List.take_of_length_le (by rw [elsV_len,List.length_map];exact Nat.le_refl _)] at hJk
   gi_wp2
   go_end0
   exact ⟨⟨_,rfl⟩,E,frk,.inl hJk⟩
end Go.Proofs.YtagbjmocjaaioaaGreatDoor.Sq

/- package seq: Run AT EVERY TREE whose selectors are answered for, AND ALL RULES. -/
set_option maxRecDepth 100000
namespace Go.Proofs.YtagbjmocjaaioaaGreatDoor.Sq
open Go.Proofs.YtagbjmocjaaioaaGreatDoor.Tre
open Go Go.RowKit Sl Mt Wg Cs
open Dm (Em El Nd Nv Tr TreeOk NdOk parentV)
attribute [local go_sem] Oper.semAt_some
abbrev Sty:=Nat → Int
def upOf (l:List Sty) (p:Int):Sty:=if p = -1 then Cp.rootV else (l[p.toNat]?).getD Cp.rootV
def stepR (es:List El) (F:Nat → Nat → Int × Int) (l:List Sty) (i:Nat):List Sty:=l ++ [Cp.ofV (fun p => (F i p).1) (fun p => (F i p).2) (upOf l (parentV es i))]
def runTo (es:List El) (F:Nat → Nat → Int × Int):Nat → List Sty
 | 0 => []
 | i + 1 => stepR es F (runTo es F i) i
theorem runTo_len (es:List El) (F:Nat → Nat → Int × Int):∀ i,(runTo es F i).length = i
 | 0 => rfl
 | i + 1 => by show (_ ++ [_]).length = _;rw [List.length_append,runTo_len es F i];rfl
def runV (es:List El) (F:Nat → Nat → Int × Int):List Sty:=runTo es F es.length
def stysC (l:List Sty):List Value:=l.flatMap Cp.styL
theorem stysC_at {l:List Sty}:∀ {k:Nat} {s:Sty},l[k]? = some s → ∀ i,i < 8 → (stysC l)[k * 8 + i]? = some (.int .i64 (s i)):=by
 induction l with
 | nil => intro k s h;simp at h
 | cons a l ih =>
  intro k s h i hi
  unfold stysC
  rw [List.flatMap_cons]
  cases k with
  | zero =>
   obtain rfl:a = s:=by simpa using h
   rw [List.getElem?_append_left (by simp [Cp.styL];omega)]
   obtain rfl | rfl | rfl | rfl | rfl | rfl | rfl | rfl:i = 0 ∨ i = 1 ∨ i = 2 ∨ i = 3 ∨ i = 4 ∨ i = 5 ∨ i = 6 ∨ i = 7:=by omega
   all_goals rfl
  | succ k =>
   rw [List.getElem?_append_right (by simp [Cp.styL];omega)]
   have:=ih (k:=k) (s:=s) (by simpa using h) i hi
   unfold stysC at this
   rw [← this]
   congr 1
   simp [Cp.styL]
   omega
abbrev StyRow (b:Nat) (W:World) (v:Value) (l:List Sty):Prop:=W.ownsRow b 47 8 v l.length (stysC l)
theorem sty_row {b:Nat} {W:World} {v:Value} {l:List Sty} (h:StyRow b W v l) {k:Nat} {s:Sty} (hk:l[k]? = some s) :
  ∃ g c,v = .slice (some ⟨g,0,none⟩) l.length c ∧ l.length ≤ c ∧ c ≤ maxLen ∧ b ≤ g ∧ g < W.heap.size ∧ Cp.SrcAt W g (k * 8) s:=by
 have hlt:k < l.length:=(List.getElem?_eq_some_iff.1 hk).1
 obtain ⟨h0,h4⟩:=h
 rcases h4 with ⟨_,h4⟩ | ⟨g,c,cur,rfl,h5,h6,h7,h8,h9⟩
 ·omega
 ·have hr':W.ownsRow b 47 8 (.slice (some ⟨g,0,none⟩) l.length c) l.length (stysC l):=⟨h0,.inr ⟨g,c,cur,rfl,h5,h6,h7,h8,h9⟩⟩
  refine ⟨g,c,rfl,h7,h8,h5,(Array.getElem?_eq_some_iff.1 h6).1,fun i hi => ?_⟩
  have:=hr'.cells (g:=g) rfl (k * 8 + i) _ (stysC_at hk i hi)
  rwa [show (⟨g,0,none⟩:Addr).add (k * 8 + i) = ⟨g,k * 8 + i,none⟩ by
   unfold Addr.add
   split
   ·simp_all
   ·simp] at this
theorem infoSty8:(Tryz.prog.info? 47).map (fun i => (i.zero,i.size,i.bytes)) = some (some (.agg #[.int .i64 0,.int .i64 0,.int .i64 0,.int .i64 0,.int .i64 0,.int .i64 0,.int .i64 0,.int .i64 0]),8,64):=by kernel_rfl
theorem infoSty_parts:∃ i,Tryz.prog.info? 47 = some i ∧ i.zero = some (.agg #[.int .i64 0,.int .i64 0,.int .i64 0,.int .i64 0,.int .i64 0,.int .i64 0,.int .i64 0,.int .i64 0]) ∧ i.size = 8 ∧ i.bytes = 64:=by
 have h:=infoSty8
 cases hi:Tryz.prog.info? 47 with
 | none => rw [hi] at h;cases h
 | some i => rw [hi] at h;simp at h;exact ⟨i,rfl,h⟩
theorem sty_new (w:World) (s:Sty):∀ j u,(Cp.styL s)[j]? = some u → (w.alloc (.cells (Cp.styL s).toArray 47)).cell? ((⟨w.heap.size,0,none⟩:Addr).add j) = some u:=by
 intro j u hj
 have h1:(w.alloc (.cells (Cp.styL s).toArray 47)).heap[w.heap.size]? = _:=World.alloc_heap_new w _
 have h2:(⟨w.heap.size,0,none⟩:Addr).add j = ⟨w.heap.size,j,none⟩:=by
  unfold Addr.add
  split
  ·simp_all
  ·simp
 rw [h2]
 simp only [World.cell?,h1]
 simpa using hj
theorem upOf_at {W:World} {q:Option Addr} {n c:Nat} {l:List Sty} {b:Nat} (h:StyRow b W (.slice q n c) l) {p:Int} (hp:p = -1 ∨ ∃ k:Nat,p = (k:Nat) ∧ k < l.length):Cp.ParAt W (.pointer (if p = -1 then none else q.map (fun a => ⟨a.block,p.toNat * 8,none⟩))) (upOf l p):=by
 rcases hp with rfl | ⟨k,rfl,hk⟩
 ·exact .inl ⟨rfl,rfl⟩
 ·have hne:¬ ((k:Int) = -1):=by omega
  obtain ⟨g,c',e,_,_,_,h2,h3⟩:=sty_row h (List.getElem?_eq_getElem hk)
  cases e
  unfold upOf
  rw [if_neg hne,if_neg hne]
  refine .inr ⟨g,k * 8,by simp,h2,?_⟩
  simpa [hk] using h3
set_option maxHeartbeats 1000000 in
theorem run_any (tb:Nat) (es:List El) (f:Int → Sel → Bool) (p:Option Addr) (c:Nat) (l:List Rv) (w:World) (b g cap:Nat) (qs:List Em) (hT:Tr b w tb g cap qs) (he:qs.map Em.e = es) (hO:TreeOk es) (h0:RulesV w (.slice p l.length c) l) (hA:RulesAsk 137 (.pointer (some ⟨tb,0,none⟩)) f w l) (hln:l.length ≤ 1099511627776) (hP:Vl.PropsAt w.heap.size w) (hel:es.length ≤ 4096) :
  Calls Tryz.prog 18 #[.pointer (some ⟨tb,0,none⟩),.slice p l.length c] w fun e w' => ∃ v,e = .returned v ∧ StyRow w.heap.size w' v (runV es (fun i => winV (candsV (f (i:Int)) (l.map (·.r))))) ∧ Below w.heap.size w w':=by
 obtain ⟨F,hF⟩:∃ F,F = fun i:Nat => winV (candsV (f (i:Int)) (l.map (·.r))):=⟨_,rfl⟩
 have HF:Hid (_ = _):=hF
 rw [← hF]
 clear hF
 refine (callsIn_wide (n:=6)).1 ?_
 refine callsIn_of_wp_marks Tryz.func18 rfl trivial ?_ rfl
 simp only [Tryz.ntmps18,List.size_toArray,List.length_cons,List.length_nil,Nat.reduceAdd,Nat.reduceSub,Array.replicate_succ,Array.replicate_zero,List.push_toArray,List.append_toArray,List.nil_append,List.cons_append]
 obtain ⟨w3,hw3⟩:∃ w3,((w.alloc (.cells #[.pointer (some ⟨tb,0,none⟩)] 40)).alloc (.cells #[.slice p l.length c] 26)).alloc (.cells #[.slice none 0 0] 29) = w3:=⟨_,rfl⟩
 have b3:Below w.heap.size w w3:=by rw [← hw3];exact (((Below.refl _ w).alloc (Nat.le_refl _) _).alloc (by simp) _).alloc (by simp;omega) _
 have s3:w3.heap.size = w.heap.size + 3:=by rw [← hw3];simp
 have ct:w3.cell? ⟨w.heap.size,0,none⟩ = some (.pointer (some ⟨tb,0,none⟩)):=by
  rw [← hw3]
  exact (World.cell?_of_block ((Below.heap_alloc _ _ _ (by simp;omega)).trans (Below.heap_alloc _ _ _ (by simp)))).trans (Boxed.new w 40 _).cell
 have cl:w3.cell? ⟨w.heap.size + 1,0,none⟩ = some (.slice p l.length c):=by
  rw [← hw3]
  have:=(Boxed.new (w.alloc (.cells #[.pointer (some ⟨tb,0,none⟩)] 40)) 26 (.slice p l.length c)).cell
  rw [World.size_alloc] at this
  exact (World.cell?_of_block (Below.heap_alloc _ _ _ (by simp))).trans this
 have bO:Boxed w3 (w.heap.size + 1 + 1) 29 (.slice none 0 0):=by
  rw [← hw3]
  have:=Boxed.new ((w.alloc (.cells #[.pointer (some ⟨tb,0,none⟩)] 40)).alloc (.cells #[.slice p l.length c] 26)) 29 (.slice none 0 0)
  rwa [World.size_alloc,World.size_alloc] at this
 have hee:=elements_any tb w3
 obtain ⟨w4,hw4⟩:∃ w4,w3.alloc (.cells #[.pointer (some ⟨tb,0,none⟩)] 40) = w4:=⟨_,rfl⟩
 have b4:Below w3.heap.size w3 w4:=by rw [← hw4];exact (Below.refl _ w3).alloc (Nat.le_refl _) _
 have s4:w4.heap.size = w.heap.size + 4:=by rw [← hw4];simp;omega
 have c4:w4.cell? ⟨w.heap.size + 3,0,none⟩ = some (.pointer (some ⟨tb,0,none⟩)):=by rw [← hw4,← s3];exact (Boxed.new w3 _ _).cell
 have b04:=below_next b3 b4
 have hseq:=els_seq 5 (w.heap.size + 3) tb b g cap qs w4 c4 w hT (Sees.of_below b04)
 rw [he] at hseq
 rw [hw4,s3] at hee
 have HB:Hid (Boxed w4 (w.heap.size + 1 + 1) 29 (.slice none 0 0) ∧ w4.cell? ⟨w.heap.size,0,none⟩ = some (.pointer (some ⟨tb,0,none⟩)) ∧ w4.cell? ⟨w.heap.size + 1,0,none⟩ = some (.slice p l.length c) ∧ Below w.heap.size w w4):=
  ⟨(b4.block (w.heap.size + 1 + 1) (by omega)).trans bO,(b4.cell (p:=⟨w.heap.size,0,none⟩) (by simp;omega)).trans ct,(b4.cell (p:=⟨w.heap.size + 1,0,none⟩) (by simp;omega)).trans cl,b04⟩
 have HC:Hid (Tr b w tb g cap qs ∧ qs.map Em.e = es ∧ TreeOk es ∧ RulesV w (.slice p l.length c) l ∧ RulesAsk 137 (.pointer (some ⟨tb,0,none⟩)) f w l ∧ Vl.PropsAt w.heap.size w):=⟨hT,he,hO,h0,hA,hP⟩
 clear b3 b4 bO cl c4 b04 hw4 hT he hO h0 hA hP
 gi_wp2_with fail
 refine ⟨trivial,?_⟩
 refine (callsIn_wide.2 hee).mono ?_
 clear hee ct hw3
 rintro e w4' ⟨rfl,rfl⟩
 gi_wp2_with fail
 refine wpIn_rangeFunc_D rfl (by omega) (gf:=75) (lb:=#[.pointer (some ⟨w.heap.size + 3,0,none⟩)]) rfl trivial egEls hseq (fun _ => rfl)
  (fun (pre:List (Nat × Int)) (E:Nat → Prop) (X:World) => ∃ v,(∀ r,E r ↔ r = w.heap.size + 1 + 1 ∨ v.ownBlock = some r) ∧ Boxed X (w.heap.size + 1 + 1) 29 v ∧ StyRow w.heap.size X v (runTo es F pre.length)) (fun _ _ _ _ => False)
  ?hI (fun _ _ _ _ _ h _ => h) (fun r => r = w.heap.size + 1 + 1) (fun r e => by omega) (fun r hr e => by omega) (fun r hr => ⟨by omega,rfl⟩) (Nat.le_refl _)
  ⟨_,fun r => by simp [Value.ownBlock],HB.out.1,World.ownsRow_nil _ _ _ _⟩
  (fun (pre:List (Nat × Int)) (x:Nat × Int) (E:Nat → Prop) (a':Act) (X:World) => (∃ v,(∀ r,E r ↔ r = w.heap.size + 1 + 1 ∨ v.ownBlock = some r) ∧ Boxed X (w.heap.size + 1 + 1) 29 v ∧ StyRow w.heap.size X v (runTo es F pre.length)) ∧
   a' = { tmps:=#[.pointer (some ⟨tb,0,none⟩),.slice p l.length c,.pointer (some ⟨w.heap.size,0,none⟩),.pointer (some ⟨w.heap.size + 1,0,none⟩),.slice none 0 0,.pointer (some ⟨w.heap.size + 1 + 1,0,none⟩),.int .i64 (x.1:Int),.int .i64 x.2,.pointer (some ⟨tb,0,none⟩),.func (.func 75) #[] #[.pointer (some ⟨w.heap.size + 3,0,none⟩)],.int .i64 (x.1:Int),.int .i64 x.2,undef,undef,undef,undef,undef,undef,undef,undef,undef,undef,undef,undef],defers:=[] })
  ?hAx ?assign ?body ?done ?stop
 case hI =>
  rintro s E X Y ⟨v,h1,h2,h3⟩ hk
  exact ⟨v,h1,(hk.same _ ((h1 _).2 (.inl rfl))).trans h2,owns_same h3 (fun g hg => hk.same _ ((h1 _).2 (.inr hg)))⟩
 case hAx =>
  rintro s x a' _ E X Y ⟨⟨v,h1,h2,h3⟩,h4⟩ hk
  exact ⟨⟨v,h1,(hk.same _ ((h1 _).2 (.inl rfl))).trans h2,owns_same h3 (fun g hg => hk.same _ ((h1 _).2 (.inr hg)))⟩,h4⟩
 case assign =>
  intro l' pre x D1 Wx K hi hfr hK
  gi_wp2
  exact hK _ D1 _ (Fr.refl hfr.lt) ⟨hi,rfl⟩
 case body =>
  rintro l' pre x post D2 a' X heq ⟨⟨v,hE,hb1,hr1⟩,rfl⟩ hfr _ hnl hlw
  have hxe:x = (pre.length,parentV es (pre.length:Int)):=by
   have h1:(elsV es)[pre.length]? = some x:=by rw [heq];simp
   have h2:pre.length < es.length:=by rw [← elsV_len es,heq];simp
   rw [elsV_at h2] at h1
   exact (Option.some.inj h1).symm
  have hil:pre.length < es.length:=by rw [← elsV_len es,heq];simp
  obtain ⟨i,hi⟩:∃ i,pre.length = i:=⟨_,rfl⟩
  have HI:Hid ((pre ++ [x]).length = i + 1):=by show _ = _;rw [List.length_append,hi];rfl
  rw [hi] at hr1 hxe hil
  obtain ⟨S,hS⟩:∃ S,runTo es F i = S:=⟨_,rfl⟩
  have hSl:S.length = i:=by rw [← hS];exact runTo_len es F i
  rw [hS] at hr1
  obtain ⟨pv,hpv⟩:∃ pv,parentV es (i:Int) = pv:=⟨_,rfl⟩
  rw [hpv] at hxe
  subst hxe
  -- the parent: none,or one that has been told
  have hpar:pv = -1 ∨ ∃ k:Nat,pv = (k:Nat) ∧ k < i:=by
   obtain ⟨q,hq⟩:∃ q,es[i]? = some q:=⟨_,List.getElem?_eq_getElem hil⟩
   have hq':parentV es (i:Int) = q.nd.parent:=by unfold parentV;rw [Dm.elAt_yes hq];rfl
   rw [hq'] at hpv
   cases i with
   | zero => exact .inl (hpv ▸ (HC.out.2.2.1.root q hq).1)
   | succ i =>
    obtain ⟨k,_,h1,h2,_⟩:=HC.out.2.2.1.par (i + 1) q hq (by omega)
    exact .inr ⟨k,hpv ▸ h1,h2⟩
  have hbelX:Below w4'.heap.size w4' X ∨ True:=.inr trivial
  have hSX:Below w.heap.size w X:=HB.out.2.2.2.trans (hfr.below (by omega) (fun r e => by omega))
  have cO:=hb1.cell
  have cT:=hfr.keep (p:=⟨w.heap.size,0,none⟩) (fun e => by have e':w.heap.size = w.heap.size + 1 + 1:=e;omega) HB.out.2.1
  have cL:=hfr.keep (p:=⟨w.heap.size + 1,0,none⟩) (fun e => by have e':w.heap.size + 1 = w.heap.size + 1 + 1:=e;omega) HB.out.2.2.1
  obtain ⟨q,cc,rfl⟩:=Sl.owns_form hr1
  have hab:=above_any q S.length cc pv X.drew (by
   rcases hpar with h | ⟨k,h,hk⟩
   ·exact .inl h
   ·obtain ⟨g,c',e,h1,h2,_⟩:=sty_row hr1 (List.getElem?_eq_getElem (show k < S.length by omega))
    cases e
    exact .inr ⟨g,k,rfl,h,by omega,h1,h2⟩)
  obtain ⟨pp,hpp⟩:∃ pp,(if pv = -1 then none else q.map (fun a => ⟨a.block,pv.toNat * 8,none⟩):Option Addr) = pp:=⟨_,rfl⟩
  have HPP:Hid (_ = _):=hpp
  rw [hpp] at hab
  clear hpp
  have hXd:Below X.heap.size X X.drew:=below_drew (Below.refl _ _)
  have hwi:=winners_any tb (i:Int) f _ l w X.drew HC.out.2.2.2.1 ((Sees.of_below hSX).next hXd) HC.out.2.2.2.2.1 hln
  have HeldS:X.drew.cell? ⟨w.heap.size + 1 + 1,0,none⟩ = some (.slice q S.length cc) ∧ X.drew.cell? ⟨w.heap.size,0,none⟩ = some (.pointer (some ⟨tb,0,none⟩)) ∧ X.drew.cell? ⟨w.heap.size + 1,0,none⟩ = some (.slice p l.length c):=⟨cO,cT,cL⟩
  have HH:Hid (∀ Y,Below X.drew.heap.size X.drew Y → Y.cell? ⟨w.heap.size + 1 + 1,0,none⟩ = some (.slice q S.length cc) ∧ Y.cell? ⟨w.heap.size,0,none⟩ = some (.pointer (some ⟨tb,0,none⟩)) ∧ Y.cell? ⟨w.heap.size + 1,0,none⟩ = some (.slice p l.length c)):=fun Y hY =>
   ⟨(hY.cell (World.block_lt_of_cell? X.drew _ HeldS.1)).trans HeldS.1,(hY.cell (World.block_lt_of_cell? X.drew _ HeldS.2.1)).trans HeldS.2.1,(hY.cell (World.block_lt_of_cell? X.drew _ HeldS.2.2)).trans HeldS.2.2⟩
  have HQ:Hid (Boxed X (w.heap.size + 1 + 1) 29 (.slice q S.length cc) ∧ StyRow w.heap.size X (.slice q S.length cc) S ∧ Fr (fun r => r = w.heap.size + 1 + 1) D2 w4' X ∧ (∀ r,D2 r ↔ r = w.heap.size + 1 + 1 ∨ (Value.slice q S.length cc).ownBlock = some r)):=⟨hb1,hr1,hfr,hE⟩
  have HSl:Hid (S.length = i):=hSl
  have HRS:Hid (runTo es F i = S):=hS
  have HPAR:Hid (_ ∨ _):=hpar
  clear heq hE hb1 hr1 hfr hnl hlw hbelX cO cT cL hSl hS hi hpar
  gi_wp2
  refine Rg.wpD_round [0,1,2,3,4,5,6,7,8,9,10] (fun Y => Y.cell? ⟨w.heap.size + 1 + 1,0,none⟩ = some (.slice q S.length cc) ∧ Y.cell? ⟨w.heap.size,0,none⟩ = some (.pointer (some ⟨tb,0,none⟩)) ∧ Y.cell? ⟨w.heap.size + 1,0,none⟩ = some (.slice p l.length c)) (by kernel_rfl) (by kernel_rfl) ?_
  refine Rg.ld 0 HeldS ?_
  simp only [Act.put,Rg.sA,Rg.sB,Rg.sC]
  refine Rg.ld 1 HeldS ?_
  simp only [Act.put,Rg.sA,Rg.sB,Rg.sC]
  refine Rg.ld 2 HeldS ?_
  simp only [Act.put,Rg.sA,Rg.sB,Rg.sC]
  refine Rg.ld 4 HeldS ?_
  simp only [Act.put,Rg.sA,Rg.sB,Rg.sC]
  refine Rg.ld 5 HeldS ?_
  simp only [Act.put,Rg.sA,Rg.sB,Rg.sC]
  refine Rg.ld 6 HeldS ?_
  simp only [Act.put,Rg.sA,Rg.sB,Rg.sC]
  clear HeldS
  refine Rg.dd 3 fun K hK => ?_
  go_simp
  refine Calls.mono hab ?_
  clear hab
  rintro e Wa ⟨rfl,rfl⟩
  refine hK _ _ (fun _ => HH.out _ (Below.refl _ _)) ?_
  clear hK K
  refine Rg.dd 7 fun K hK => ?_
  go_simp
  refine Calls.mono hwi ?_
  clear hwi
  rintro e W5 ⟨rfl,b5⟩
  have HB5:Hid (Below X.drew.heap.size X.drew W5):=b5
  refine hK _ _ (fun _ => HH.out _ HB5.out) ?_
  clear hK K b5
  have hB05:Below X.heap.size X W5:=(below_drew (Below.refl _ _)).trans HB5.out
  have hrow5:StyRow w.heap.size W5 (.slice q S.length cc) S:=owns_same HQ.out.2.1 (fun g hg => hB05.block g (owns_lt HQ.out.2.1 hg).2)
  have hof:=Cp.of_any (.pointer pp) (fun p => (winV (candsV (f (i:Int)) (l.map (·.r))) p).1) (fun p => (winV (candsV (f (i:Int)) (l.map (·.r))) p).2) (upOf S pv) W5 ((HC.out.2.2.2.2.2.next hSX).next hB05) (by
   rw [← show _ = pp from HPP.out]
   refine upOf_at hrow5 ?_
   rcases HPAR.out with h | ⟨k,h,hk⟩
   ·exact .inl h
   ·exact .inr ⟨k,h,by rw [HSl.out];exact hk⟩)
  refine Rg.dd 8 fun K hK => ?_
  go_simp
  refine Calls.mono hof ?_
  clear hof hrow5
  rintro e W6 ⟨rfl,b6⟩
  have HB6:Hid (Below X.heap.size X W6):=below_next hB05 b6
  have HBD:Hid (Below X.drew.heap.size X.drew W6):=below_next HB5.out b6
  refine hK _ _ (fun _ => HH.out _ HBD.out) ?_
  clear hK K b6 hB05
  obtain ⟨V,hV⟩:∃ V,Cp.ofV (fun p => (winV (candsV (f (i:Int)) (l.map (·.r))) p).1) (fun p => (winV (candsV (f (i:Int)) (l.map (·.r))) p).2) (upOf S pv) = V:=⟨_,rfl⟩
  have HV:Hid (runTo es F (i + 1) = S ++ [V]):=by
   show stepR es F (runTo es F i) i = _
   unfold stepR
   rw [HRS.out,hpv,show F = _ from HF.out,hV]
  rw [hV]
  clear hV hpv
  refine Rg.dd 9 fun K hK => ?_
  go_simp
  refine hK _ _ (fun _ => HH.out _ (HBD.out.alloc HBD.out.size _)) ?_
  clear hK K
  obtain ⟨i0,hi,hz0,hz1,hz2⟩:=infoSty_parts
  have hbox6:Boxed W6 (w.heap.size + 1 + 1) 29 (.slice q S.length cc):=(HB6.out.block _ HQ.out.1.lt).trans HQ.out.1
  have hrow6:StyRow w.heap.size W6 (.slice q S.length cc) S:=owns_same HQ.out.2.1 (fun g hg => HB6.out.block g (owns_lt HQ.out.2.1 hg).2)
  have hw6:w.heap.size ≤ W6.heap.size:=by have:=HB6.out.size;have:=hSX.size;omega
  have hS6:S.length + 1 ≤ maxLen ∧ (S.length + 1) * 64 ≤ 140737488355328:=by have:=HSl.out;unfold maxLen;omega
  obtain ⟨v',X3,hrun,hr3,hg3,hnil,hat⟩:=run_append_own_at (P:=Tryz.prog) (W6.alloc (.cells (Cp.styL V).toArray 47)) w.heap.size 29 29 47 i0 _ 8 64 Tryz.underlying29 hi hz0 hz1 hz2 rfl (by decide) (.slice q S.length cc) S.length (stysC S) (hrow6.alloc _)
   ⟨W6.heap.size,0,none⟩ 1 1 (Cp.styL V) rfl (sty_new W6 V) (by simp [Cp.styL,Value.oneCell']) hS6.1 hS6.2 (by simp;omega)
  have hap:=hbox6.appended (by decide) hrow6 hw6 (by omega) hr3 hg3
  obtain ⟨q',c',hv'⟩:=Sl.owns_form hr3
  subst hv'
  obtain ⟨hv1,hv2,hr2,hk2,hb2⟩:=hap
  have hs3:=hg3.size
  simp only [World.size_alloc] at hs3
  have hgr:∀ g,(Value.slice q S.length cc).ownBlock = some g → g = w.heap.size + 1 + 1 ∨ w4'.heap.size ≤ g:=fun g hg => (HQ.out.2.2.1.grow g ((HQ.out.2.2.2 g).2 (.inr hg)))
  have hS3:X3.cell? ⟨w.heap.size + 1 + 1,0,none⟩ = some (.slice q S.length cc) ∧ X3.cell? ⟨w.heap.size,0,none⟩ = some (.pointer (some ⟨tb,0,none⟩)) ∧ X3.cell? ⟨w.heap.size + 1,0,none⟩ = some (.slice p l.length c):=by
   obtain ⟨_,h1,h2⟩:=HH.out W6 HBD.out
   have old:∀ r,r < w4'.heap.size → r ≠ w.heap.size + 1 + 1 → X3.heap[r]? = W6.heap[r]?:=fun r hr hne => by
    have hXs:=HQ.out.2.2.1.size
    have h6s:=HB6.out.size
    refine (hg3.block r (by simp;omega) (fun e => ?_)).trans (Below.heap_alloc _ _ _ (by omega))
    rcases hgr r e.symm with h | h
    ·exact hne h
    ·omega
   exact ⟨hv1.cell,(World.cell?_of_block (a:=⟨w.heap.size,0,none⟩) (old w.heap.size (by omega) (by omega))).trans h1,(World.cell?_of_block (a:=⟨w.heap.size + 1,0,none⟩) (old (w.heap.size + 1) (by omega) (by omega))).trans h2⟩
  have FIN:Hid (∃ D',(∃ v,(∀ r,D' r ↔ r = w.heap.size + 1 + 1 ∨ v.ownBlock = some r) ∧ Boxed (X3.setCell ⟨w.heap.size + 1 + 1,0,none⟩ (.slice q' (S.length + 1) c')) (w.heap.size + 1 + 1) 29 v ∧ StyRow w.heap.size (X3.setCell ⟨w.heap.size + 1 + 1,0,none⟩ (.slice q' (S.length + 1) c')) v (runTo es F (pre ++ [(i,pv)]).length)) ∧ Fr D2 D' X (X3.setCell ⟨w.heap.size + 1 + 1,0,none⟩ (.slice q' (S.length + 1) c'))):=by
   refine ⟨fun r => r = w.heap.size + 1 + 1 ∨ (Value.slice q' (S.length + 1) c').ownBlock = some r,⟨_,fun _ => Iff.rfl,hv2,?_⟩,?_⟩
   ·rw [show (pre ++ [(i,pv)]).length = i + 1 from HI.out,show runTo es F (i + 1) = _ from HV.out]
    unfold StyRow
    have e1:(S ++ [V]).length = S.length + 1:=by simp
    have e2:stysC (S ++ [V]) = stysC S ++ Cp.styL V:=by unfold stysC;rw [List.flatMap_append];rfl
    rw [e1,e2]
    exact hr2
   ·have hsY:X3.heap.size ≤ (X3.setCell ⟨w.heap.size + 1 + 1,0,none⟩ (.slice q' (S.length + 1) c')).heap.size:=by simp
    refine ⟨hb2.os.trans HB6.out.os,hb2.tape.trans HB6.out.tape,hb2.output.trans HB6.out.output,Nat.le_trans HB6.out.size hb2.size,fun r h1 h2 => ?_,fun r hr => ?_,fun r hr => ?_⟩
    ·have n1:r ≠ w.heap.size + 1 + 1:=fun e => h2 ((HQ.out.2.2.2 r).2 (.inl e))
     have n2:some r ≠ (Value.slice q S.length cc).ownBlock:=fun e => h2 ((HQ.out.2.2.2 r).2 (.inr e.symm))
     have h6s:=HB6.out.size
     have e1:=(grown_set X3 (w.heap.size + 1 + 1) 0 (.slice q' (S.length + 1) c')).block r (by omega) (fun e => n1 (Option.some.inj e))
     exact e1.trans (((hg3.block r (by simp;omega) n2).trans (Below.heap_alloc _ _ _ (by omega))).trans (HB6.out.block r h1))
    ·rcases hr with hr | hr
     ·exact .inl ((HQ.out.2.2.2 r).2 (.inl hr))
     ·rcases hat with h5 | h5
      ·exact .inl ((HQ.out.2.2.2 r).2 (.inr (h5.symm.trans hr)))
      ·rw [hr] at h5
       have:=Option.some.inj h5
       have h6s:=HB6.out.size
       simp at this
       exact .inr (by omega)
    ·rcases hr with hr | hr
     ·subst hr;exact hv2.lt
     ·exact (owns_lt hr2 hr).2
  have c3:=hS3.1
  have f3:=hv1.frozen
  have HS3:Hid (_ ∧ _ ∧ _):=hS3
  clear hg3 hat hnil hr3 hv1 hv2 hr2 hk2 hb2 hbox6 hrow6 hgr hS3 hS6
  refine Rg.dd 10 fun K hK => ?_
  refine Bk.step_append_run rfl _ _ 29 rfl rfl rfl hrun (hK _ _ (fun _ => HS3.out) ?_)
  clear hK K hrun
  refine Rg.dd 11 fun K hK => ?_
  go_simp
  refine hK _ _ (fun h => absurd h (by decide)) ?_
  clear hK K
  refine Rg.wpD_done (by kernel_rfl) ?_
  simp only [Rg.onlyK]
  gi_wp2
  exact FIN.out
 case stop => rintro c pre x post E X heq hx;exact hx.elim
 case done =>
  rintro E X ⟨v,hE,hb1,hr1⟩ hfr hK hnE
  have hcb:=hb1.cell
  rw [elsV_len] at hr1
  have hbel:Below w.heap.size w X:=HB.out.2.2.2.trans (hfr.below (by omega) (fun r e => by omega))
  obtain ⟨q,c',rfl⟩:=Sl.owns_form hr1
  have FIN:Hid (StyRow w.heap.size X _ (runTo es F es.length) ∧ Below w.heap.size w X ∧ (∀ g,(Value.slice q (runTo es F es.length).length c').ownBlock = some g → g ≠ w4'.heap.size) ∧ w.heap.size ≤ w4'.heap.size):=
   ⟨hr1,hbel,fun g hg e => hnE ((hE _).2 (.inr (e ▸ hg))),by omega⟩
  clear hr1 hbel hE hfr hnE
  gi_wp2
  refine ⟨by simp,.inl ⟨_,_,rfl,run_takeDeferred hK,?_⟩⟩
  have hown:StyRow w.heap.size (X.putObj w4'.heap.size (.deferred none)) (.slice q (runTo es F es.length).length c') (runV es F):=owns_same FIN.out.1 (fun g hg => World.putObj_heap_other (FIN.out.2.2.1 g hg))
  refine ⟨_,results_tmp (t:=4) rfl _ _ _,_,rfl,hown,?_⟩
  exact FIN.out.2.1.grown (grownBy_putObj' _ _ _) FIN.out.2.1.size (fun r e => by cases e;exact FIN.out.2.2.2)
end Go.Proofs.YtagbjmocjaaioaaGreatDoor.Sq

/- The laws' own 'alive' of chapter 17. -/
namespace Go.Proofs.YtagbjmocjaaioaaGreatDoor.Sq
open Go.Proofs.YtagbjmocjaaioaaGreatDoor.Tre
open Go Go.RowKit Sl Mt Wg Cs
open Dm (Em El Nd Nv Tr TreeOk NdOk parentV newV lowN Made)
structure GoodM (W:World) (tb:Nat) (es:List El):Prop where
 tr:∃ b g cap qs,Tr b W tb g cap qs ∧ qs.map Em.e = es
 ok:TreeOk es
 len:es.length ≤ 4096
 nds:∀ e ∈ es,NdOk e.nd
 short:∀ e ∈ es,ShortN e.nd
 ml:ML W
theorem GoodM.good {W:World} {tb:Nat} {es:List El} (h:GoodM W tb es) (hno:∀ e ∈ es,e.nd.ats = []):Mt.Good W tb es:=⟨h.tr,h.ok,h.len,h.nds,attrs_none hno⟩
theorem ml_sees {W X:World} (h:ML W) (hS:Sees W X):ML X:=by
 obtain ⟨m,hm⟩:=h
 exact ⟨m,(World.cell?_of_block (hS.block _ (World.block_lt_of_cell? W _ hm))).trans hm⟩
theorem GoodM.sees {W X:World} {tb:Nat} {es:List El} (h:GoodM W tb es) (hS:Sees W X):GoodM X tb es:=by
 obtain ⟨⟨b,g,cap,qs,hT,e⟩,h1,h2,h3,h4,h5⟩:=h
 exact ⟨⟨b,g,cap,qs,Tr_sees hT hS,e⟩,h1,h2,h3,h4,ml_sees h5 hS⟩
def ACells (W:World) (q:Option Addr) (c:Nat) (xp:Option Addr) (xc:Nat):Prop:=
 ∃ (b off b2 off2:Nat) (i k a p:Option Addr) (ic kc ac pc:Nat),q = some ⟨b,off,none⟩ ∧ xp = some ⟨b2,off2,none⟩ ∧ 1 ≤ c ∧ c ≤ maxLen ∧ b < W.heap.size ∧ 1 ≤ xc ∧ xc ≤ maxLen ∧ b2 < W.heap.size ∧ W.cell? ⟨b,off,none⟩ = some (.slice xp 1 xc) ∧
  ∀ (j:Nat) u,[Value.int .i64 0,.string ⟨#[97]⟩,.slice i 0 ic,.slice k 0 kc,.slice a 0 ac,.slice p 0 pc][j]? = some u → W.cell? ⟨b2,off2 + j,none⟩ = some u
theorem ACells.of {n:Nat} {W:World} {q:Option Addr} {c:Nat} (h:SelsR 9 n W (.slice q 1 c) [aSel]) (hn:n ≤ W.heap.size):∃ xp xc,ACells W q c xp xc:=by
 obtain ⟨b,off,x,e,hb,h1,h2,hx,hc⟩:=Wg.SelsR.get h (k:=0) (s:=aSel) rfl
 obtain ⟨xp,xc,rfl⟩:=Wg.RowT.len hx
 obtain ⟨b2,off2,i,k,a,p,e2,hb2,g1,g2,⟨c0,c1,c2,c3,c4,c5⟩,r1,r2,r3,r4⟩:=Wg.PartsR.get hx (k:=0) rfl
 obtain ⟨ip,ic,rfl⟩:=Wg.RowT.len r1
 obtain ⟨kp,kc,rfl⟩:=Wg.RowT.len r2
 obtain ⟨ap,ac,rfl⟩:=Wg.RowT.len r3
 obtain ⟨pp,pc,rfl⟩:=Wg.RowT.len r4
 refine ⟨xp,xc,b,off,b2,off2,ip,kp,ap,pp,ic,kc,ac,pc,e,e2,h1,h2,by omega,g1,g2,by omega,hc,fun j u hj => ?_⟩
 match j,hj with
 | 0,hj => obtain rfl:=Option.some.inj hj;exact c0
 | 1,hj => obtain rfl:=Option.some.inj hj;exact c1
 | 2,hj => obtain rfl:=Option.some.inj hj;exact c2
 | 3,hj => obtain rfl:=Option.some.inj hj;exact c3
 | 4,hj => obtain rfl:=Option.some.inj hj;exact c4
 | 5,hj => obtain rfl:=Option.some.inj hj;exact c5
 | j + 6,hj => simp at hj
theorem ACells.sees {W X:World} {q:Option Addr} {c:Nat} {xp:Option Addr} {xc:Nat} (h:ACells W q c xp xc) (hS:Sees W X):ACells X q c xp xc:=by
 obtain ⟨b,off,b2,off2,i,k,a,p,ic,kc,ac,pc,e,e2,h1,h2,h3,h4,h5,h6,h7,h8⟩:=h
 have:=hS.size
 exact ⟨b,off,b2,off2,i,k,a,p,ic,kc,ac,pc,e,e2,h1,h2,by omega,h4,h5,by omega,(World.cell?_of_block (hS.block b h3)).trans h7,fun j u hj => (World.cell?_of_block (hS.block b2 h6)).trans (h8 j u hj)⟩
theorem ACells.wg {W:World} {q:Option Addr} {c:Nat} {xp:Option Addr} {xc:Nat} (h:ACells W q c xp xc):PartsR 8 W.heap.size W (.slice xp 1 xc) aSel:=by
 obtain ⟨b,off,b2,off2,i,k,a,p,ic,kc,ac,pc,e,e2,h1,h2,h3,h4,h5,h6,h7,h8⟩:=h
 refine .inr ⟨b2,off2,xc,by rw [e2];rfl,h4,h5,h6,fun j x hj => ?_⟩
 cases j with
 | succ j => simp [aSel] at hj
 | zero =>
  obtain rfl:=Option.some.inj hj
  exact ⟨_,rfl,⟨_,rfl,_,_,_,_,rfl,.inl ⟨rfl,_,_,rfl⟩,.inl ⟨rfl,_,_,rfl⟩,.inl ⟨rfl,_,_,rfl⟩,.inl ⟨rfl,_,_,rfl⟩⟩,fun i u hu => by simpa using h8 i u hu⟩
theorem ACells.mt {W:World} {q:Option Addr} {c:Nat} {xp:Option Addr} {xc:Nat} (h:ACells W q c xp xc):PartsAt 0 W.heap.size W (.slice xp 1 xc) aSel:=by
 obtain ⟨b,off,b2,off2,i,k,a,p,ic,kc,ac,pc,e,e2,h1,h2,h3,h4,h5,h6,h7,h8⟩:=h
 refine .inr ⟨b2,off2,xc,by rw [e2];rfl,h4,h5,h6,fun j x hj => ?_⟩
 cases j with
 | succ j => simp [aSel] at hj
 | zero =>
  obtain rfl:=Option.some.inj hj
  exact ⟨_,rfl,⟨_,rfl,⟨_,_,_,_,rfl,.inl ⟨rfl,_,_,rfl⟩,.inl ⟨rfl,_,_,rfl⟩,.inl ⟨rfl,_,_,rfl⟩,.inl ⟨rfl,_,_,rfl⟩,Nat.zero_le _,fun _ h => (by cases h)⟩,by decide,by decide⟩,fun i u hu => by simpa using h8 i u hu⟩
theorem few_a:FewT 10 aSel:=⟨by decide,fun p hp => by
 obtain rfl:p = _:=List.mem_singleton.1 hp
 exact ⟨⟨by decide,by decide,by decide,by decide⟩,fun u hu => (by cases hu)⟩⟩
theorem cut_a:cutS 8 aSel = aSel:=rfl
theorem ask_a {tb:Nat} {es:List El} {W:World} (hG:GoodM W tb es) (hno:∀ e ∈ es,e.nd.ats = []) {q:Option Addr} {c:Nat} (h:SelsR 9 W.heap.size W (.slice q 1 c) [aSel]):AskOK 137 (.pointer (some ⟨tb,0,none⟩)) (selectorV es) W q c [aSel]:=by
 obtain ⟨xp,xc,hA⟩:=ACells.of h (Nat.le_refl _)
 intro k x hk
 cases k with
 | succ k => simp at hk
 | zero =>
  obtain rfl:=Option.some.inj hk
  obtain ⟨b,off,b2,off2,i,kk,a,p,ic,kc,ac,pc,e,e2,h1,h2,h3,h4,h5,h6,h7,h8⟩:=id hA
  refine ⟨b,off,xp,xc,e,h1,by unfold maxLen at h2;omega,fun X hX => ?_,fun X hX => ?_,few_a,fun n X hX => ?_⟩
  ·exact (World.cell?_of_block (hX.block b h3)).trans h7
  ·rw [cut_a]
   exact (hA.sees hX).wg
  ·exact ((hG.sees hX).good hno).sel n 0 _ _ (hA.sees hX).mt
end Go.Proofs.YtagbjmocjaaioaaGreatDoor.Sq

/- The laws' own 'alive' of chapter 17: the later one of two rules. -/
set_option maxRecDepth 100000
namespace Go.Proofs.YtagbjmocjaaioaaGreatDoor.Sq
open Go.Proofs.YtagbjmocjaaioaaGreatDoor.Tre
open Go Go.RowKit Sl Mt Wg Cs
open Dm (Em El Nd Nv Tr TreeOk NdOk parentV newV lowN Made NodesAt nvCells)
def nodeA:Nv:=⟨⟨-1,⟨#[97]⟩,⟨#[]⟩,[],[]⟩,.slice none 0 0,.slice none 0 0⟩
def esA:List El:=[⟨lowN nodeA.nd,0,1,[]⟩]
theorem newA:newV ([nodeA].map Nv.nd) = .ok esA:=by rfl
theorem nodeA_ok:NdOk nodeA.nd:=⟨by decide,by decide,fun _ h => (by cases h),fun _ h => (by cases h),Nat.zero_le _,Nat.zero_le _⟩
def lookA:Sty:=Cp.ofV (fun p => (winV (candsV (selectorV esA 0) [R1,R2]) p).1) (fun p => (winV (candsV (selectorV esA 0) [R1,R2]) p).2) Cp.rootV
theorem runA:runV esA (fun i => winV (candsV (selectorV esA (i:Int)) [R1,R2])) = [lookA]:=by rfl
theorem lookA4:lookA 4 = 2000:=by decide +kernel
theorem lookA1:lookA 1 = 16000:=by decide +kernel
theorem noatA:∀ e ∈ esA,e.nd.ats = []:=fun e he => by
 obtain rfl:=List.mem_singleton.1 he
 rfl
theorem shortA:∀ e ∈ esA,ShortN e.nd:=fun e he p hp => by
 obtain rfl:e = _:=List.mem_singleton.1 he
 cases hp
theorem okA:TreeOk esA:=(Dm.newV_ok newA).1
theorem ndsA:∀ e ∈ esA,NdOk e.nd:=newV_nds newA (fun n hn => by
 obtain rfl:n = _:=List.mem_singleton.1 hn
 exact nodeA_ok)
set_option maxHeartbeats 1000000 in
theorem spec_a (v nv:Value) (w:World) (hB:BytesAt w.heap.size w v cssB) (hN:NodesAt w.heap.size w nv [nodeA]) (hT:LTabs w.heap.size w) (hO:OpsAt w.heap.size w) (hP:Vl.Tabs7 w.heap.size w) (hM:ML w) :
  Calls Tryz.prog 12 #[v,nv] w fun e w' => ∃ sv,e = .returned (.tuple #[sv,.int .i64 0]) ∧ StyRow w.heap.size w' sv [lookA] ∧ Below w.heap.size w w':=by
 have h1:=Dm.new_any nv [nodeA] w hN (fun n hn => by
  obtain rfl:n = _:=List.mem_singleton.1 hn
  exact nodeA_ok)
 obtain ⟨pb,cb,rfl⟩:=bytes_list hB
 obtain ⟨pn,cn,rfl⟩:=hN.row.len
 have HT:Hid (BytesAt w.heap.size w (.slice pb cssB.length cb) cssB ∧ LTabs w.heap.size w ∧ OpsAt w.heap.size w ∧ Vl.Tabs7 w.heap.size w ∧ ML w):=⟨hB,hT,hO,hP,hM⟩
 clear hB hT hO hP hM hN
 rw [show cssB.length = 24 from rfl]
 go_enter Tryz.func12,Tryz.ntmps12
 go_wp2_with fail
 refine h1.mono ?_
 clear h1
 rintro e w1 ⟨hm,b1⟩
 unfold Made at hm
 rcases hm with ⟨tb,g,cap,qs,hV,rfl,hT⟩ | ⟨x,hV,_⟩
 ·have hV':qs.map Em.e = esA:=by have h:=newA;rw [hV] at h;exact Except.ok.inj h
  have h2:=sheet_any (.slice pb 24 cb) w1 ((HT.out.1.below b1).mono b1.size) (HT.out.2.1.next b1) (ops_next HT.out.2.2.1 b1) (HT.out.2.2.2.1.next b1)
  have HV:Hid (Tr w.heap.size w1 tb g cap qs ∧ qs.map Em.e = esA ∧ Below w.heap.size w w1):=⟨hT,hV',b1⟩
  clear hT hV hV' b1
  go_wp2_with fail
  refine h2.mono ?_
  clear h2
  rintro e w2 ⟨x1,x2,p,c,rfl,hR,e1,e2,s1,s2,b2⟩
  have hG:GoodM w2 tb esA:=⟨⟨_,g,cap,qs,HV.out.1.next b2,HV.out.2.1⟩,okA,by decide,ndsA,shortA,(HT.out.2.2.2.2.next HV.out.2.2).next b2⟩
  have hA:RulesAsk 137 (.pointer (some ⟨tb,0,none⟩)) (selectorV esA) w2 [x1,x2]:=fun x hx => by
   simp only [List.mem_cons,List.not_mem_nil,or_false] at hx
   rcases hx with rfl | rfl
   ·have e3:x.r.1 = [aSel]:=by rw [e1];rfl
    have s1':SelsR 9 w2.heap.size w2 (.slice x.sp 1 x.sc) [aSel]:=by unfold Rv.sv at s1;rw [e3] at s1;exact s1
    rw [e3]
    exact ⟨ask_a hG noatA s1',by decide⟩
   ·have e3:x.r.1 = [aSel]:=by rw [e2];rfl
    have s2':SelsR 9 w2.heap.size w2 (.slice x.sp 1 x.sc) [aSel]:=by unfold Rv.sv at s2;rw [e3] at s2;exact s2
    rw [e3]
    exact ⟨ask_a hG noatA s2',by decide⟩
  have h3:=run_any tb esA (selectorV esA) p c [x1,x2] w2 _ g cap qs (HV.out.1.next b2) HV.out.2.1 okA hR hA (by simp) ((HT.out.2.2.2.1.next HV.out.2.2).next b2).2 (by decide)
  simp only [List.map_cons,List.map_nil,e1,e2] at h3
  rw [runA] at h3
  simp only [List.length_cons,List.length_nil,Nat.zero_add,Nat.reduceAdd] at h3
  have b02:=below_next HV.out.2.2 b2
  clear hR e1 e2 s1 s2 hG hA b2
  go_wp2_with fail
  refine h3.mono ?_
  clear h3
  rintro e w3 ⟨sv,rfl,hS,b3⟩
  have b03:=below_next b02 b3
  have hS0:StyRow w.heap.size w3 sv [lookA]:=owns_base hS b02.size
  obtain ⟨q,c4,rfl⟩:=Sl.owns_form hS0
  have HS0:Hid (_ ∧ _):=⟨hS0,b03⟩
  go_wp2
  refine bodyPost_ret (results_tmp2 (t:=4) (u:=5) rfl _ _ _) rfl ?_
  exact ⟨_,rfl,HS0.out.1,HS0.out.2⟩
 ·have h:=newA
  rw [hV] at h
  cases h
theorem num_any (x:Int) (w:World):Calls Tryz.prog 14 #[.int .i64 x] w fun e w' => e = .returned (.int .i64 x) ∧ w' = w:=by
 go_enter Tryz.func14,Tryz.ntmps14
 go_wp2
 go_ret
 exact ⟨rfl,rfl⟩
set_option maxHeartbeats 1000000 in
theorem live_any (w:World) (hT:LTabs w.heap.size w) (hO:OpsAt w.heap.size w) (hP:Vl.Tabs7 w.heap.size w) (hM:ML w):Calls Tryz.prog 8 #[] w fun e w' => e = .returned (.bool true) ∧ Below w.heap.size w w':=by
 obtain ⟨W1,hW1⟩:∃ W1,w.alloc (.cells #[.int .u8 97,.int .u8 123,.int .u8 119,.int .u8 105,.int .u8 100,.int .u8 116,.int .u8 104,.int .u8 58,.int .u8 49,.int .u8 112,.int .u8 120,.int .u8 125,.int .u8 97,.int .u8 123,.int .u8 119,.int .u8 105,.int .u8 100,.int .u8 116,.int .u8 104,.int .u8 58,.int .u8 50,.int .u8 112,.int .u8 120,.int .u8 125] 5 (24,24 + 1)) = W1:=⟨_,rfl⟩
 have b1:Below w.heap.size w W1:=by rw [← hW1];exact (Below.refl _ _).alloc (Nat.le_refl _) _
 have s1:W1.heap.size = w.heap.size + 1:=by rw [← hW1];simp
 have hB1:BytesAt (w.heap.size + 1) W1 (.slice (some ⟨w.heap.size,0,none⟩) 24 24) cssB:=by rw [← hW1];exact bytes_new w cssB 5 (24,24 + 1) (by decide)
 have hcv:(convert 22 22 (.slice (some ⟨w.heap.size,0,none⟩) 24 24)).run Tryz.prog (w.alloc (.cells #[.int .u8 97,.int .u8 123,.int .u8 119,.int .u8 105,.int .u8 100,.int .u8 116,.int .u8 104,.int .u8 58,.int .u8 49,.int .u8 112,.int .u8 120,.int .u8 125,.int .u8 97,.int .u8 123,.int .u8 119,.int .u8 105,.int .u8 100,.int .u8 116,.int .u8 104,.int .u8 58,.int .u8 50,.int .u8 112,.int .u8 120,.int .u8 125] 5)) = .ok (.slice (some ⟨w.heap.size,0,none⟩) 24 24) W1:=by rw [← hW1];exact Lib.run_convert_bytes_const (P:=Tryz.prog) w 22 5 #[.int .u8 97,.int .u8 123,.int .u8 119,.int .u8 105,.int .u8 100,.int .u8 116,.int .u8 104,.int .u8 58,.int .u8 49,.int .u8 112,.int .u8 120,.int .u8 125,.int .u8 97,.int .u8 123,.int .u8 119,.int .u8 105,.int .u8 100,.int .u8 116,.int .u8 104,.int .u8 58,.int .u8 50,.int .u8 112,.int .u8 120,.int .u8 125] 24 24 Tryz.underlying22 Tryz.underlying5
 obtain ⟨W2,hW2⟩:∃ W2,W1.alloc (.cells #[.int .i64 (-1),.string ⟨#[97]⟩,.string ⟨#[]⟩,.slice none 0 0,.slice none 0 0] 65) = W2:=⟨_,rfl⟩
 have b2:Below W1.heap.size W1 W2:=by rw [← hW2];exact (Below.refl _ _).alloc (Nat.le_refl _) _
 have k2:Dm.Blk W2 W1.heap.size 65 ([nodeA].flatMap nvCells):=by rw [← hW2];exact Dm.Blk.new W1 65 ([nodeA].flatMap nvCells)
 have hN:=Dm.nodes_new k2 (by decide) (fun n h => by
  obtain rfl:n = _:=List.mem_singleton.1 h
  exact Dm.strs_nil _ _) (fun n h => by
  obtain rfl:n = _:=List.mem_singleton.1 h
  exact Dm.pairs_nil _ _)
 have b12:=below_next b1 b2
 have hB2:BytesAt W2.heap.size W2 (.slice (some ⟨w.heap.size,0,none⟩) 24 24) cssB:=(hB1.below (b2.mono (by omega))).mono (by have:=b2.size;omega)
 have hsp:=spec_a _ _ W2 hB2 hN (hT.next b12) (ops_next hO b12) (hP.next b12) (hM.next b12)
 have HB:Hid (Below w.heap.size w W2):=b12
 clear hT hO hP hM hB1 hB2 hN k2 b1 b2 b12
 rw [s1] at hsp
 go_enter Tryz.func8,Tryz.ntmps8
 go_wp2_with fail
 refine hsp.mono ?_
 clear hsp
 rintro e w3 ⟨sv,rfl,hS,b3⟩
 have b03:=below_next HB.out b3
 obtain ⟨g,c,rfl,h1,h2,_,hg,hsrc⟩:=sty_row hS (k:=0) (s:=lookA) rfl
 have x4:w3.cell? ⟨g,4,none⟩ = some (.int .i64 2000):=by have:=hsrc 4 (by decide);rw [lookA4] at this;simpa using this
 have x1:w3.cell? ⟨g,1,none⟩ = some (.int .i64 16000):=by have:=hsrc 1 (by decide);rw [lookA1] at this;simpa using this
 simp only [List.length_cons,List.length_nil,Nat.zero_add] at h1 ⊢
 unfold maxLen at h2
 have hnum:=num_any 0 w3
 clear hS hsrc hW1 hW2 hcv
 go_wp2_with fail
 refine hnum.mono ?_
 clear hnum
 rintro e w4 ⟨rfl,rfl⟩
 go_wp2
 go_ret
 exact ⟨rfl,b03⟩
end Go.Proofs.YtagbjmocjaaioaaGreatDoor.Sq
