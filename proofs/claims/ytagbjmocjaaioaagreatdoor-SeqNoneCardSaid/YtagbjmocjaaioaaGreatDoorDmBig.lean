/- The laws' own Big: what it tells where it says no. -/
import Derived.Test.YtagbjmocjaaioaaGreatDoorDmAlive
set_option maxRecDepth 100000
namespace Go.Proofs.YtagbjmocjaaioaaGreatDoor.Dm
open Go Go.RowKit
def SmallN (n:Nd):Prop:=n.cls.length ≤ 8 ∧ n.ats.length ≤ 8 ∧ n.tag.size ≤ 60 ∧ n.id.size ≤ 60 ∧ (∀ s ∈ n.cls,s.size ≤ 60) ∧ ∀ a ∈ n.ats,a.1.size ≤ 60 ∧ a.2.size ≤ 100
def Bigs2 (l:List Nv) (w:World) (e:Ending) (w':World):Prop:=∃ b,e = .returned (.bool b) ∧ w' = w ∧ (b = false → (l.length ≤ 40 ∧ ∀ n ∈ l,SmallN n.nd) ∨ 4096 < l.length)
theorem Bigs.yes (l:List Nv) (w:World):Bigs2 l w (.returned (.bool true)) w:=⟨true,rfl,rfl,fun h => by cases h⟩
theorem Bigs.no {l:List Nv} (w:World) (h:(l.length ≤ 40 ∧ ∀ n ∈ l,SmallN n.nd) ∨ 4096 < l.length):Bigs2 l w (.returned (.bool false)) w:=⟨false,rfl,rfl,fun _ => h⟩
theorem mem_take_more {α:Type} {l:List α} {k:Nat} {x y:α} (h:l[k]? = some x) (hy:y ∈ l.take (k + 1)):y ∈ l.take k ∨ y = x:=by
 obtain ⟨hk,rfl⟩:=List.getElem?_eq_some_iff.1 h
 rw [List.take_succ_eq_append_getElem hk,List.mem_append,List.mem_singleton] at hy
 exact hy
theorem hid_take {α:Type} {l:List α} {k:Nat} {x:α} {P:α → Prop} (H:Hid (∀ y ∈ l.take k,P y)) (h:l[k]? = some x) (hx:P x):Hid (∀ y ∈ l.take (k + 1),P y):=fun y hy => by
 rcases mem_take_more h hy with hy | rfl
 ·exact H.out y hy
 ·exact hx
set_option maxHeartbeats 8000000 in
theorem big_small (v:Value) (l:List Nv) (w:World) (hv:NodesAt w.heap.size w v l) :
  Calls Tryz.prog 9 #[v] w (Bigs2 l w):=by
 obtain ⟨p,cap,rfl⟩:=hv.row.len
 have hsh:=hv.row.short
 go_enter Tryz.func9,Tryz.ntmps9
 go_wp2
 go_loop [3] (fun i => ∃ k:Nat,i = .int .i64 k ∧ k ≤ l.length ∧ Hid (∀ n ∈ l.take k,SmallN n.nd)) (fun i => l.length - (intOf i).toNat)
 case atStart => exact ⟨0,rfl,Nat.zero_le _,fun n hn => by simp at hn⟩
 case round =>
  obtain ⟨k,rfl,hk,HSM⟩:=hrel
  by_cases hlt:k < l.length ∧ k < 100
  ·obtain ⟨hlt,h100⟩:=hlt
   have hki:(k:Int) < (l.length:Int):=by omega
   have hkj:(k:Int) < 100:=by omega
   have hlk:l[k]? = some l[k]:=List.getElem?_eq_getElem hlt
   have hck:=hv.cls _ (List.getElem_mem hlt)
   have hak:=hv.ats _ (List.getElem_mem hlt)
   obtain ⟨bk,off,rfl,hbk,hcap,hmx,hcell⟩:=hv.row.get hlk
   have x1:=hcell 1 _ rfl
   have x2:=hcell 2 _ rfl
   have x3:=hcell 3 _ rfl
   have x4:=hcell 4 _ rfl
   unfold maxLen at hmx
   have HLK:Hid (l[k]? = some l[k]):=hlk
   clear hcell hlk hv
   generalize l[k] = n at *
   obtain ⟨⟨parent,tag,id,cls,ats⟩,cv,av⟩:=n
   simp only at x1 x2 x3 x4 hck hak
   have hcs:=hck.short
   have has:=hak.short
   obtain ⟨pc,cc,rfl⟩:=hck.len
   obtain ⟨pa,ca,rfl⟩:=hak.len
   by_cases g1:8 < cls.length
   ·have g1':(8:Int) < (cls.length:Int):=by omega
    clear hck hak
    go_wp2
    go_ret
    exact Bigs.yes _ _
   have g1':decide ((8:Int) < (cls.length:Int)) = false:=decide_eq_false (by omega)
   by_cases g2:8 < ats.length
   ·have g2':(8:Int) < (ats.length:Int):=by omega
    clear hck hak
    go_wp2
    go_ret
    exact Bigs.yes _ _
   have g2':decide ((8:Int) < (ats.length:Int)) = false:=decide_eq_false (by omega)
   by_cases g3:60 < tag.size
   ·have g3':(60:Int) < (tag.size:Int):=by omega
    clear hck hak
    go_wp2
    go_ret
    exact Bigs.yes _ _
   have g3':decide ((60:Int) < (tag.size:Int)) = false:=decide_eq_false (by omega)
   by_cases g4:60 < id.size
   ·have g4':(60:Int) < (id.size:Int):=by omega
    clear hck hak
    go_wp2
    go_ret
    exact Bigs.yes _ _
   have g4':decide ((60:Int) < (id.size:Int)) = false:=decide_eq_false (by omega)
   go_wp2
   go_loop [4] (fun i => ∃ j:Nat,i = .int .i64 j ∧ j ≤ cls.length ∧ Hid (∀ s ∈ cls.take j,s.size ≤ 60)) (fun i => cls.length - (intOf i).toNat)
   case atStart => exact ⟨0,rfl,Nat.zero_le _,fun n hn => by simp at hn⟩
   case round =>
    obtain ⟨j,rfl,hj,HCS⟩:=hrel
    by_cases hjl:j < cls.length
    ·have hji:(j:Int) < (cls.length:Int):=by omega
     obtain ⟨bc,oc,rfl,_,hcc1,hcc2,hcellc⟩:=hck.get (List.getElem?_eq_getElem hjl)
     have y0:=hcellc 0 _ rfl
     simp only [Nat.mul_one,Nat.add_zero] at y0
     unfold maxLen at hcc2
     have HCJ:Hid (cls[j]? = some cls[j]):=List.getElem?_eq_getElem hjl
     generalize cls[j] = s at *
     clear hck hak hcellc
     by_cases g5:60 < s.size
     ·have g5':(60:Int) < (s.size:Int):=by omega
      go_wp2
      go_ret
      exact Bigs.yes _ _
     ·have g5':¬ (60:Int) < (s.size:Int):=by omega
      have HCS1:=hid_take HCS HCJ.out (show s.size ≤ 60 by omega)
      clear HCS HCJ
      go_wp2
      first | exact ⟨⟨j + 1,by go_num,by omega,HCS1⟩,by simp [intOf];omega⟩ | (go_round;case rel => exact ⟨j + 1,by go_num,by omega,HCS1⟩;case measure => simp [intOf];omega)
    ·have hji:¬ (j:Int) < (cls.length:Int):=by omega
     clear hck
     have HCA:Hid (∀ s ∈ cls,s.size ≤ 60):=by
      have h:=HCS.out
      rw [List.take_of_length_le (by omega)] at h
      exact h
     clear HCS
     go_wp2
     go_loop [5] (fun i => ∃ j:Nat,i = .int .i64 j ∧ j ≤ ats.length ∧ Hid (∀ a ∈ ats.take j,a.1.size ≤ 60 ∧ a.2.size ≤ 100)) (fun i => ats.length - (intOf i).toNat)
     case atStart => exact ⟨0,rfl,Nat.zero_le _,fun n hn => by simp at hn⟩
     case round =>
      obtain ⟨j2,rfl,hj2,HAS⟩:=hrel
      by_cases hjl2:j2 < ats.length
      ·have hji2:(j2:Int) < (ats.length:Int):=by omega
       obtain ⟨bc,oc,rfl,_,hcc1,hcc2,hcellc⟩:=hak.get (List.getElem?_eq_getElem hjl2)
       have y0:=hcellc 0 _ rfl
       have y1:=hcellc 1 _ rfl
       simp only [Nat.add_zero] at y0
       unfold maxLen at hcc2
       have HAJ:Hid (ats[j2]? = some ats[j2]):=List.getElem?_eq_getElem hjl2
       generalize ats[j2] = a at *
       obtain ⟨a1,a2⟩:=a
       simp only at y0 y1
       clear hak hcellc
       by_cases g6:60 < a1.size
       ·have g6':(60:Int) < (a1.size:Int):=by omega
        go_wp2
        go_ret
        exact Bigs.yes _ _
       have g6':decide ((60:Int) < (a1.size:Int)) = false:=decide_eq_false (by omega)
       by_cases g7:100 < a2.size
       ·have g7':(100:Int) < (a2.size:Int):=by omega
        go_wp2
        go_ret
        exact Bigs.yes _ _
       have g7':decide ((100:Int) < (a2.size:Int)) = false:=decide_eq_false (by omega)
       have HAS1:=hid_take HAS HAJ.out (show a1.size ≤ 60 ∧ a2.size ≤ 100 by omega)
       clear HAS HAJ
       go_wp2
       first | exact ⟨⟨j2 + 1,by go_num,by omega,HAS1⟩,by simp [intOf];omega⟩ | (go_round;case rel => exact ⟨j2 + 1,by go_num,by omega,HAS1⟩;case measure => simp [intOf];omega)
      ·have hji2:¬ (j2:Int) < (ats.length:Int):=by omega
       clear hak
       have HSM1:=hid_take HSM HLK.out (show SmallN _ from ⟨by simp only;omega,by simp only;omega,by simp only;omega,by simp only;omega,HCA.out,by
        have h:=HAS.out
        rw [List.take_of_length_le (by omega)] at h
        exact h⟩)
       clear HSM HLK HCA HAS
       go_wp2
       first | exact ⟨⟨k + 1,by go_num,by omega,HSM1⟩,by simp [intOf];omega⟩ | (go_round;case rel => exact ⟨k + 1,by go_num,by omega,HSM1⟩;case measure => simp [intOf];omega)
  ·clear hv
   by_cases hl:k < l.length
   ·have hki:(k:Int) < (l.length:Int):=by omega
    have hkj:¬ (k:Int) < 100:=by omega
    have h40:(40:Int) < (l.length:Int):=by omega
    by_cases h41:(l.length:Int) ≤ 4096
    ·go_wp2
     go_ret
     exact Bigs.yes _ _
    ·have h41':decide ((l.length:Int) ≤ 4096) = false:=decide_eq_false h41
     by_cases h42:(4100:Int) < (l.length:Int)
     ·go_wp2
      go_ret
      exact Bigs.yes _ _
     ·have h42':decide ((4100:Int) < (l.length:Int)) = false:=decide_eq_false h42
      go_wp2
      go_ret
      exact Bigs.no _ (.inr (by omega))
   ·have hki:¬ (k:Int) < (l.length:Int):=by omega
    have HALL:Hid (∀ n ∈ l,SmallN n.nd):=by
     have h:=HSM.out
     rw [List.take_of_length_le (by omega)] at h
     exact h
    clear HSM
    by_cases h40:(40:Int) < (l.length:Int)
    ·by_cases h41:(l.length:Int) ≤ 4096
     ·go_wp2
      go_ret
      exact Bigs.yes _ _
     ·have h41':decide ((l.length:Int) ≤ 4096) = false:=decide_eq_false h41
      by_cases h42:(4100:Int) < (l.length:Int)
      ·go_wp2
       go_ret
       exact Bigs.yes _ _
      ·have h42':decide ((4100:Int) < (l.length:Int)) = false:=decide_eq_false h42
       go_wp2
       go_ret
       exact Bigs.no _ (.inr (by omega))
    ·have h40':decide ((40:Int) < (l.length:Int)) = false:=decide_eq_false h40
     by_cases h42:(4100:Int) < (l.length:Int)
     ·omega
     ·have h42':decide ((4100:Int) < (l.length:Int)) = false:=decide_eq_false h42
      go_wp2
      go_ret
      exact Bigs.no _ (.inl ⟨by omega,HALL.out⟩)
end Go.Proofs.YtagbjmocjaaioaaGreatDoor.Dm
