/- package match: which of a node's attributes has a name. -/
import Derived.Test.YtagbjmocjaaioaaGreatDoorMtName
set_option maxRecDepth 100000
namespace Go.Proofs.YtagbjmocjaaioaaGreatDoor.Mt
open Go.Proofs.YtagbjmocjaaioaaGreatDoor.Tre
open Go Go.RowKit Dm
set_option maxHeartbeats 1000000 in
theorem attr1_any (nm tx:ByteArray) (a:At) (w:World) (Ba:Nat) (ka:Blk w Ba 231 (atCells a)) :
  Calls Tryz.prog 333 #[.agg #[.string nm,.string tx],.pointer (some ⟨Ba,0,none⟩)] w fun r w' => r = .returned (.bool (decide (nm = a.name))) ∧ Below w.heap.size w w':=by
 obtain ⟨w1,hw1⟩:∃ w1,w.alloc (.cells #[.string nm,.string tx] 67) = w1:=⟨_,rfl⟩
 have b1:Below w.heap.size w w1:=by rw [← hw1];exact (Below.refl _ _).alloc (Nat.le_refl _) _
 have k1:Blk w1 w.heap.size 67 [.string nm,.string tx]:=by rw [← hw1];exact Blk.new w 67 [.string nm,.string tx]
 obtain ⟨⟨y0,_⟩,_⟩:=blk2 k1
 have z0:w1.cell? ⟨Ba,0,none⟩ = some (.string a.name):=by
  have k:=ka.next b1
  simp [World.cell?,show w1.heap[Ba]? = _ from k,atCells]
 clear k1 ka
 by_cases he:nm = a.name
 ·rw [decide_eq_true he]
  rw [← he] at z0
  clear he
  go_enter Tryz.func333,Tryz.ntmps333
  go_wp2
  go_ret
  exact ⟨rfl,b1⟩
 ·have he':(nm.toList == a.name.toList) = false:=beq_false he
  rw [decide_eq_false he]
  clear he
  go_enter Tryz.func333,Tryz.ntmps333
  go_wp2
  go_ret
  exact ⟨rfl,b1⟩
def PairK (l:List (ByteArray × ByteArray)) (a:At) (r:Ending):Prop:=
 (∃ (i:Nat) (p:ByteArray × ByteArray),r = .returned (.int .i64 i) ∧ l[i]? = some p ∧ l.find? (fun p => decide (p.1 = a.name)) = some p) ∨ (r = .returned (.int .i64 (-1)) ∧ l.find? (fun p => decide (p.1 = a.name)) = none)
set_option maxHeartbeats 2000000 in
theorem indexPair_any (v:Value) (l:List (ByteArray × ByteArray)) (a:At) (w:World) (hv:PairsAt w.heap.size w v l) (Ba:Nat) (ka:Blk w Ba 231 (atCells a)) :
  Calls Tryz.prog 332 #[v,.func (.func 333) #[] #[.pointer (some ⟨Ba,0,none⟩)]] w fun r w' =>
   PairK l a r ∧ Below w.heap.size w w':=by
 have hl:=hv.short
 obtain ⟨p,cap,rfl⟩:=hv.len
 have HV:Hid (PairsAt w.heap.size w (.slice p l.length cap) l):=hv
 have KA:Hid (Blk w Ba 231 (atCells a)):=ka
 clear hv ka
 go_enter Tryz.func332,Tryz.ntmps332
 go_wp2
 go_loopw [8] (fun y wr => ∃ i:Nat,y = .int .i64 i ∧ i ≤ l.length ∧ (l.take i).find? (fun p => decide (p.1 = a.name)) = none ∧ Below w.heap.size w wr) (fun y _ => l.length - (intOf y).toNat)
 case atStart => exact ⟨0,rfl,Nat.zero_le _,rfl,Below.refl _ _⟩
 case round =>
  obtain ⟨i,rfl,hi,hno,bw⟩:=hrel
  have HNO:Hid (_ = _):=hno
  clear hno
  by_cases hlt:i < l.length
  ·obtain ⟨s,hs⟩:∃ s,l[i]? = some s:=⟨_,List.getElem?_eq_getElem hlt⟩
   obtain ⟨bk,off,rfl,hbk,hcap,hmx,ha⟩:=(HV.out.below bw).get hs
   have a0:=ha 0 _ rfl
   have a1:=ha 1 _ rfl
   simp only [Nat.add_zero] at a0
   unfold maxLen at hmx
   have h:=attr1_any s.1 s.2 a wr Ba (KA.out.next bw)
   have HS:Hid (_ = _):=hs
   have hii:(i:Int) < (l.length:Int):=by omega
   clear ha hs
   go_wp2_with fail
   refine h.mono ?_
   clear h a0 a1
   rintro r x ⟨rfl,b2⟩
   have b3:=below_next bw b2
   clear b2
   have htk:(l.take (i + 1)).find? (fun p => decide (p.1 = a.name)) = if decide (s.1 = a.name) then some s else none:=by
    rw [List.take_add_one,show l[i]? = some s from HS.out,List.find?_append,show (l.take i).find? _ = none from HNO.out]
    simp [List.find?_cons]
    split <;> simp_all
   cases hd:decide (s.1 = a.name) with
   | true =>
    have FIN:Hid (l.find? (fun p => decide (p.1 = a.name)) = some s):=by
     show _ = _
     rw [← List.take_append_drop (i + 1) l,List.find?_append,htk,hd]
     rfl
    clear hd htk
    go_wp2
    go_ret
    exact ⟨.inl ⟨i,s,rfl,HS.out,FIN.out⟩,b3⟩
   | false =>
    have FIN:Hid ((l.take (i + 1)).find? (fun p => decide (p.1 = a.name)) = none):=by
     show _ = _
     rw [htk,hd]
     rfl
    clear hd htk
    go_wp2
    exact ⟨⟨i + 1,by go_num,by omega,FIN.out,b3⟩,by simp [intOf];omega⟩
  ·have hii:¬ ((i:Int) < (l.length:Int)):=by omega
   obtain rfl:i = l.length:=by omega
   have FIN:Hid (l.find? (fun p => decide (p.1 = a.name)) = none):=by
    have h:=HNO.out
    rw [List.take_length] at h
    exact h
   go_wp2
   go_ret
   exact ⟨.inr ⟨rfl,FIN.out⟩,bw⟩
end Go.Proofs.YtagbjmocjaaioaaGreatDoor.Mt
