/- The bytes of code points: text.Bytes and the document's own Bytes, at every list of integers that is not too long: one list of bytes. -/
import Derived.Test.YtagbjmocjaaioaaGreatDoorSame
import Derived.Lib.RuneBytes
set_option maxRecDepth 100000
namespace Go.Proofs.YtagbjmocjaaioaaGreatDoor
open Go Go.RowKit Go.Shelf
set_option maxHeartbeats 400000 in
theorem encodable_any (c:Int) (w:World):Calls Tryz.prog 292 #[.int .i64 c] w fun e w' => e = .returned (.int .i32 (fixC c)) ∧ w' = w:=by
 by_cases h1:c < 0
 ·rw [fixC_no (rightB_false (by omega))]
  go_enter Tryz.func292,Tryz.ntmps292
  go_wp2
  go_ret
  exact ⟨rfl,rfl⟩
 ·by_cases h2:1114111 < c
  ·rw [fixC_no (rightB_false (by omega))]
   go_enter Tryz.func292,Tryz.ntmps292
   go_wp2
   go_ret
   exact ⟨rfl,rfl⟩
  ·have hv:Lib.validRune c = rightB c:=by
    unfold Lib.validRune rightB
    rw [decide_eq_decide]
    omega
   have h1':(0:Int) ≤ c:=by omega
   have h2':c ≤ 1114111:=by omega
   cases hb:rightB c
   ·rw [fixC_no hb]
    rw [hb] at hv
    clear hb
    go_enter Tryz.func292,Tryz.ntmps292
    go_wp2_with (go_at_call 324;refine (Tryz.utf8_ValidRune _ _).mono ?_;rintro e w2 ⟨rfl,rfl⟩)
    go_ret
    exact ⟨rfl,rfl⟩
   ·rw [fixC_yes hb]
    rw [hb] at hv
    clear hb
    go_enter Tryz.func292,Tryz.ntmps292
    go_wp2_with (go_at_call 324;refine (Tryz.utf8_ValidRune _ _).mono ?_;rintro e w2 ⟨rfl,rfl⟩)
    go_ret
    exact ⟨rfl,rfl⟩
theorem infoByte:(Tryz.prog.info? 5).map (fun i => (i.zero,i.size,i.bytes)) = some (some (.int .u8 0),1,1):=by kernel_rfl
theorem cells_new (w:World) (l:List Value) (ty:TypeId):∀ j u,l[j]? = some u → (w.alloc (.cells l.toArray ty)).cell? ((⟨w.heap.size,0,none⟩:Addr).add j) = some u:=fun j u hj => by
 rw [show (⟨w.heap.size,0,none⟩:Addr).add j = ⟨w.heap.size,j,none⟩ from by
  cases j with
  | zero => rfl
  | succ j => simp [Addr.add]]
 rw [cell_of_block (World.alloc_heap_new w _) j]
 simpa using hj
/-! ### The bytes of a list -/
def ubytes (l:List UInt8):List Value:=l.map fun u => Value.int .u8 u.toNat
def enc1 (c:Int):List UInt8:=Lib.encodeRune (fixC c)
def encs (l:List Int):List UInt8:=l.flatMap enc1
theorem ubytes_enc1 (c:Int):ubytes (enc1 c) = Lib.runeCells (fixC c):=by
 rw [← Lib.byteCells_encodeRune]
 rfl
theorem enc1_len (c:Int):1 ≤ (enc1 c).length ∧ (enc1 c).length ≤ 4:=by
 unfold enc1
 rw [← Lib.runeCells_length]
 exact Lib.runeCells_le _
theorem encs_snoc (l:List Int) (c:Int):encs (l ++ [c]) = encs l ++ enc1 c:=by simp [encs]
theorem encs_len (l:List Int):(encs l).length ≤ 4 * l.length:=by
 induction l with
 | nil => simp [encs]
 | cons c t ih =>
  have:=enc1_len c
  have e:encs (c :: t) = enc1 c ++ encs t:=by simp [encs]
  rw [e]
  simp
  omega
theorem ubytes_append (a b:List UInt8):ubytes (a ++ b) = ubytes a ++ ubytes b:=by simp [ubytes]
theorem ubytes_length (a:List UInt8):(ubytes a).length = a.length:=by simp [ubytes]
theorem BytesAt.of_owns {X:World} {b:Nat} {e:TypeId} {v:Value} {l:List UInt8} {m:Nat} (h:X.ownsRow b e 1 v m (ubytes l)) (hm:m = l.length):BytesAt X.heap.size X v l:=by
 subst hm
 rcases owns_cells h with ⟨rfl,h2,h3⟩ | ⟨g,cap,rfl,h1,h2,h3,h4,h5⟩
 ·exact .inl ⟨List.length_eq_zero_iff.1 h2,.inl rfl⟩
 ·exact .inr ⟨g,0,cap,rfl,h1,h2,h4,fun j u hj => h5 j _ (by unfold ubytes;rw [List.getElem?_map,hj];rfl)⟩
theorem below_grown {w X Y:World} {e:TypeId} {size:Nat} {v:Value} {k:Nat} {xs:List Value} {o:Obj} (hb:Below w.heap.size w X) (hrow:X.ownsRow w.heap.size e size v k xs) (hg:(X.alloc o).grownBy Y v.ownBlock):Below w.heap.size w Y:=
 (hb.alloc hb.size o).grown hg (by have:=hb.size;simp;omega) (fun j ej => (hrow.lt j ej).1)
set_option maxHeartbeats 2000000 in
theorem bytes_any (v:Value) (l:List Int) (w:World) (hI:IntsAt w.heap.size w v l) (hl:l.length ≤ 1000000) :
  Calls Tryz.prog 265 #[v] w fun e w' => ∃ v',e = .returned v' ∧ w'.ownsRow w.heap.size 5 1 v' (encs l).length (ubytes (encs l)) ∧ Below w.heap.size w w':=by
 obtain ⟨i0,hi,hz0,hz1,hz2⟩:=info_parts infoByte
 obtain ⟨p,cap,rfl⟩:=hI.len
 go_enter Tryz.func265,Tryz.ntmps265
 go_wp2_with (at_make;refine wpList_make_own _ rfl _ _ 22 rfl w.heap.size 5 i0 (.int .u8 0) 1 Tryz.underlying22 hi hz0 hz1 .i64 .i64 l.length l.length rfl rfl rfl (by rw [hz2];omega) (by unfold maxLen;omega) (Nat.le_refl _) ?_;intro w1 hrow0 hgrow0)
 have hb0:Below w.heap.size w w1:=(Below.refl _ w).grown hgrow0 (Nat.le_refl _) (fun _ e => by cases e)
 go_loopw [3,11] (fun o i wr => ∃ k:Nat,i = .int .i64 k ∧ k ≤ l.length ∧ wr.ownsRow w.heap.size 5 1 o (encs (l.take k)).length (ubytes (encs (l.take k))) ∧ Below w.heap.size w wr)
  (fun _ i _ => l.length - (intOf i).toNat)
 case atStart => exact ⟨0,rfl,Nat.zero_le _,hrow0,hb0⟩
 case round =>
  obtain ⟨k,rfl,hk,hrow,hb⟩:=hrel
  by_cases hlt:k < l.length
  ·obtain ⟨bk,off,hp,hbk,hcells⟩:∃ bk off,p = some ⟨bk,off,none⟩ ∧ bk < w.heap.size ∧ ∀ j u,l[j]? = some u → wr.cell? ⟨bk,off + j,none⟩ = some (.int .i64 u):=by
    rcases hI.below hb with ⟨rfl,_⟩ | ⟨bk,off,c,e,e1,e2,e3,h⟩
    ·simp at hlt
    ·cases e;exact ⟨bk,off,rfl,e3,h⟩
   subst hp
   have c0:=hcells k _ (List.getElem?_eq_getElem hlt)
   have hlen:=encs_len (l.take k)
   have htl:(l.take k).length = k:=by simp;omega
   have HT:Hid (encs (l.take (k + 1)) = encs (l.take k) ++ enc1 l[k]):=by
    show _ = _
    rw [List.take_succ_eq_append_getElem hlt,encs_snoc]
   have hfx:=fixC_right l[k]
   have hput:=Tryz.utf8_AppendRune_plain w.heap.size _ (encs (l.take k)).length (ubytes (encs (l.take k))) (fixC l[k]) (by omega) (by omega) wr hrow (by omega) hb.size
   have henc:=fun w => encodable_any l[k] w
   rw [← ubytes_enc1,← ubytes_append,ubytes_length] at hput
   have hki:(k:Int) < (l.length:Int):=by omega
   clear hcells hI hlen htl
   generalize l[k] = c at *
   clear hfx
   go_wp2_with fail
   refine (henc _).mono ?_
   clear henc
   rintro e w' ⟨rfl,rfl⟩
   go_wp2_with fail
   refine hput.mono ?_
   clear hput
   rintro e w2 ⟨v2,rfl,hr2,o2,hg2⟩
   have hb2:=below_grown hb hrow hg2
   go_wp2
   refine ⟨⟨k + 1,by go_num,by omega,?_,hb2⟩,by simp [intOf];omega⟩
   rw [show encs (l.take (k + 1)) = _ from HT,List.length_append]
   exact hr2
  ·have hki:¬ (k:Int) < (l.length:Int):=by omega
   have e:l.take k = l:=List.take_of_length_le (by omega)
   rw [e] at hrow
   clear e
   go_wp2
   go_ret
   exact ⟨_,rfl,hrow,hb⟩
end Go.Proofs.YtagbjmocjaaioaaGreatDoor
