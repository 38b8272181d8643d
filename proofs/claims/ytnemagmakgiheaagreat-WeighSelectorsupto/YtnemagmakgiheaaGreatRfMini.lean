/- The document's own has (tapestrierref9), and small facts on texts (a seat without buckets). -/
import Derived.Test.YtnemagmakgiheaaGreatWgMem
import Derived.Deep.QuietTactic
set_option maxRecDepth 100000
namespace Go.Proofs.YtnemagmakgiheaaGreat.Bk
open Go.Proofs.YtnemagmakgiheaaGreat.Tre
open Go Go.RowKit Sl Wg
theorem infoS:(Tryz.prog.info? 9).map (fun i => (i.zero,i.size,i.bytes)) = some (some (.string ⟨#[]⟩),1,16):=by kernel_rfl
theorem info_of {e:TypeId} {z:Value} {s b:Nat} (h:(Tryz.prog.info? e).map (fun i => (i.zero,i.size,i.bytes)) = some (some z,s,b)):∃ i,Tryz.prog.info? e = some i ∧ i.zero = some z ∧ i.size = s ∧ i.bytes = b:=by
 obtain ⟨i,hi,e⟩:=Option.map_eq_some_iff.1 h
 simp only [Prod.mk.injEq] at e
 exact ⟨i,hi,e.1,e.2.1,e.2.2⟩
def mB {α:Type} [DecidableEq α] (x:α) (l:List α):Bool:=l.any (fun y => decide (y = x))
theorem mB_iff {α:Type} [DecidableEq α] (x:α) (l:List α):mB x l = true ↔ x ∈ l:=by
 unfold mB
 rw [List.any_eq_true]
 constructor
 ·rintro ⟨y,hy,e⟩
  rw [← of_decide_eq_true e];exact hy
 ·exact fun h => ⟨x,h,decide_eq_true rfl⟩
theorem bytes_ne {x:ByteArray} (ht:x ≠ ⟨#[]⟩):(x.toList == []) = false:=by
 rw [ByteArray.toList_eq,beq_eq_false_iff_ne]
 intro e
 exact ht (by
  cases h:x with
  | mk d =>
   rw [h] at e
   simp only [ByteArray.mk.injEq]
   exact Array.toList_inj.1 e)
theorem beq_false {a b:ByteArray} (h:a ≠ b):(a.toList == b.toList) = false:=by
 rw [ByteArray.toList_eq,ByteArray.toList_eq,beq_eq_false_iff_ne]
 intro e
 exact h (by
  cases a with
  | mk x =>
   cases b with
   | mk y => simp only [ByteArray.mk.injEq];exact Array.toList_inj.1 e)
theorem eqlEmpty (s:ByteArray):s.toList.isEmpty = decide (s = ⟨#[]⟩):=by
 by_cases h:s = ⟨#[]⟩
 ·rw [h,ByteArray.toList_eq];rfl
 ·rw [decide_eq_false h]
  have:=bytes_ne h
  cases e:s.toList with
  | nil => rw [e] at this;cases this
  | cons a l => rfl
set_option maxHeartbeats 1000000 in
theorem has_any (v:Value) (l:List ByteArray) (x:ByteArray) (w:World) (hv:RowT 1 StrC w.heap.size w v l) :
  Calls Tryz.prog 127 #[v,.string x] w fun e w' => e = .returned (.bool (mB x l)) ∧ w' = w:=by
 obtain ⟨q,cap,rfl⟩:=RowT.len hv
 have HV:Hid (RowT 1 StrC w.heap.size w (.slice q l.length cap) l):=hv
 obtain ⟨V,hV⟩:∃ V,mB x l = V:=⟨_,rfl⟩
 rw [hV]
 have HVV:Hid (mB x l = V):=hV
 clear hv hV
 go_enter Tryz.func127,Tryz.ntmps127
 go_wp2
 go_loopw [5] (fun y wr => ∃ k:Nat,y = .int .i64 k ∧ k ≤ l.length ∧ Hid (x ∉ l.take k) ∧ wr = w) (fun y _ => l.length - (intOf y).toNat)
 case atStart => exact ⟨0,rfl,Nat.zero_le _,by show x ∉ _;simp,rfl⟩
 case round =>
  obtain ⟨k,rfl,hk,HN,rfl⟩:=hrel
  by_cases hlt:k < l.length
  ·have hki:(k:Int) < (l.length:Int):=by omega
   obtain ⟨y,hy⟩:∃ y,l[k]? = some y:=⟨_,List.getElem?_eq_getElem hlt⟩
   obtain ⟨b,off,cs,hq,hbn,hc1,hc2,_,hT,hcell⟩:=RowT.get HV.out hy
   subst hq
   cases hT
   have y0:=hcell 0 _ rfl
   simp only [Nat.mul_one,Nat.add_zero] at y0
   unfold maxLen at hc2
   have hk1:(k:Int) + 1 ≤ 9223372036854775807:=by omega
   clear hcell
   by_cases hxy:y = x
   ·subst hxy
    have hVt:true = V:=by rw [← HVV.out];exact ((mB_iff _ _).2 (List.mem_of_getElem? hy)).symm
    subst hVt
    clear hy
    go_wp2
    go_ret
    exact ⟨rfl,rfl⟩
   ·have HN1:Hid (x ∉ l.take (k + 1)):=by
     show x ∉ _
     obtain ⟨hk',rfl⟩:=List.getElem?_eq_some_iff.1 hy
     rw [List.take_succ_eq_append_getElem hk',List.mem_append,List.mem_singleton]
     rintro (h | h)
     ·exact HN.out h
     ·exact hxy h.symm
    have hxx:=beq_false hxy
    clear hy hxy
    go_wp2
    go_roundw
    case rel => exact ⟨k + 1,by go_num,by omega,HN1,trivial⟩
    case measure => simp [intOf];omega
  ·have hki:¬ (k:Int) < (l.length:Int):=by omega
   have hVf:false = V:=by
    rw [← HVV.out]
    have:=HN.out
    rw [List.take_of_length_le (by omega)] at this
    cases h:mB x l with
    | false => rfl
    | true => exact absurd ((mB_iff _ _).1 h) this
   subst hVf
   go_wp2
   go_ret
   exact ⟨rfl,rfl⟩
end Go.Proofs.YtnemagmakgiheaaGreat.Bk
