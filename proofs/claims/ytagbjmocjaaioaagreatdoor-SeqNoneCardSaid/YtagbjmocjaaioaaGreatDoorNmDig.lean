/- Digits: allDigits, grown, thousandths of package num, at every string. -/
import Derived.Test.YtagbjmocjaaioaaGreatDoorNmCap
import Derived.WalkSpells
set_option maxRecDepth 100000
namespace Go.Proofs.YtagbjmocjaaioaaGreatDoor.Nm
open Go Go.RowKit
def dig (c:UInt8):Bool:=decide (48 ≤ c.toNat ∧ c.toNat ≤ 57)
theorem dig_iff {c:UInt8}:dig c = true ↔ 48 ≤ c.toNat ∧ c.toNat ≤ 57:=by simp [dig]
def allDig (l:List UInt8):Bool:=l.all dig
def grow1 (n:Int) (c:UInt8):Int:=capI (10 * n + (c.toNat - 48))
def grown (n:Int) (l:List UInt8):Int:=l.foldl grow1 n
theorem get_at (s:ByteArray) (k:Nat) (h:k < s.size):s[k] = s.get! k:=by
 show s.data[k]'h = s.data[k]!
 exact (getElem!_pos s.data k h).symm
theorem at_list (s:ByteArray) (k:Nat) (h:k < s.size):s.data.toList[k]? = some (s.get! k):=by
 have h':k < s.data.size:=h
 rw [Array.getElem?_toList,Array.getElem?_eq_getElem h',← get_at s k h]
 rfl
theorem len_list (s:ByteArray):s.data.toList.length = s.size:=Array.length_toList
theorem allDig_of (s:ByteArray) (h:∀ j,j < s.size → dig (s.get! j) = true):allDig s.data.toList = true:=by
 unfold allDig
 rw [List.all_eq_true]
 intro c hc
 obtain ⟨j,hj,rfl⟩:=List.mem_iff_getElem.1 hc
 have hj':j < s.size:=by rw [← len_list];exact hj
 have e:=at_list s j hj'
 rw [List.getElem?_eq_getElem hj] at e
 rw [Option.some.inj e]
 exact h j hj'
theorem allDig_at {s:ByteArray} (h:allDig s.data.toList = true) {j:Nat} (hj:j < s.size):48 ≤ (s.get! j).toNat ∧ (s.get! j).toNat ≤ 57:=
 dig_iff.1 (List.all_eq_true.1 h _ (List.mem_of_getElem? (at_list s j hj)))
theorem allDig_no {s:ByteArray} {j:Nat} (hj:j < s.size) (h:¬ (48 ≤ (s.get! j).toNat ∧ (s.get! j).toNat ≤ 57)):allDig s.data.toList = false:=by
 cases e:allDig s.data.toList with
 | false => rfl
 | true => exact absurd (allDig_at e hj) h
theorem take_next (s:ByteArray) (k:Nat) (h:k < s.size):s.data.toList.take (k + 1) = s.data.toList.take k ++ [s.get! k]:=by
 rw [List.take_add_one,at_list s k h]
 rfl
set_option maxHeartbeats 1000000 in
theorem allDigits_any (s:ByteArray) (w:World) (hs:s.size ≤ 281474976710656) :
  Calls Tryz.prog 328 #[.string s] w fun e w' => e = .returned (.bool (allDig s.data.toList)) ∧ w' = w:=by
 go_enter Tryz.func328,Tryz.ntmps328
 go_wp2
 go_loopw [6] (fun i wr => ∃ k:Nat,i = .int .i64 k ∧ k ≤ s.size ∧ wr = w ∧ ∀ j,j < k → dig (s.get! j) = true) (fun i _ => s.size - (intOf i).toNat)
 case atStart => exact ⟨0,rfl,Nat.zero_le _,rfl,fun j hj => absurd hj (Nat.not_lt_zero j)⟩
 case round =>
  obtain ⟨k,rfl,hk,rfl,hall⟩:=hrel
  by_cases hlt:k < s.size
  ·have hnext:dig (s.get! k) = true → ∀ j,j < k + 1 → dig (s.get! j) = true:=fun hd j hj => by
    by_cases e:j = k
    ·subst e;exact hd
    ·exact hall j (by omega)
   have hno:=@allDig_no s k hlt
   have hget:=get_at s k hlt
   generalize s.get! k = c at *
   go_wp2
   case roundEnd => exact ⟨⟨k + 1,by go_num,by omega,trivial,hnext (dig_iff.2 (by omega))⟩,by simp [intOf];omega⟩
   all_goals (go_ret;rw [hno (by omega)];exact ⟨rfl,rfl⟩)
  ·have hke:k = s.size:=by omega
   subst hke
   have e:=allDig_of s hall
   go_wp2
   go_ret
   rw [e]
   exact ⟨rfl,rfl⟩
theorem grow1_le (n:Int) (c:UInt8):grow1 n c ≤ 2147483647:=capI_le _
theorem grow1_ge {n:Int} {c:UInt8} (h:0 ≤ n) (hc:48 ≤ c.toNat):0 ≤ grow1 n c:=by
 unfold grow1 capI
 repeat' split
 all_goals omega
theorem grown_next (s:ByteArray) (k:Nat) (h:k < s.size) (n:Int):grown n (s.data.toList.take (k + 1)) = grow1 (grown n (s.data.toList.take k)) (s.get! k):=by
 rw [take_next s k h,grown,grown,List.foldl_append]
 rfl
set_option maxHeartbeats 1000000 in
theorem grown_any (n:Int) (s:ByteArray) (w:World) (hs:s.size ≤ 281474976710656) (h0:0 ≤ n) (h1:n ≤ 2147483647) (hd:allDig s.data.toList = true) :
  Calls Tryz.prog 296 #[.int .i64 n,.string s] w fun e w' => e = .returned (.int .i64 (grown n s.data.toList)) ∧ w' = w:=by
 go_enter Tryz.func296,Tryz.ntmps296
 go_wp2
 go_loopw [0,8] (fun m i wr => ∃ (k:Nat) (x:Int),m = .int .i64 x ∧ i = .int .i64 k ∧ k ≤ s.size ∧ wr = w ∧ 0 ≤ x ∧ x ≤ 2147483647 ∧ x = grown n (s.data.toList.take k)) (fun _ i _ => s.size - (intOf i).toNat)
 case atStart => exact ⟨0,n,rfl,rfl,Nat.zero_le _,rfl,h0,h1,rfl⟩
 case round =>
  obtain ⟨k,x,rfl,rfl,hk,rfl,hx0,hx1,hx⟩:=hrel
  by_cases hlt:k < s.size
  ·have hget:=get_at s k hlt
   obtain ⟨c1,c2⟩:=allDig_at hd hlt
   have hn:=grown_next s k hlt n
   rw [← hx] at hn
   have g1:=grow1_ge hx0 c1
   have g2:=grow1_le x (s.get! k)
   have hh:=held_il (10 * x + ((s.get! k).toNat - 48:Int))
   rw [show capI (10 * x + ((s.get! k).toNat - 48:Int)) = grow1 x (s.get! k) from rfl] at hh
   generalize grow1 x (s.get! k) = y at *
   generalize s.get! k = c at *
   clear hx
   go_wp2_with fail
   refine (hh _).mono ?_
   rintro e w' ⟨rfl,rfl⟩
   go_wp2
   exact ⟨⟨k + 1,y,rfl,by go_num,by omega,trivial,g1,g2,hn.symm⟩,by simp [intOf];omega⟩
  ·have hke:k = s.size:=by omega
   subst hke
   rw [← len_list,List.take_length] at hx
   go_wp2
   go_ret
   rw [hx]
   exact ⟨rfl,rfl⟩
def thou (l:List UInt8):List UInt8:=l.take 3 ++ [48,48,48].drop (min l.length 3)
theorem data_app (a b:ByteArray):(a ++ b).data.toList = a.data.toList ++ b.data.toList:=by simp [ByteArray.data_append]
theorem data_ext (s:ByteArray) (a b:Nat):(s.extract a b).data.toList = (s.data.toList.drop a).take (b - a):=by simp [ByteArray.data_extract,Array.toList_extract,List.extract_eq_take_drop]
theorem thou_short (s:ByteArray) (h:s.size ≤ 3):(s ++ (⟨#[48,48,48]⟩:ByteArray).extract s.size 3).data.toList = thou s.data.toList:=by
 have e1:s.data.toList.take 3 = s.data.toList:=List.take_of_length_le (by rw [len_list];exact h)
 have e2:((⟨#[48,48,48]⟩:ByteArray).data.toList.drop s.size).take (3 - s.size) = [48,48,48].drop s.size:=List.take_of_length_le (by simp)
 rw [data_app,data_ext,thou,len_list,Nat.min_eq_left h,e1,e2]
theorem thou_long (s:ByteArray) (h:3 ≤ s.size):(s.extract 0 3).data.toList = thou s.data.toList:=by
 rw [data_ext,thou,len_list,Nat.min_eq_right h]
 simp
set_option maxHeartbeats 1000000 in
theorem thousandths_any (s:ByteArray) (w:World) (hs:s.size ≤ 281474976710656) :
  Calls Tryz.prog 297 #[.string s] w fun e w' => ∃ r:ByteArray,e = .returned (.string r) ∧ r.data.toList = thou s.data.toList ∧ Below w.heap.size w w':=by
 by_cases h:s.size < 3
 ·have hi:(s.size:Int) < 3:=by omega
  go_enter Tryz.func297,Tryz.ntmps297
  go_wp2
  go_quiet (fail)
  go_wp2
  go_ret
  exact ⟨_,rfl,thou_short s (by omega),⟨rfl,rfl,rfl,Nat.le_refl _,fun _ _ => rfl⟩⟩
 ·by_cases h3:s.size = 3
  ·have hi:(s.size:Int) = 3:=by omega
   go_enter Tryz.func297,Tryz.ntmps297
   go_wp2
   go_quiet (fail)
   go_wp2
   go_ret
   exact ⟨_,rfl,thou_long s (by omega),⟨rfl,rfl,rfl,Nat.le_refl _,fun _ _ => rfl⟩⟩
  ·have hi:3 < (s.size:Int):=by omega
   go_enter Tryz.func297,Tryz.ntmps297
   go_wp2
   go_quiet (fail)
   go_wp2
   go_ret
   exact ⟨_,rfl,thou_long s (by omega),⟨rfl,rfl,rfl,Nat.le_refl _,fun _ _ => rfl⟩⟩
end Go.Proofs.YtagbjmocjaaioaaGreatDoor.Nm
