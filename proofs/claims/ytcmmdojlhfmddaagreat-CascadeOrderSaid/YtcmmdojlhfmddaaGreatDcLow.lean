/- text.Lower and the document's own Lower, at every string: the bytes A to Z are a to z, all others stay. -/
import Derived.Test.YtcmmdojlhfmddaaGreatProg
import Derived.Laws.IdiomStrings
import Derived.Deep.QuietTactic
import Derived.BigQuiet
import Derived.Below
import Derived.WalkKit
set_option maxRecDepth 100000
namespace Go.Proofs.YtcmmdojlhfmddaaGreat.Lw
open Go Go.RowKit
def lowB (c:UInt8):UInt8:=if 65 ≤ c.toNat ∧ c.toNat ≤ 90 then UInt8.ofNat (c.toNat + 32) else c
def low (l:List UInt8):List UInt8:=l.map lowB
theorem lowB_hit {c:UInt8} (h1:65 ≤ c.toNat) (h2:c.toNat ≤ 90):(lowB c).toNat = c.toNat + 32:=by
 unfold lowB
 rw [if_pos ⟨h1,h2⟩,UInt8.toNat_ofNat']
 omega
theorem lowB_miss {c:UInt8} (h:¬ (65 ≤ c.toNat ∧ c.toNat ≤ 90)):lowB c = c:=by unfold lowB;rw [if_neg h]
theorem low_length (l:List UInt8):(low l).length = l.length:=by simp [low]
def Row (W:World) (g n:Nat) (f:Nat → UInt8):Prop:=∀ j,j < n → W.cell? ⟨g,j,none⟩ = some (.int .u8 (f j).toNat) ∧ W.frozen? ⟨g,j,none⟩ = false
theorem Row.set {W:World} {g n k:Nat} {f:Nat → UInt8} (h:Row W g n f) (hk:k < n) (u:UInt8):Row (W.setCell ⟨g,k,none⟩ (.int .u8 u.toNat)) g n (fun j => if j = k then u else f j):=fun j hj => by
 refine ⟨?_,by rw [World.frozen?_setCell];exact (h j hj).2⟩
 by_cases e:j = k
 ·subst e
  simp only [if_true]
  exact World.cell?_setCell_same' _ _ _ (by rw [(h j hk).1];rfl)
 ·simp only [e,if_false]
  rw [World.cell?_setCell_other _ _ _ _ (by simp)]
  exact (h j hj).1
theorem conv_in (s:ByteArray) (w:World):∃ cap W,(convert 9 46 (.string s)).run Tryz.prog w = .ok (.slice (some ⟨w.heap.size,0,none⟩) s.size cap) W ∧ Below w.heap.size w W ∧ Row W w.heap.size s.size (fun j => s.data.toList[j]?.getD 0):=by
 refine ⟨_,_,run_bytes_of_string w 9 46 5 s Tryz.underlying9 Tryz.underlying46 Tryz.underlying5,(Below.refl _ w).drew.alloc (Nat.le_refl _) _,fun j hj => ⟨?_,?_⟩⟩
 ·rw [show (⟨w.heap.size,j,none⟩:Addr) = ⟨w.drew.heap.size,j,none⟩ from rfl,World.cell?_alloc_mark,bytesRow_at s _ j hj]
  have hj':s.data.toList[j]? = some (s.data[j]'hj):=by rw [Array.getElem?_toList];exact Array.getElem?_eq_getElem hj
  simp only [hj']
  rfl
 ·rw [show (⟨w.heap.size,j,none⟩:Addr) = ⟨w.drew.heap.size,j,none⟩ from rfl,World.frozen?_alloc_mark]
  have:s.size ≤ (bytesRow s (grownCap w s.size 0 5)).size:=by
   unfold bytesRow
   rw [Array.size_append,Array.size_map]
   exact Nat.le_add_right _ _
  rw [show decide ((bytesRow s (grownCap w s.size 0 5)).size ≤ j) = false from decide_eq_false (by omega)]
  rfl
theorem conv_out (l:List UInt8) (g cap:Nat) (W:World) (f:Nat → UInt8) (h:Row W g l.length f) (hf:∀ j u,l[j]? = some u → f j = u) :
  (convert 46 9 (.slice (some ⟨g,0,none⟩) l.length cap)).run Tryz.prog W = .ok (.string ⟨l.toArray⟩) W:=by
 refine run_convert_bytes_back W 46 9 5 ⟨g,0,none⟩ cap l Tryz.underlying46 Tryz.underlying5 Tryz.underlying9 (fun j hj => ?_)
 have:=(h j hj).1
 rw [hf j l[j] (List.getElem?_eq_getElem hj)] at this
 rw [show (⟨g,0,none⟩:Addr).add j = ⟨g,j,none⟩ from by
  cases j with
  | zero => rfl
  | succ j => simp [Addr.add]]
 exact this
def step (l:List UInt8) (k j:Nat):UInt8:=if j < k then lowB (l[j]?.getD 0) else l[j]?.getD 0
theorem step_zero (l:List UInt8):step l 0 = fun j => l[j]?.getD 0:=funext fun j => if_neg (Nat.not_lt_zero j)
theorem step_at (l:List UInt8) (k:Nat):step l k k = l[k]?.getD 0:=if_neg (Nat.lt_irrefl k)
theorem step_hit (l:List UInt8) (k:Nat):(fun j => if j = k then lowB (l[k]?.getD 0) else step l k j) = step l (k + 1):=funext fun j => by
 unfold step
 by_cases e:j = k
 ·subst e;simp
 ·by_cases h:j < k
  ·rw [if_neg e,if_pos h,if_pos (by omega)]
  ·rw [if_neg e,if_neg h,if_neg (by omega)]
theorem step_miss (l:List UInt8) (k:Nat) (h:lowB (l[k]?.getD 0) = l[k]?.getD 0):step l k = step l (k + 1):=by
 rw [← step_hit]
 funext j
 by_cases e:j = k
 ·subst e;rw [if_pos rfl,h,step_at]
 ·rw [if_neg e]
set_option maxHeartbeats 1000000 in
theorem lower_any (s:ByteArray) (w:World) (hs:s.size ≤ maxLen) :
  Calls Tryz.prog 45 #[.string s] w fun e w' => e = .returned (.string ⟨(low s.data.toList).toArray⟩) ∧ Below w.heap.size w w':=by
 obtain ⟨cap,W1,hconv,hb1,hr1⟩:=conv_in s w
 unfold maxLen at hs
 go_enter Tryz.func45,Tryz.ntmps45
 go_wp2
 go_loopw [10] (fun i wr => ∃ k:Nat,i = .int .i64 k ∧ k ≤ s.size ∧ Below w.heap.size w wr ∧ Row wr w.heap.size s.size (step s.data.toList k)) (fun i _ => s.size - (intOf i).toNat)
 case atStart => exact ⟨0,rfl,Nat.zero_le _,hb1,by rw [step_zero];exact hr1⟩
 case round =>
  obtain ⟨k,rfl,hk,hb,hr⟩:=hrel
  clear hconv
  by_cases hlt:k < s.size
  ·have hc:=(hr k hlt).1
   have hf:=(hr k hlt).2
   rw [step_at] at hc
   generalize hcc:s.data.toList[k]?.getD 0 = c at hc
   have hcl:=c.toNat_lt
   by_cases h1:65 ≤ c.toNat
   ·by_cases h2:c.toNat ≤ 90
    ·have hrn:=hr.set hlt (lowB c)
     rw [← hcc,step_hit,hcc,lowB_hit h1 h2] at hrn
     have hbn:Below w.heap.size w (wr.setCell ⟨w.heap.size,k,none⟩ (.int .u8 (c.toNat + 32:Nat))):=hb.setCell (p:=⟨w.heap.size,k,none⟩) (Nat.le_refl _) _
     have g1:(65:Int) ≤ (c.toNat:Int):=by omega
     have g2:(c.toNat:Int) ≤ 90:=by omega
     clear hcc
     push_cast at hrn hbn
     go_wp2
     exact ⟨⟨k + 1,by go_num,by omega,hbn,hrn⟩,by simp [intOf];omega⟩
    ·have hrn:=hr
     rw [step_miss _ _ (by rw [hcc];exact lowB_miss (by omega))] at hrn
     have g1:(65:Int) ≤ (c.toNat:Int):=by omega
     have g2:¬ (c.toNat:Int) ≤ 90:=by omega
     clear hcc
     go_wp2
     exact ⟨⟨k + 1,by go_num,by omega,hb,hrn⟩,by simp [intOf];omega⟩
   ·have hrn:=hr
    rw [step_miss _ _ (by rw [hcc];exact lowB_miss (by omega))] at hrn
    have g1:¬ (65:Int) ≤ (c.toNat:Int):=by omega
    clear hcc
    go_wp2
    exact ⟨⟨k + 1,by go_num,by omega,hb,hrn⟩,by simp [intOf];omega⟩
  ·have hke:k = s.size:=by omega
   have hlen:s.size = (low s.data.toList).length:=by rw [low_length];exact Array.length_toList.symm
   have hback:=conv_out (low s.data.toList) w.heap.size cap wr _ (by rw [← hlen];exact hr) (fun j u hj => by
    rw [low,List.getElem?_map] at hj
    obtain ⟨c,hc,rfl⟩:=Option.map_eq_some_iff.1 hj
    have:=(List.getElem?_eq_some_iff.1 hc).1
    simp only [step]
    rw [if_pos (by rw [hke];simpa using this),hc]
    rfl)
   rw [← hlen] at hback
   clear hlen
   subst hke
   go_wp2
   go_ret
   exact ⟨rfl,hb⟩
set_option maxHeartbeats 1000000 in
theorem refLower_any (s:ByteArray) (w:World) (hs:s.size ≤ maxLen) :
  Calls Tryz.prog 67 #[.string s] w fun e w' => e = .returned (.string ⟨(low s.data.toList).toArray⟩) ∧ Below w.heap.size w w':=by
 obtain ⟨cap,W1,hconv,hb1,hr1⟩:=conv_in s w
 unfold maxLen at hs
 go_enter Tryz.func67,Tryz.ntmps67
 go_wp2
 go_loopw [4] (fun i wr => ∃ k:Nat,i = .int .i64 k ∧ k ≤ s.size ∧ Below w.heap.size w wr ∧ Row wr w.heap.size s.size (step s.data.toList k)) (fun i _ => s.size - (intOf i).toNat)
 case atStart => exact ⟨0,rfl,Nat.zero_le _,hb1,by rw [step_zero];exact hr1⟩
 case round =>
  obtain ⟨k,rfl,hk,hb,hr⟩:=hrel
  clear hconv
  by_cases hlt:k < s.size
  ·have hc:=(hr k hlt).1
   have hf:=(hr k hlt).2
   rw [step_at] at hc
   generalize hcc:s.data.toList[k]?.getD 0 = c at hc
   have hcl:=c.toNat_lt
   by_cases h1:65 ≤ c.toNat
   ·by_cases h2:c.toNat ≤ 90
    ·have hrn:=hr.set hlt (lowB c)
     rw [← hcc,step_hit,hcc,lowB_hit h1 h2] at hrn
     have hbn:Below w.heap.size w (wr.setCell ⟨w.heap.size,k,none⟩ (.int .u8 (c.toNat + 32:Nat))):=hb.setCell (p:=⟨w.heap.size,k,none⟩) (Nat.le_refl _) _
     have g1:(65:Int) ≤ (c.toNat:Int):=by omega
     have g2:(c.toNat:Int) ≤ 90:=by omega
     clear hcc
     push_cast at hrn hbn
     go_wp2
     exact ⟨⟨k + 1,by go_num,by omega,hbn,hrn⟩,by simp [intOf];omega⟩
    ·have hrn:=hr
     rw [step_miss _ _ (by rw [hcc];exact lowB_miss (by omega))] at hrn
     have g1:(65:Int) ≤ (c.toNat:Int):=by omega
     have g2:¬ (c.toNat:Int) ≤ 90:=by omega
     clear hcc
     go_wp2
     exact ⟨⟨k + 1,by go_num,by omega,hb,hrn⟩,by simp [intOf];omega⟩
   ·have hrn:=hr
    rw [step_miss _ _ (by rw [hcc];exact lowB_miss (by omega))] at hrn
    have g1:¬ (65:Int) ≤ (c.toNat:Int):=by omega
    clear hcc
    go_wp2
    exact ⟨⟨k + 1,by go_num,by omega,hb,hrn⟩,by simp [intOf];omega⟩
  ·have hke:k = s.size:=by omega
   have hlen:s.size = (low s.data.toList).length:=by rw [low_length];exact Array.length_toList.symm
   have hback:=conv_out (low s.data.toList) w.heap.size cap wr _ (by rw [← hlen];exact hr) (fun j u hj => by
    rw [low,List.getElem?_map] at hj
    obtain ⟨c,hc,rfl⟩:=Option.map_eq_some_iff.1 hj
    have:=(List.getElem?_eq_some_iff.1 hc).1
    simp only [step]
    rw [if_pos (by rw [hke];simpa using this),hc]
    rfl)
   rw [← hlen] at hback
   clear hlen
   subst hke
   go_wp2
   go_ret
   exact ⟨rfl,hb⟩
end Go.Proofs.YtcmmdojlhfmddaaGreat.Lw
