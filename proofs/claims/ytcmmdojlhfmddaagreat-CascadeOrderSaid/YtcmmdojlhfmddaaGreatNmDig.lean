/- Numbers held within the bounds: capI; package num's held, Cap, Add, Times, at every integer. -/
import Derived.Test.YtcmmdojlhfmddaaGreatProg
import Derived.Deep.QuietTactic
import Derived.Deep.RegionWith
import Derived.Deep.DeepCutAuto
import Derived.BigQuiet
import Derived.WalkKit
import Derived.WalkSpells
namespace Go.Proofs.YtcmmdojlhfmddaaGreat.Nm
open Go Go.RowKit
def capI (n:Int):Int:=if n < -2147483647 then -2147483647 else if 2147483647 < n then 2147483647 else n
theorem capI_low {n:Int} (h:n < -2147483647):capI n = -2147483647:=if_pos h
theorem capI_high {n:Int} (h:2147483647 < n):capI n = 2147483647:=by unfold capI;rw [if_neg (by omega),if_pos h]
theorem capI_in {n:Int} (h1:-2147483647 ≤ n) (h2:n ≤ 2147483647):capI n = n:=by unfold capI;rw [if_neg (by omega),if_neg (by omega)]
theorem capI_le (n:Int):capI n ≤ 2147483647:=by unfold capI;split <;> (try split) <;> omega
end Go.Proofs.YtcmmdojlhfmddaaGreat.Nm

/- Digits: allDigits, grown, thousandths of package num, at every string. -/
namespace Go.Proofs.YtcmmdojlhfmddaaGreat.Nm
open Go Go.RowKit
def dig (c:UInt8):Bool:=decide (48 ≤ c.toNat ∧ c.toNat ≤ 57)
theorem dig_iff {c:UInt8}:dig c = true ↔ 48 ≤ c.toNat ∧ c.toNat ≤ 57:=by simp [dig]
def allDig (l:List UInt8):Bool:=l.all dig
def grow1 (n:Int) (c:UInt8):Int:=capI (10 * n + (c.toNat - 48))
def grown (n:Int) (l:List UInt8):Int:=l.foldl grow1 n
theorem get_at (s:ByteArray) (k:Nat) (h:k < s.size):s[k] = s.get! k:=by
 show s.data[k]'h = s.data[k]!
 exact (getElem!_pos s.data k h).symm
theorem at_list (s:ByteArray) (k:Nat) (h:k < s.size):s.data.toList[k]? = some (s.get! k):=by
 have h':k < s.data.size:=h
 rw [Array.getElem?_toList,Array.getElem?_eq_getElem h',← get_at s k h]
 rfl
theorem len_list (s:ByteArray):s.data.toList.length = s.size:=Array.length_toList
theorem grow1_le (n:Int) (c:UInt8):grow1 n c ≤ 2147483647:=capI_le _
theorem grow1_ge {n:Int} {c:UInt8} (h:0 ≤ n) (hc:48 ≤ c.toNat):0 ≤ grow1 n c:=by
 unfold grow1 capI
 repeat' split
 all_goals omega
def thou (l:List UInt8):List UInt8:=l.take 3 ++ [48,48,48].drop (min l.length 3)
end Go.Proofs.YtcmmdojlhfmddaaGreat.Nm
