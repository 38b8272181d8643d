/- Digits: allDigits, grown, thousandths of package num, at every string. -/
import Derived.Test.YtgfbgfcakblpoaaNmCap
import Derived.WalkSpells
namespace Go.Proofs.Ytgfbgfcakblpoaa.Nm
open Go Go.RowKit

def dig (c : UInt8) : Bool := decide (48 ≤ c.toNat ∧ c.toNat ≤ 57)
theorem dig_iff {c : UInt8} : dig c = true ↔ 48 ≤ c.toNat ∧ c.toNat ≤ 57 := by simp [dig]
def allDig (l : List UInt8) : Bool := l.all dig
def grow1 (n : Int) (c : UInt8) : Int := capI (10 * n + (c.toNat - 48))
def grown (n : Int) (l : List UInt8) : Int := l.foldl grow1 n

theorem get_at (s : ByteArray) (k : Nat) (h : k < s.size) : s[k] = s.get! k := by
  show s.data[k]'h = s.data[k]!
  exact (getElem!_pos s.data k h).symm
theorem at_list (s : ByteArray) (k : Nat) (h : k < s.size) : s.data.toList[k]? = some (s.get! k) := by
  have h' : k < s.data.size := h
  rw [Array.getElem?_toList, Array.getElem?_eq_getElem h', ← get_at s k h]
  rfl
theorem len_list (s : ByteArray) : s.data.toList.length = s.size := Array.length_toList
theorem allDig_of (s : ByteArray) (h : ∀ j, j < s.size → dig (s.get! j) = true) : allDig s.data.toList = true := by
  unfold allDig
  rw [List.all_eq_true]
  intro c hc
  obtain ⟨j, hj, rfl⟩ := List.mem_iff_getElem.1 hc
  have hj' : j < s.size := by rw [← len_list]; exact hj
  have e := at_list s j hj'
  rw [List.getElem?_eq_getElem hj] at e
  rw [Option.some.inj e]
  exact h j hj'
theorem allDig_at {s : ByteArray} (h : allDig s.data.toList = true) {j : Nat} (hj : j < s.size) : 48 ≤ (s.get! j).toNat ∧ (s.get! j).toNat ≤ 57 :=
  dig_iff.1 (List.all_eq_true.1 h _ (List.mem_of_getElem? (at_list s j hj)))
theorem allDig_no {s : ByteArray} {j : Nat} (hj : j < s.size) (h : ¬ (48 ≤ (s.get! j).toNat ∧ (s.get! j).toNat ≤ 57)) : allDig s.data.toList = false := by
  cases e : allDig s.data.toList with
  | false => rfl
  | true => exact absurd (allDig_at e hj) h
theorem take_next (s : ByteArray) (k : Nat) (h : k < s.size) : s.data.toList.take (k + 1) = s.data.toList.take k ++ [s.get! k] := by
  rw [List.take_add_one, at_list s k h]
  rfl

theorem grow1_le (n : Int) (c : UInt8) : grow1 n c ≤ 2147483647 := capI_le _
theorem grow1_ge {n : Int} {c : UInt8} (h : 0 ≤ n) (hc : 48 ≤ c.toNat) : 0 ≤ grow1 n c := by
  unfold grow1 capI
  repeat' split
  all_goals omega
theorem grown_next (s : ByteArray) (k : Nat) (h : k < s.size) (n : Int) : grown n (s.data.toList.take (k + 1)) = grow1 (grown n (s.data.toList.take k)) (s.get! k) := by
  rw [take_next s k h, grown, grown, List.foldl_append]
  rfl

/-- The three digits behind the point, the missing ones too. -/
def thou (l : List UInt8) : List UInt8 := l.take 3 ++ [48, 48, 48].drop (min l.length 3)

theorem data_app (a b : ByteArray) : (a ++ b).data.toList = a.data.toList ++ b.data.toList := by simp [ByteArray.data_append]
theorem data_ext (s : ByteArray) (a b : Nat) : (s.extract a b).data.toList = (s.data.toList.drop a).take (b - a) := by simp [ByteArray.data_extract, Array.toList_extract, List.extract_eq_take_drop]

theorem thou_short (s : ByteArray) (h : s.size ≤ 3) : (s ++ (⟨#[48, 48, 48]⟩ : ByteArray).extract s.size 3).data.toList = thou s.data.toList := by
  have e1 : s.data.toList.take 3 = s.data.toList := List.take_of_length_le (by rw [len_list]; exact h)
  have e2 : ((⟨#[48, 48, 48]⟩ : ByteArray).data.toList.drop s.size).take (3 - s.size) = [48, 48, 48].drop s.size := List.take_of_length_le (by simp)
  rw [data_app, data_ext, thou, len_list, Nat.min_eq_left h, e1, e2]
theorem thou_long (s : ByteArray) (h : 3 ≤ s.size) : (s.extract 0 3).data.toList = thou s.data.toList := by
  rw [data_ext, thou, len_list, Nat.min_eq_right h]
  simp

end Go.Proofs.Ytgfbgfcakblpoaa.Nm
