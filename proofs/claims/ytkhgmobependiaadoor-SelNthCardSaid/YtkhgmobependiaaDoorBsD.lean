/- Numbers held within the bounds: capI; package num's held, Cap, Add, Times, at every integer. -/
import Derived.Test.YtkhgmobependiaaDoorProg
import Derived.Deep.QuietTactic
import Derived.Deep.RegionWith
import Derived.Deep.DeepCutAuto
import Derived.BigQuiet
import Derived.WalkKit
import Derived.WalkSpells
import Derived.Below
import Derived.Shelf.Abstract
import Derived.Lib.ItoaLen
namespace Go.Proofs.YtkhgmobependiaaDoor.Nm
open Go Go.RowKit

def capI (n : Int) : Int := if n < -2147483647 then -2147483647 else if 2147483647 < n then 2147483647 else n
theorem capI_low {n : Int} (h : n < -2147483647) : capI n = -2147483647 := if_pos h
theorem capI_high {n : Int} (h : 2147483647 < n) : capI n = 2147483647 := by unfold capI; rw [if_neg (by omega), if_pos h]
theorem capI_in {n : Int} (h1 : -2147483647 ≤ n) (h2 : n ≤ 2147483647) : capI n = n := by unfold capI; rw [if_neg (by omega), if_neg (by omega)]
theorem capI_ge (n : Int) : -2147483647 ≤ capI n := by unfold capI; split <;> (try split) <;> omega
theorem capI_le (n : Int) : capI n ≤ 2147483647 := by unfold capI; split <;> (try split) <;> omega
theorem capI_rises {a b : Int} (h : a ≤ b) : capI a ≤ capI b := by unfold capI; repeat' split
                                                                   all_goals omega
theorem capI_neg (a : Int) : capI (-a) = -capI a := by unfold capI; repeat' split
                                                       all_goals omega
theorem capI_capI (a : Int) : capI (capI a) = capI a := capI_in (capI_ge a) (capI_le a)
theorem int_mul_bound {x y : Int} (h1 : -2147483647 ≤ x) (h2 : x ≤ 2147483647) (h3 : -2147483647 ≤ y) (h4 : y ≤ 2147483647) : -4611686014132420609 ≤ x * y ∧ x * y ≤ 4611686014132420609 := by
  have hx : x.natAbs ≤ 2147483647 := by omega
  have hy : y.natAbs ≤ 2147483647 := by omega
  have := Nat.mul_le_mul hx hy
  have e : (x * y).natAbs = x.natAbs * y.natAbs := Int.natAbs_mul x y
  omega

end Go.Proofs.YtkhgmobependiaaDoor.Nm

/- Digits: allDigits, grown, thousandths of package num, at every string. -/
namespace Go.Proofs.YtkhgmobependiaaDoor.Nm
open Go Go.RowKit

def dig (c : UInt8) : Bool := decide (48 ≤ c.toNat ∧ c.toNat ≤ 57)
theorem dig_iff {c : UInt8} : dig c = true ↔ 48 ≤ c.toNat ∧ c.toNat ≤ 57 := by simp [dig]
def allDig (l : List UInt8) : Bool := l.all dig
def grow1 (n : Int) (c : UInt8) : Int := capI (10 * n + (c.toNat - 48))
def grown (n : Int) (l : List UInt8) : Int := l.foldl grow1 n

theorem get_at (s : ByteArray) (k : Nat) (h : k < s.size) : s[k] = s.get! k := by
  show s.data[k]'h = s.data[k]!
  exact (getElem!_pos s.data k h).symm
theorem at_list (s : ByteArray) (k : Nat) (h : k < s.size) : s.data.toList[k]? = some (s.get! k) := by
  have h' : k < s.data.size := h
  rw [Array.getElem?_toList, Array.getElem?_eq_getElem h', ← get_at s k h]
  rfl
theorem len_list (s : ByteArray) : s.data.toList.length = s.size := Array.length_toList
theorem allDig_of (s : ByteArray) (h : ∀ j, j < s.size → dig (s.get! j) = true) : allDig s.data.toList = true := by
  unfold allDig
  rw [List.all_eq_true]
  intro c hc
  obtain ⟨j, hj, rfl⟩ := List.mem_iff_getElem.1 hc
  have hj' : j < s.size := by rw [← len_list]; exact hj
  have e := at_list s j hj'
  rw [List.getElem?_eq_getElem hj] at e
  rw [Option.some.inj e]
  exact h j hj'
theorem allDig_at {s : ByteArray} (h : allDig s.data.toList = true) {j : Nat} (hj : j < s.size) : 48 ≤ (s.get! j).toNat ∧ (s.get! j).toNat ≤ 57 :=
  dig_iff.1 (List.all_eq_true.1 h _ (List.mem_of_getElem? (at_list s j hj)))
theorem allDig_no {s : ByteArray} {j : Nat} (hj : j < s.size) (h : ¬ (48 ≤ (s.get! j).toNat ∧ (s.get! j).toNat ≤ 57)) : allDig s.data.toList = false := by
  cases e : allDig s.data.toList with
  | false => rfl
  | true => exact absurd (allDig_at e hj) h
theorem take_next (s : ByteArray) (k : Nat) (h : k < s.size) : s.data.toList.take (k + 1) = s.data.toList.take k ++ [s.get! k] := by
  rw [List.take_add_one, at_list s k h]
  rfl

theorem grow1_le (n : Int) (c : UInt8) : grow1 n c ≤ 2147483647 := capI_le _
theorem grow1_ge {n : Int} {c : UInt8} (h : 0 ≤ n) (hc : 48 ≤ c.toNat) : 0 ≤ grow1 n c := by
  unfold grow1 capI
  repeat' split
  all_goals omega
theorem grown_next (s : ByteArray) (k : Nat) (h : k < s.size) (n : Int) : grown n (s.data.toList.take (k + 1)) = grow1 (grown n (s.data.toList.take k)) (s.get! k) := by
  rw [take_next s k h, grown, grown, List.foldl_append]
  rfl

/-- The three digits behind the point, the missing ones too. -/
def thou (l : List UInt8) : List UInt8 := l.take 3 ++ [48, 48, 48].drop (min l.length 3)

theorem data_app (a b : ByteArray) : (a ++ b).data.toList = a.data.toList ++ b.data.toList := by simp [ByteArray.data_append]
theorem data_ext (s : ByteArray) (a b : Nat) : (s.extract a b).data.toList = (s.data.toList.drop a).take (b - a) := by simp [ByteArray.data_extract, Array.toList_extract, List.extract_eq_take_drop]

theorem thou_short (s : ByteArray) (h : s.size ≤ 3) : (s ++ (⟨#[48, 48, 48]⟩ : ByteArray).extract s.size 3).data.toList = thou s.data.toList := by
  have e1 : s.data.toList.take 3 = s.data.toList := List.take_of_length_le (by rw [len_list]; exact h)
  have e2 : ((⟨#[48, 48, 48]⟩ : ByteArray).data.toList.drop s.size).take (3 - s.size) = [48, 48, 48].drop s.size := List.take_of_length_le (by simp)
  rw [data_app, data_ext, thou, len_list, Nat.min_eq_left h, e1, e2]
theorem thou_long (s : ByteArray) (h : 3 ≤ s.size) : (s.extract 0 3).data.toList = thou s.data.toList := by
  rw [data_ext, thou, len_list, Nat.min_eq_right h]
  simp

end Go.Proofs.YtkhgmobependiaaDoor.Nm

/- num.Of at every string: cutSign, strings.Cut at a point, isNumber; what the world must hold. -/
namespace Go.Proofs.YtkhgmobependiaaDoor.Nm
open Go Go.RowKit Go.Shelf

def PowAt (_n₀ : Nat) (_w : World) : Prop := True
theorem PowAt.on {n₀ : Nat} {w w' : World} (h : PowAt n₀ w) (_hb : Below n₀ w w') : PowAt n₀ w' := h
theorem PowAt.mono {n₀ n₁ : Nat} {w : World} (h : PowAt n₀ w) (_hn : n₀ ≤ n₁) : PowAt n₁ w := h
theorem below_drewN (w : World) (n : Nat) : Below w.heap.size w (w.drewN n) := ⟨rfl, rfl, rfl, Nat.le_refl _, fun _ _ => rfl⟩

def below (l : List UInt8) : Bool := l.head? == some 45
def lessOne (c : UInt8) (l : List UInt8) : List UInt8 := if l.head? == some c then l.tail else l
def bare (l : List UInt8) : List UInt8 := if below l then l.tail else lessOne 43 l
def numA (l : List UInt8) : List UInt8 := (bare l).takeWhile (· != 46)
def numB (l : List UInt8) : List UInt8 := ((bare l).dropWhile (· != 46)).tail
def numP (l : List UInt8) : Bool := (bare l).any (· == 46)
def isNum (a b : List UInt8) (p : Bool) : Bool := allDig a && allDig b && (if p then !b.isEmpty else !a.isEmpty)
def numV (l : List UInt8) : Int := grown (grown 0 (numA l)) (thou (numB l))
def numOk (l : List UInt8) : Bool := isNum (numA l) (numB l) (numP l)
def numN (l : List UInt8) : Int := if numOk l then (if below l then -numV l else numV l) else 0

theorem lessOne_le (c : UInt8) (l : List UInt8) : (lessOne c l).length ≤ l.length := by
  unfold lessOne
  split
  · simp
  · exact Nat.le_refl _
theorem tail_le (t : List UInt8) : ((t.dropWhile (· != 46)).tail).length ≤ t.length := by
  have := (List.dropWhile_sublist (l := t) (· != 46)).length_le
  rw [List.length_tail]
  omega
theorem bare_le (l : List UInt8) : (bare l).length ≤ l.length := by
  unfold bare
  split
  · simp
  · exact lessOne_le 43 l
theorem grown_bounds : ∀ (l : List UInt8) (n : Int), 0 ≤ n → n ≤ 2147483647 → allDig l = true → 0 ≤ grown n l ∧ grown n l ≤ 2147483647
  | [], n, h0, h1, _ => ⟨h0, h1⟩
  | c :: l, n, h0, h1, hd => by
    have hd' : dig c = true ∧ allDig l = true := by simpa [allDig] using hd
    exact grown_bounds l (grow1 n c) (grow1_ge h0 (dig_iff.1 hd'.1).1) (grow1_le n c) hd'.2
theorem thou_dig {l : List UInt8} (h : allDig l = true) : allDig (thou l) = true := by
  unfold thou allDig at *
  rw [List.all_append, Bool.and_eq_true]
  refine ⟨List.all_eq_true.2 fun c hc => List.all_eq_true.1 h c (List.mem_of_mem_take hc), List.all_eq_true.2 fun c hc => ?_⟩
  have := List.mem_of_mem_drop hc
  simp at this
  subst this
  decide
theorem thou_len (l : List UInt8) : (thou l).length = 3 := by
  unfold thou
  rw [List.length_append, List.length_take, List.length_drop]
  simp
  omega

end Go.Proofs.YtkhgmobependiaaDoor.Nm

/- num.Text at every integer. -/
namespace Go.Proofs.YtkhgmobependiaaDoor.Nm
open Go Go.RowKit Go.Shelf


/-- What stands behind the whole part: nothing, or a point and three digits. -/
def frac (m : Nat) : List UInt8 := if m % 1000 = 0 then [] else 46 :: (Lib.decDigits (1000 + m % 1000)).drop 1
def mag (m : Nat) : List UInt8 := Lib.decDigits (m / 1000) ++ frac m
def txt (n : Int) : List UInt8 := if capI n < 0 then 45 :: mag (capI n).natAbs else mag (capI n).natAbs

theorem dec4 (r : Nat) (h : r < 1000) : Lib.decDigits (1000 + r) = [49, UInt8.ofNat (48 + r / 100), UInt8.ofNat (48 + r / 10 % 10), UInt8.ofNat (48 + r % 10)] := by
  rw [Lib.decDigits, dif_neg (by omega), Lib.decDigits, dif_neg (by omega), Lib.decDigits_two (by omega) (by omega)]
  rw [show (1000 + r) / 10 / 10 / 10 = 1 by omega, show (1000 + r) / 10 / 10 % 10 = r / 100 by omega, show (1000 + r) / 10 % 10 = r / 10 % 10 by omega, show (1000 + r) % 10 = r % 10 by omega]
  rfl

theorem quo_nat (m : Nat) : (m : Int).tdiv 1000 = ((m / 1000 : Nat) : Int) := by
  rw [Int.tdiv_eq_ediv_of_nonneg (by omega)]
  rfl
theorem rem_nat (m : Nat) : (m : Int).tmod 1000 = ((m % 1000 : Nat) : Int) := by
  rw [Int.tmod_eq_emod_of_nonneg (by omega)]
  rfl

theorem mag_flat {m : Nat} {g r : ByteArray} (h0 : m % 1000 = 0) (h : r.data.toList = Lib.decDigits (m / 1000)) : (g ++ r).data.toList = g.data.toList ++ mag m := by
  rw [data_app, mag, frac, if_pos h0, List.append_nil, h]
theorem mag_deep {m : Nat} {g r q : ByteArray} (h0 : ¬ m % 1000 = 0) (h : r.data.toList = Lib.decDigits (m / 1000)) (hq : q.data.toList = Lib.decDigits (1000 + m % 1000)) : (g ++ r ++ ⟨#[46]⟩ ++ q.extract 1 4).data.toList = g.data.toList ++ mag m := by
  rw [mag, frac, if_neg h0, data_app, data_app, data_app, data_ext, h, hq, dec4 _ (by omega)]
  simp
theorem dec_len {u : Nat} {r : ByteArray} (hu : u ≤ 9223372036854775807) (h : r.data.toList = Lib.decDigits u) : r.size ≤ 21 := by
  rw [← len_list, h, ← Lib.itoa_nonneg]
  exact Lib.itoa_length_le u (by omega) (by omega)
theorem four {m : Nat} {q : ByteArray} (hq : q.data.toList = Lib.decDigits (1000 + m % 1000)) : q.size = 4 := by
  rw [← len_list, hq, dec4 _ (by omega)]
  rfl


theorem txt_up {n : Int} (h : 0 ≤ capI n) : txt n = mag (capI n).natAbs := by unfold txt; rw [if_neg (by omega)]
theorem txt_down {n : Int} (h : capI n < 0) : txt n = 45 :: mag (capI n).natAbs := by unfold txt; rw [if_pos h]

end Go.Proofs.YtkhgmobependiaaDoor.Nm

/- The document's own Cap, Add, Times, Digits and NumText, at every integer. -/
namespace Go.Proofs.YtkhgmobependiaaDoor.Nm
open Go Go.RowKit Go.Shelf

set_option maxHeartbeats 400000 in
theorem refCap_any (c : Int) (w : World) : Calls Tryd.prog 44 #[.int .i64 c] w fun e w' => e = .returned (.int .i64 (capI c)) ∧ w' = w := by
  by_cases h1 : c < -2147483647
  · rw [capI_low h1]
    go_enter Tryd.func44, Tryd.ntmps44
    go_wp2
    go_ret
    exact ⟨rfl, rfl⟩
  · by_cases h2 : 2147483647 < c
    · rw [capI_high h2]
      go_enter Tryd.func44, Tryd.ntmps44
      go_wp2
      go_ret
      exact ⟨rfl, rfl⟩
    · rw [capI_in (by omega) (by omega)]
      go_enter Tryd.func44, Tryd.ntmps44
      go_wp2
      all_goals go_ret
      all_goals first | exact ⟨rfl, rfl⟩ | (rw [show c = -2147483647 by omega]; exact ⟨rfl, rfl⟩)


theorem ten_at (k : Nat) (h : k < 10) : ((⟨#[48, 49, 50, 51, 52, 53, 54, 55, 56, 57]⟩ : ByteArray).extract k (k + 1)).data.toList = [UInt8.ofNat (48 + k)] := by
  rw [data_ext]
  have : k = 0 ∨ k = 1 ∨ k = 2 ∨ k = 3 ∨ k = 4 ∨ k = 5 ∨ k = 6 ∨ k = 7 ∨ k = 8 ∨ k = 9 := by omega
  rcases this with rfl | rfl | rfl | rfl | rfl | rfl | rfl | rfl | rfl | rfl <;> rfl
theorem quo10_nat (m : Nat) : (m : Int).tdiv 10 = ((m / 10 : Nat) : Int) := by
  rw [Int.tdiv_eq_ediv_of_nonneg (by omega)]
  rfl
theorem rem10_nat (m : Nat) : (m : Int).tmod 10 = ((m % 10 : Nat) : Int) := by
  rw [Int.tmod_eq_emod_of_nonneg (by omega)]
  rfl

set_option maxRecDepth 100000 in
set_option maxHeartbeats 1000000 in
theorem digits_any (u : Nat) (hu : u ≤ 9223372036854775807) (w : World) :
    Calls Tryd.prog 8 #[.int .i64 u] w fun e w' => ∃ r : ByteArray, e = .returned (.string r) ∧ r.data.toList = Lib.decDigits u ∧ w' = w := by
  induction u using Nat.strongRecOn generalizing w with
  | ind u ih =>
    have hq := quo10_nat u
    have hr := rem10_nat u
    have ht := ten_at (u % 10) (by omega)
    by_cases h : u < 10
    · rw [Lib.decDigits_one h]
      go_enter Tryd.func8, Tryd.ntmps8
      go_wp2
      go_ret
      exact ⟨_, rfl, by rw [ht, Nat.mod_eq_of_lt h], rfl⟩
    · have h1 := fun w => ih (u / 10) (by omega) (by omega) w
      have e : Lib.decDigits u = Lib.decDigits (u / 10) ++ [UInt8.ofNat (48 + u % 10)] := by rw [Lib.decDigits, dif_neg h]
      rw [e]
      have hsz : ((⟨#[48, 49, 50, 51, 52, 53, 54, 55, 56, 57]⟩ : ByteArray).extract (u % 10) (u % 10 + 1)).size = 1 := by rw [← len_list, ht]; rfl
      go_enter Tryd.func8, Tryd.ntmps8
      go_wp2_with fail
      refine (h1 _).mono ?_
      rintro e w' ⟨r, rfl, hr1, rfl⟩
      have hs1 := dec_len (by omega) hr1
      go_wp2
      go_ret
      exact ⟨_, rfl, by rw [data_app, hr1, ht], rfl⟩


end Go.Proofs.YtkhgmobependiaaDoor.Nm

/- Plain facts on numbers' texts: digits and what they are as a number, a text of digits with a point or without, and that the text of a number comes back. -/
namespace Go.Proofs.YtkhgmobependiaaDoor.Nm
open Go

theorem ofNat_digit (k : Nat) (h : k < 10) : (UInt8.ofNat (48 + k)).toNat = 48 + k := by
  rw [UInt8.toNat_ofNat']
  omega
theorem dig_ofNat (k : Nat) (h : k < 10) : dig (UInt8.ofNat (48 + k)) = true := dig_iff.2 (by rw [ofNat_digit k h]; omega)
theorem allDig_append (a b : List UInt8) : allDig (a ++ b) = (allDig a && allDig b) := List.all_append
theorem grown_append (n : Int) (a b : List UInt8) : grown n (a ++ b) = grown (grown n a) b := List.foldl_append

theorem dec_dig (u : Nat) : allDig (Lib.decDigits u) = true := by
  induction u using Nat.strongRecOn with
  | ind u ih =>
    by_cases h : u < 10
    · rw [Lib.decDigits_one h]
      show (dig _ && true) = true
      rw [dig_ofNat u h]
      rfl
    · rw [Lib.decDigits, dif_neg h, allDig_append, ih (u / 10) (by omega)]
      show (true && (dig _ && true)) = true
      rw [dig_ofNat (u % 10) (by omega)]
      rfl
theorem dec_some (u : Nat) : Lib.decDigits u ≠ [] := by
  rw [Lib.decDigits]
  split <;> simp
theorem grow1_digit {n : Int} (k : Nat) (hk : k < 10) (h0 : 0 ≤ n) : grow1 n (UInt8.ofNat (48 + k)) = min (10 * n + k) 2147483647 := by
  unfold grow1 capI
  rw [ofNat_digit k hk]
  repeat' split
  all_goals omega
theorem dec_grown (u : Nat) : grown 0 (Lib.decDigits u) = min (u : Int) 2147483647 := by
  induction u using Nat.strongRecOn with
  | ind u ih =>
    by_cases h : u < 10
    · rw [Lib.decDigits_one h]
      show grow1 0 _ = _
      rw [grow1_digit u h (by omega)]
      omega
    · rw [Lib.decDigits, dif_neg h, grown_append, ih (u / 10) (by omega)]
      show grow1 _ _ = _
      rw [grow1_digit _ (by omega) (by omega)]
      omega
theorem grown_three {n : Int} {x y z : UInt8} (h0 : 0 ≤ n) (hx : dig x = true) (hy : dig y = true) (hz : dig z = true) :
    grown n [x, y, z] = min (1000 * n + 100 * ((x.toNat : Int) - 48) + 10 * ((y.toNat : Int) - 48) + ((z.toNat : Int) - 48)) 2147483647 := by
  have hx := dig_iff.1 hx
  have hy := dig_iff.1 hy
  have hz := dig_iff.1 hz
  show grow1 (grow1 (grow1 n x) y) z = _
  unfold grow1 capI
  repeat' split
  all_goals omega

theorem dig_not {c : UInt8} (h : dig c = true) : (c == 45) = false ∧ (c == 43) = false ∧ (c == 46) = false := by
  have h := dig_iff.1 h
  refine ⟨?_, ?_, ?_⟩ <;> (rw [beq_eq_false_iff_ne]; rintro rfl; revert h; decide)

/-- A text that begins with a digit has no sign. -/
theorem bare_dig {c : UInt8} (l : List UInt8) (h : dig c = true) : below (c :: l) = false ∧ bare (c :: l) = c :: l := by
  obtain ⟨h1, h2, _⟩ := dig_not h
  have e : below (c :: l) = false := by simpa [below] using h1
  exact ⟨e, by unfold bare lessOne; rw [e]; simpa using h2⟩
theorem bare_less (l : List UInt8) : below (45 :: l) = true ∧ bare (45 :: l) = l := ⟨rfl, rfl⟩
theorem bare_plus (l : List UInt8) : below (43 :: l) = false ∧ bare (43 :: l) = l := ⟨rfl, rfl⟩

theorem take_dig : ∀ (a b : List UInt8), allDig a = true → (a ++ 46 :: b).takeWhile (· != 46) = a ∧ (a ++ 46 :: b).dropWhile (· != 46) = 46 :: b
  | [], _, _ => ⟨rfl, rfl⟩
  | c :: a, b, h => by
    have h' : dig c = true ∧ allDig a = true := by simpa [allDig] using h
    obtain ⟨_, _, h3⟩ := dig_not h'.1
    obtain ⟨i1, i2⟩ := take_dig a b h'.2
    have h4 : (c != 46) = true := by rw [bne, h3]; rfl
    exact ⟨by rw [List.cons_append, List.takeWhile_cons, if_pos h4, i1], by rw [List.cons_append, List.dropWhile_cons, if_pos h4, i2]⟩
theorem take_all : ∀ (a : List UInt8), allDig a = true → a.takeWhile (· != 46) = a ∧ a.dropWhile (· != 46) = [] ∧ a.any (· == 46) = false
  | [], _ => ⟨rfl, rfl, rfl⟩
  | c :: a, h => by
    have h' : dig c = true ∧ allDig a = true := by simpa [allDig] using h
    obtain ⟨_, _, h3⟩ := dig_not h'.1
    obtain ⟨i1, i2, i3⟩ := take_all a h'.2
    have h4 : (c != 46) = true := by rw [bne, h3]; rfl
    exact ⟨by rw [List.takeWhile_cons, if_pos h4, i1], by rw [List.dropWhile_cons, if_pos h4, i2], by rw [List.any_cons, h3, i3]; rfl⟩

theorem num_dot {l a b : List UInt8} (hl : bare l = a ++ 46 :: b) (ha : allDig a = true) (hb : allDig b = true) (hne : b ≠ []) :
    numOk l = true ∧ numV l = grown (grown 0 a) (thou b) := by
  obtain ⟨e1, e2⟩ := take_dig a b ha
  unfold numOk numV numA numB numP
  rw [hl, e1, e2]
  refine ⟨?_, rfl⟩
  simp [isNum, ha, hb, hne]
theorem num_flat {l a : List UInt8} (hl : bare l = a) (ha : allDig a = true) (hne : a ≠ []) :
    numOk l = true ∧ numV l = grown (grown 0 a) [48, 48, 48] := by
  obtain ⟨e1, e2, e3⟩ := take_all a ha
  unfold numOk numV numA numB numP
  rw [hl, e1, e2, e3]
  refine ⟨?_, rfl⟩
  simp [isNum, ha, hne]
  rfl
theorem numN_up {l : List UInt8} (h1 : numOk l = true) (h2 : below l = false) : numN l = numV l := by simp [numN, h1, h2]
theorem numN_down {l : List UInt8} (h1 : numOk l = true) (h2 : below l = true) : numN l = -numV l := by simp [numN, h1, h2]

theorem three_dig (r : Nat) (h : r < 1000) : (Lib.decDigits (1000 + r)).drop 1 = [UInt8.ofNat (48 + r / 100), UInt8.ofNat (48 + r / 10 % 10), UInt8.ofNat (48 + r % 10)] := by rw [dec4 r h]; rfl
theorem grown_dec3 {n : Int} (h0 : 0 ≤ n) (r : Nat) (h : r < 1000) : grown n ((Lib.decDigits (1000 + r)).drop 1) = min (1000 * n + r) 2147483647 := by
  rw [three_dig r h, grown_three h0 (dig_ofNat _ (by omega)) (dig_ofNat _ (by omega)) (dig_ofNat _ (by omega)), ofNat_digit _ (by omega), ofNat_digit _ (by omega), ofNat_digit _ (by omega)]
  omega
theorem drop_dig (r : Nat) (h : r < 1000) : allDig ((Lib.decDigits (1000 + r)).drop 1) = true := by
  rw [three_dig r h]
  show (dig _ && (dig _ && (dig _ && true))) = true
  rw [dig_ofNat (r / 100) (by omega), dig_ofNat (r / 10 % 10) (by omega), dig_ofNat (r % 10) (by omega)]
  rfl

/-- Of any text whose bare part is the text of a number: it is one, and that one. -/
theorem num_mag {l : List UInt8} {m : Nat} (hm : m ≤ 2147483647) (hl : bare l = mag m) : numOk l = true ∧ numV l = m := by
  unfold mag frac at hl
  by_cases h : m % 1000 = 0
  · rw [if_pos h, List.append_nil] at hl
    obtain ⟨h1, h2⟩ := num_flat hl (dec_dig _) (dec_some _)
    refine ⟨h1, ?_⟩
    rw [h2, dec_grown, grown_three (by omega) (by decide) (by decide) (by decide)]
    rw [show ((48 : UInt8).toNat : Int) = 48 from rfl]
    omega
  · rw [if_neg h] at hl
    obtain ⟨h1, h2⟩ := num_dot hl (dec_dig _) (drop_dig _ (by omega)) (by rw [three_dig _ (by omega)]; simp)
    refine ⟨h1, ?_⟩
    have e : thou ((Lib.decDigits (1000 + m % 1000)).drop 1) = (Lib.decDigits (1000 + m % 1000)).drop 1 := by rw [three_dig _ (by omega)]; rfl
    rw [h2, e, dec_grown, grown_dec3 (by omega) _ (by omega)]
    omega
theorem dec_head (u : Nat) : ∃ c l, Lib.decDigits u = c :: l ∧ dig c = true := by
  have h := dec_dig u
  cases e : Lib.decDigits u with
  | nil => exact absurd e (dec_some u)
  | cons c l =>
    rw [e] at h
    exact ⟨c, l, rfl, (by simpa [allDig] using h : dig c = true ∧ allDig l = true).1⟩
theorem bare_mag (m : Nat) : below (mag m) = false ∧ bare (mag m) = mag m := by
  obtain ⟨c, l, e, hc⟩ := dec_head (m / 1000)
  unfold mag
  rw [e, List.cons_append]
  exact bare_dig _ hc
theorem num_txt (n : Int) : numOk (txt n) = true ∧ numN (txt n) = capI n := by
  have h1 := capI_ge n
  have h2 := capI_le n
  by_cases h : 0 ≤ capI n
  · rw [txt_up h]
    obtain ⟨b1, b2⟩ := bare_mag (capI n).natAbs
    obtain ⟨k1, k2⟩ := num_mag (by omega) b2
    exact ⟨k1, by rw [numN_up k1 b1, k2]; omega⟩
  · rw [txt_down (by omega)]
    obtain ⟨k1, k2⟩ := num_mag (l := 45 :: mag (capI n).natAbs) (by omega) rfl
    exact ⟨k1, by rw [numN_down k1 rfl, k2]; omega⟩
theorem mag_len (m : Nat) (hm : m ≤ 2147483647) : (mag m).length ≤ 30 := by
  unfold mag frac
  have h : (Lib.decDigits (m / 1000)).length ≤ 21 := by
    rw [← Lib.itoa_nonneg]
    exact Lib.itoa_length_le _ (by omega) (by omega)
  split
  · simp; omega
  · rw [three_dig _ (by omega)]
    simp
    omega
theorem txt_len (n : Int) : (txt n).length ≤ 31 := by
  have h1 := capI_ge n
  have h2 := capI_le n
  have h := mag_len (capI n).natAbs (by omega)
  unfold txt
  split
  · rw [List.length_cons]; omega
  · omega

end Go.Proofs.YtkhgmobependiaaDoor.Nm

/- The document's example: Of of -1.2345 is -1234, and the text of it is -1.234 (the laws' own 'alive'), in every world that holds the library's table. -/
namespace Go.Proofs.YtkhgmobependiaaDoor.Nm
open Go Go.RowKit Go.Shelf

theorem alive_num : numN [45, 49, 46, 50, 51, 52, 53] = -1234 ∧ numOk [45, 49, 46, 50, 51, 52, 53] = true := by decide +kernel
theorem alive_txt : txt (-1234) = [45, 49, 46, 50, 51, 52] := by
  have e : capI (-1234) = -1234 := by decide
  rw [txt, e, if_pos (by decide), mag, frac, if_neg (by decide)]
  rw [show ((-1234 : Int).natAbs / 1000) = 1 by decide, Lib.decDigits_one (by decide), show 1000 + (-1234 : Int).natAbs % 1000 = 1000 + 234 by decide, dec4 234 (by decide)]
  rfl
theorem eq_list {a : ByteArray} {l : List UInt8} (h : a.data.toList = l) : a = ⟨l.toArray⟩ := by
  cases a with
  | mk d => subst h; simp

end Go.Proofs.YtkhgmobependiaaDoor.Nm
