/- num.Text at every integer. -/
import Derived.Test.YtlgfmncflnipgaaDoorNmOf
import Derived.Lib.ItoaLen
namespace Go.Proofs.YtlgfmncflnipgaaDoor.Nm
open Go Go.RowKit Go.Shelf

theorem itoa_any (u : Nat) (w : World) (hu : u ≤ 9223372036854775807) (hT : Tabs w.heap.size w) :
    Calls Tryd.prog 31 #[.int .i64 u] w fun e w' => ∃ r : ByteArray, e = .returned (.string r) ∧ r.data.toList = Lib.decDigits u ∧ Below w.heap.size w w' := by
  refine (Tryd.strconv_Itoa u (by omega) (by omega) w hT.2.2.here).mono ?_
  rintro e w' ⟨rfl, k, os, rfl⟩
  exact ⟨_, rfl, by rw [Lib.itoa_nonneg], Lib.below_grow _ w (Nat.le_refl _) k os⟩

/-- What stands behind the whole part: nothing, or a point and three digits. -/
def frac (m : Nat) : List UInt8 := if m % 1000 = 0 then [] else 46 :: (Lib.decDigits (1000 + m % 1000)).drop 1
def mag (m : Nat) : List UInt8 := Lib.decDigits (m / 1000) ++ frac m
def txt (n : Int) : List UInt8 := if capI n < 0 then 45 :: mag (capI n).natAbs else mag (capI n).natAbs

theorem dec4 (r : Nat) (h : r < 1000) : Lib.decDigits (1000 + r) = [49, UInt8.ofNat (48 + r / 100), UInt8.ofNat (48 + r / 10 % 10), UInt8.ofNat (48 + r % 10)] := by
  rw [Lib.decDigits, dif_neg (by omega), Lib.decDigits, dif_neg (by omega), Lib.decDigits_two (by omega) (by omega)]
  rw [show (1000 + r) / 10 / 10 / 10 = 1 by omega, show (1000 + r) / 10 / 10 % 10 = r / 100 by omega, show (1000 + r) / 10 % 10 = r / 10 % 10 by omega, show (1000 + r) % 10 = r % 10 by omega]
  rfl

theorem quo_nat (m : Nat) : (m : Int).tdiv 1000 = ((m / 1000 : Nat) : Int) := by
  rw [Int.tdiv_eq_ediv_of_nonneg (by omega)]
  rfl
theorem rem_nat (m : Nat) : (m : Int).tmod 1000 = ((m % 1000 : Nat) : Int) := by
  rw [Int.tmod_eq_emod_of_nonneg (by omega)]
  rfl

theorem mag_flat {m : Nat} {g r : ByteArray} (h0 : m % 1000 = 0) (h : r.data.toList = Lib.decDigits (m / 1000)) : (g ++ r).data.toList = g.data.toList ++ mag m := by
  rw [data_app, mag, frac, if_pos h0, List.append_nil, h]
theorem mag_deep {m : Nat} {g r q : ByteArray} (h0 : ¬ m % 1000 = 0) (h : r.data.toList = Lib.decDigits (m / 1000)) (hq : q.data.toList = Lib.decDigits (1000 + m % 1000)) : (g ++ r ++ ⟨#[46]⟩ ++ q.extract 1 4).data.toList = g.data.toList ++ mag m := by
  rw [mag, frac, if_neg h0, data_app, data_app, data_app, data_ext, h, hq, dec4 _ (by omega)]
  simp
theorem dec_len {u : Nat} {r : ByteArray} (hu : u ≤ 9223372036854775807) (h : r.data.toList = Lib.decDigits u) : r.size ≤ 21 := by
  rw [← len_list, h, ← Lib.itoa_nonneg]
  exact Lib.itoa_length_le u (by omega) (by omega)
theorem four {m : Nat} {q : ByteArray} (hq : q.data.toList = Lib.decDigits (1000 + m % 1000)) : q.size = 4 := by
  rw [← len_list, hq, dec4 _ (by omega)]
  rfl

set_option maxRecDepth 100000 in
set_option maxHeartbeats 1000000 in
/-- Text at what is not below nought. -/
theorem text_up (n : Int) (w : World) (m : Nat) (hm : m ≤ 2147483647) (hc : capI n = m) (hT : Tabs w.heap.size w) :
    Calls Tryd.prog 18 #[.int .i64 n] w fun e w' => ∃ r : ByteArray, e = .returned (.string r) ∧ r.data.toList = mag m ∧ Below w.heap.size w w' := by
  have h1 := cap_any n
  rw [hc] at h1
  clear hc
  have hq := quo_nat m
  have hr := rem_nat m
  have h2 := fun w hT => itoa_any (m / 1000) w (by omega) hT
  have h3 := fun w hT => itoa_any (1000 + m % 1000) w (by omega) hT
  by_cases h0 : m % 1000 = 0
  · have hz : ((m % 1000 : Nat) : Int) = 0 := by omega
    go_enter Tryd.func18, Tryd.ntmps18
    go_wp2_with fail
    refine (h1 _).mono ?_
    rintro e w' ⟨rfl, rfl⟩
    go_wp2_with fail
    refine (h2 _ hT).mono ?_
    rintro e w1 ⟨r, rfl, hr1, b1⟩
    have hs1 := dec_len (by omega) hr1
    go_wp2
    go_ret
    exact ⟨_, rfl, mag_flat (g := ⟨#[]⟩) h0 hr1, b1⟩
  · have hz : ¬ ((m % 1000 : Nat) : Int) = 0 := by omega
    go_enter Tryd.func18, Tryd.ntmps18
    go_wp2_with fail
    refine (h1 _).mono ?_
    rintro e w' ⟨rfl, rfl⟩
    go_wp2_with fail
    refine (h2 _ hT).mono ?_
    rintro e w1 ⟨r, rfl, hr1, b1⟩
    have hs1 := dec_len (by omega) hr1
    go_wp2_with fail
    refine (h3 _ (hT.next b1)).mono ?_
    rintro e w2 ⟨q, rfl, hr2, b2⟩
    have h4 := four hr2
    go_wp2
    go_ret
    exact ⟨_, rfl, mag_deep (g := ⟨#[]⟩) h0 hr1 hr2, b1.trans (b2.mono b1.size)⟩

set_option maxRecDepth 100000 in
set_option maxHeartbeats 1000000 in
/-- Text at what is below nought. -/
theorem text_down (n : Int) (w : World) (m : Nat) (hm : m ≤ 2147483647) (hp : 0 < m) (hc : capI n = -(m : Int)) (hT : Tabs w.heap.size w) :
    Calls Tryd.prog 18 #[.int .i64 n] w fun e w' => ∃ r : ByteArray, e = .returned (.string r) ∧ r.data.toList = 45 :: mag m ∧ Below w.heap.size w w' := by
  have h1 := cap_any n
  rw [hc] at h1
  clear hc
  have hq := quo_nat m
  have hr := rem_nat m
  have h2 := fun w hT => itoa_any (m / 1000) w (by omega) hT
  have h3 := fun w hT => itoa_any (1000 + m % 1000) w (by omega) hT
  by_cases h0 : m % 1000 = 0
  · have hz : ((m % 1000 : Nat) : Int) = 0 := by omega
    go_enter Tryd.func18, Tryd.ntmps18
    go_wp2_with fail
    refine (h1 _).mono ?_
    rintro e w' ⟨rfl, rfl⟩
    go_wp2_with fail
    refine (h2 _ hT).mono ?_
    rintro e w1 ⟨r, rfl, hr1, b1⟩
    have hs1 := dec_len (by omega) hr1
    go_wp2
    go_ret
    exact ⟨_, rfl, mag_flat (g := ⟨#[45]⟩) h0 hr1, b1⟩
  · have hz : ¬ ((m % 1000 : Nat) : Int) = 0 := by omega
    go_enter Tryd.func18, Tryd.ntmps18
    go_wp2_with fail
    refine (h1 _).mono ?_
    rintro e w' ⟨rfl, rfl⟩
    go_wp2_with fail
    refine (h2 _ hT).mono ?_
    rintro e w1 ⟨r, rfl, hr1, b1⟩
    have hs1 := dec_len (by omega) hr1
    go_wp2_with fail
    refine (h3 _ (hT.next b1)).mono ?_
    rintro e w2 ⟨q, rfl, hr2, b2⟩
    have h4 := four hr2
    go_wp2
    go_ret
    exact ⟨_, rfl, mag_deep (g := ⟨#[45]⟩) h0 hr1 hr2, b1.trans (b2.mono b1.size)⟩

theorem txt_up {n : Int} (h : 0 ≤ capI n) : txt n = mag (capI n).natAbs := by unfold txt; rw [if_neg (by omega)]
theorem txt_down {n : Int} (h : capI n < 0) : txt n = 45 :: mag (capI n).natAbs := by unfold txt; rw [if_pos h]
theorem text_any (n : Int) (w : World) (hT : Tabs w.heap.size w) :
    Calls Tryd.prog 18 #[.int .i64 n] w fun e w' => ∃ r : ByteArray, e = .returned (.string r) ∧ r.data.toList = txt n ∧ Below w.heap.size w w' := by
  have h1 := capI_ge n
  have h2 := capI_le n
  by_cases h : 0 ≤ capI n
  · rw [txt_up h]
    exact text_up n w _ (by omega) (by omega) hT
  · rw [txt_down (by omega)]
    exact text_down n w _ (by omega) (by omega) (by omega) hT

end Go.Proofs.YtlgfmncflnipgaaDoor.Nm

/- The document's own Cap, Add, Times, Digits and NumText, at every integer. -/
namespace Go.Proofs.YtlgfmncflnipgaaDoor.Nm
open Go Go.RowKit Go.Shelf


theorem ten_at (k : Nat) (h : k < 10) : ((⟨#[48, 49, 50, 51, 52, 53, 54, 55, 56, 57]⟩ : ByteArray).extract k (k + 1)).data.toList = [UInt8.ofNat (48 + k)] := by
  rw [data_ext]
  have : k = 0 ∨ k = 1 ∨ k = 2 ∨ k = 3 ∨ k = 4 ∨ k = 5 ∨ k = 6 ∨ k = 7 ∨ k = 8 ∨ k = 9 := by omega
  rcases this with rfl | rfl | rfl | rfl | rfl | rfl | rfl | rfl | rfl | rfl <;> rfl
theorem quo10_nat (m : Nat) : (m : Int).tdiv 10 = ((m / 10 : Nat) : Int) := by
  rw [Int.tdiv_eq_ediv_of_nonneg (by omega)]
  rfl
theorem rem10_nat (m : Nat) : (m : Int).tmod 10 = ((m % 10 : Nat) : Int) := by
  rw [Int.tmod_eq_emod_of_nonneg (by omega)]
  rfl


end Go.Proofs.YtlgfmncflnipgaaDoor.Nm

/- Plain facts on numbers' texts: digits and what they are as a number, a text of digits with a point or without, and that the text of a number comes back. -/
namespace Go.Proofs.YtlgfmncflnipgaaDoor.Nm
open Go

theorem ofNat_digit (k : Nat) (h : k < 10) : (UInt8.ofNat (48 + k)).toNat = 48 + k := by
  rw [UInt8.toNat_ofNat']
  omega
theorem dig_ofNat (k : Nat) (h : k < 10) : dig (UInt8.ofNat (48 + k)) = true := dig_iff.2 (by rw [ofNat_digit k h]; omega)
theorem allDig_append (a b : List UInt8) : allDig (a ++ b) = (allDig a && allDig b) := List.all_append
theorem grown_append (n : Int) (a b : List UInt8) : grown n (a ++ b) = grown (grown n a) b := List.foldl_append

theorem dec_dig (u : Nat) : allDig (Lib.decDigits u) = true := by
  induction u using Nat.strongRecOn with
  | ind u ih =>
    by_cases h : u < 10
    · rw [Lib.decDigits_one h]
      show (dig _ && true) = true
      rw [dig_ofNat u h]
      rfl
    · rw [Lib.decDigits, dif_neg h, allDig_append, ih (u / 10) (by omega)]
      show (true && (dig _ && true)) = true
      rw [dig_ofNat (u % 10) (by omega)]
      rfl
theorem dec_some (u : Nat) : Lib.decDigits u ≠ [] := by
  rw [Lib.decDigits]
  split <;> simp
theorem grow1_digit {n : Int} (k : Nat) (hk : k < 10) (h0 : 0 ≤ n) : grow1 n (UInt8.ofNat (48 + k)) = min (10 * n + k) 2147483647 := by
  unfold grow1 capI
  rw [ofNat_digit k hk]
  repeat' split
  all_goals omega
theorem dec_grown (u : Nat) : grown 0 (Lib.decDigits u) = min (u : Int) 2147483647 := by
  induction u using Nat.strongRecOn with
  | ind u ih =>
    by_cases h : u < 10
    · rw [Lib.decDigits_one h]
      show grow1 0 _ = _
      rw [grow1_digit u h (by omega)]
      omega
    · rw [Lib.decDigits, dif_neg h, grown_append, ih (u / 10) (by omega)]
      show grow1 _ _ = _
      rw [grow1_digit _ (by omega) (by omega)]
      omega
theorem grown_three {n : Int} {x y z : UInt8} (h0 : 0 ≤ n) (hx : dig x = true) (hy : dig y = true) (hz : dig z = true) :
    grown n [x, y, z] = min (1000 * n + 100 * ((x.toNat : Int) - 48) + 10 * ((y.toNat : Int) - 48) + ((z.toNat : Int) - 48)) 2147483647 := by
  have hx := dig_iff.1 hx
  have hy := dig_iff.1 hy
  have hz := dig_iff.1 hz
  show grow1 (grow1 (grow1 n x) y) z = _
  unfold grow1 capI
  repeat' split
  all_goals omega

theorem dig_not {c : UInt8} (h : dig c = true) : (c == 45) = false ∧ (c == 43) = false ∧ (c == 46) = false := by
  have h := dig_iff.1 h
  refine ⟨?_, ?_, ?_⟩ <;> (rw [beq_eq_false_iff_ne]; rintro rfl; revert h; decide)

/-- A text that begins with a digit has no sign. -/
theorem bare_dig {c : UInt8} (l : List UInt8) (h : dig c = true) : below (c :: l) = false ∧ bare (c :: l) = c :: l := by
  obtain ⟨h1, h2, _⟩ := dig_not h
  have e : below (c :: l) = false := by simpa [below] using h1
  exact ⟨e, by unfold bare lessOne; rw [e]; simpa using h2⟩
theorem bare_less (l : List UInt8) : below (45 :: l) = true ∧ bare (45 :: l) = l := ⟨rfl, rfl⟩
theorem bare_plus (l : List UInt8) : below (43 :: l) = false ∧ bare (43 :: l) = l := ⟨rfl, rfl⟩

theorem take_dig : ∀ (a b : List UInt8), allDig a = true → (a ++ 46 :: b).takeWhile (· != 46) = a ∧ (a ++ 46 :: b).dropWhile (· != 46) = 46 :: b
  | [], _, _ => ⟨rfl, rfl⟩
  | c :: a, b, h => by
    have h' : dig c = true ∧ allDig a = true := by simpa [allDig] using h
    obtain ⟨_, _, h3⟩ := dig_not h'.1
    obtain ⟨i1, i2⟩ := take_dig a b h'.2
    have h4 : (c != 46) = true := by rw [bne, h3]; rfl
    exact ⟨by rw [List.cons_append, List.takeWhile_cons, if_pos h4, i1], by rw [List.cons_append, List.dropWhile_cons, if_pos h4, i2]⟩
theorem take_all : ∀ (a : List UInt8), allDig a = true → a.takeWhile (· != 46) = a ∧ a.dropWhile (· != 46) = [] ∧ a.any (· == 46) = false
  | [], _ => ⟨rfl, rfl, rfl⟩
  | c :: a, h => by
    have h' : dig c = true ∧ allDig a = true := by simpa [allDig] using h
    obtain ⟨_, _, h3⟩ := dig_not h'.1
    obtain ⟨i1, i2, i3⟩ := take_all a h'.2
    have h4 : (c != 46) = true := by rw [bne, h3]; rfl
    exact ⟨by rw [List.takeWhile_cons, if_pos h4, i1], by rw [List.dropWhile_cons, if_pos h4, i2], by rw [List.any_cons, h3, i3]; rfl⟩

theorem num_dot {l a b : List UInt8} (hl : bare l = a ++ 46 :: b) (ha : allDig a = true) (hb : allDig b = true) (hne : b ≠ []) :
    numOk l = true ∧ numV l = grown (grown 0 a) (thou b) := by
  obtain ⟨e1, e2⟩ := take_dig a b ha
  unfold numOk numV numA numB numP
  rw [hl, e1, e2]
  refine ⟨?_, rfl⟩
  simp [isNum, ha, hb, hne]
theorem num_flat {l a : List UInt8} (hl : bare l = a) (ha : allDig a = true) (hne : a ≠ []) :
    numOk l = true ∧ numV l = grown (grown 0 a) [48, 48, 48] := by
  obtain ⟨e1, e2, e3⟩ := take_all a ha
  unfold numOk numV numA numB numP
  rw [hl, e1, e2, e3]
  refine ⟨?_, rfl⟩
  simp [isNum, ha, hne]
  rfl
theorem numN_up {l : List UInt8} (h1 : numOk l = true) (h2 : below l = false) : numN l = numV l := by simp [numN, h1, h2]
theorem numN_down {l : List UInt8} (h1 : numOk l = true) (h2 : below l = true) : numN l = -numV l := by simp [numN, h1, h2]

theorem three_dig (r : Nat) (h : r < 1000) : (Lib.decDigits (1000 + r)).drop 1 = [UInt8.ofNat (48 + r / 100), UInt8.ofNat (48 + r / 10 % 10), UInt8.ofNat (48 + r % 10)] := by rw [dec4 r h]; rfl
theorem grown_dec3 {n : Int} (h0 : 0 ≤ n) (r : Nat) (h : r < 1000) : grown n ((Lib.decDigits (1000 + r)).drop 1) = min (1000 * n + r) 2147483647 := by
  rw [three_dig r h, grown_three h0 (dig_ofNat _ (by omega)) (dig_ofNat _ (by omega)) (dig_ofNat _ (by omega)), ofNat_digit _ (by omega), ofNat_digit _ (by omega), ofNat_digit _ (by omega)]
  omega
theorem drop_dig (r : Nat) (h : r < 1000) : allDig ((Lib.decDigits (1000 + r)).drop 1) = true := by
  rw [three_dig r h]
  show (dig _ && (dig _ && (dig _ && true))) = true
  rw [dig_ofNat (r / 100) (by omega), dig_ofNat (r / 10 % 10) (by omega), dig_ofNat (r % 10) (by omega)]
  rfl

/-- Of any text whose bare part is the text of a number: it is one, and that one. -/
theorem num_mag {l : List UInt8} {m : Nat} (hm : m ≤ 2147483647) (hl : bare l = mag m) : numOk l = true ∧ numV l = m := by
  unfold mag frac at hl
  by_cases h : m % 1000 = 0
  · rw [if_pos h, List.append_nil] at hl
    obtain ⟨h1, h2⟩ := num_flat hl (dec_dig _) (dec_some _)
    refine ⟨h1, ?_⟩
    rw [h2, dec_grown, grown_three (by omega) (by decide) (by decide) (by decide)]
    rw [show ((48 : UInt8).toNat : Int) = 48 from rfl]
    omega
  · rw [if_neg h] at hl
    obtain ⟨h1, h2⟩ := num_dot hl (dec_dig _) (drop_dig _ (by omega)) (by rw [three_dig _ (by omega)]; simp)
    refine ⟨h1, ?_⟩
    have e : thou ((Lib.decDigits (1000 + m % 1000)).drop 1) = (Lib.decDigits (1000 + m % 1000)).drop 1 := by rw [three_dig _ (by omega)]; rfl
    rw [h2, e, dec_grown, grown_dec3 (by omega) _ (by omega)]
    omega
theorem dec_head (u : Nat) : ∃ c l, Lib.decDigits u = c :: l ∧ dig c = true := by
  have h := dec_dig u
  cases e : Lib.decDigits u with
  | nil => exact absurd e (dec_some u)
  | cons c l =>
    rw [e] at h
    exact ⟨c, l, rfl, (by simpa [allDig] using h : dig c = true ∧ allDig l = true).1⟩
theorem bare_mag (m : Nat) : below (mag m) = false ∧ bare (mag m) = mag m := by
  obtain ⟨c, l, e, hc⟩ := dec_head (m / 1000)
  unfold mag
  rw [e, List.cons_append]
  exact bare_dig _ hc
theorem num_txt (n : Int) : numOk (txt n) = true ∧ numN (txt n) = capI n := by
  have h1 := capI_ge n
  have h2 := capI_le n
  by_cases h : 0 ≤ capI n
  · rw [txt_up h]
    obtain ⟨b1, b2⟩ := bare_mag (capI n).natAbs
    obtain ⟨k1, k2⟩ := num_mag (by omega) b2
    exact ⟨k1, by rw [numN_up k1 b1, k2]; omega⟩
  · rw [txt_down (by omega)]
    obtain ⟨k1, k2⟩ := num_mag (l := 45 :: mag (capI n).natAbs) (by omega) rfl
    exact ⟨k1, by rw [numN_down k1 rfl, k2]; omega⟩
theorem mag_len (m : Nat) (hm : m ≤ 2147483647) : (mag m).length ≤ 30 := by
  unfold mag frac
  have h : (Lib.decDigits (m / 1000)).length ≤ 21 := by
    rw [← Lib.itoa_nonneg]
    exact Lib.itoa_length_le _ (by omega) (by omega)
  split
  · simp; omega
  · rw [three_dig _ (by omega)]
    simp
    omega
theorem txt_len (n : Int) : (txt n).length ≤ 31 := by
  have h1 := capI_ge n
  have h2 := capI_le n
  have h := mag_len (capI n).natAbs (by omega)
  unfold txt
  split
  · rw [List.length_cons]; omega
  · omega

end Go.Proofs.YtlgfmncflnipgaaDoor.Nm

/- The document's example: Of of -1.2345 is -1234, and the text of it is -1.234 (the laws' own 'alive'), in every world that holds the library's table. -/
namespace Go.Proofs.YtlgfmncflnipgaaDoor.Nm
open Go Go.RowKit Go.Shelf

theorem alive_num : numN [45, 49, 46, 50, 51, 52, 53] = -1234 ∧ numOk [45, 49, 46, 50, 51, 52, 53] = true := by decide +kernel
theorem alive_txt : txt (-1234) = [45, 49, 46, 50, 51, 52] := by
  have e : capI (-1234) = -1234 := by decide
  rw [txt, e, if_pos (by decide), mag, frac, if_neg (by decide)]
  rw [show ((-1234 : Int).natAbs / 1000) = 1 by decide, Lib.decDigits_one (by decide), show 1000 + (-1234 : Int).natAbs % 1000 = 1000 + 234 by decide, dec4 234 (by decide)]
  rfl
theorem eq_list {a : ByteArray} {l : List UInt8} (h : a.data.toList = l) : a = ⟨l.toArray⟩ := by
  cases a with
  | mk d => subst h; simp

end Go.Proofs.YtlgfmncflnipgaaDoor.Nm
