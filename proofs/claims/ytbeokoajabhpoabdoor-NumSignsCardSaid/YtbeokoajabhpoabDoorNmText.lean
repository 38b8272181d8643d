/- num.Text at every integer. -/
import Derived.Test.YtbeokoajabhpoabDoorNmOf
import Derived.Lib.ItoaLen
namespace Go.Proofs.YtbeokoajabhpoabDoor
open Go Go.RowKit Go.Shelf

theorem itoa_any (u : Nat) (w : World) (hu : u ≤ 9223372036854775807) (hT : Tabs w.heap.size w) :
    Calls Tryd.prog 14 #[.int .i64 u] w fun e w' => ∃ r : ByteArray, e = .returned (.string r) ∧ r.data.toList = Lib.decDigits u ∧ Below w.heap.size w w' := by
  refine (Tryd.strconv_Itoa u (by omega) (by omega) w hT.2.2.here).mono ?_
  rintro e w' ⟨rfl, k, os, rfl⟩
  exact ⟨_, rfl, by rw [Lib.itoa_nonneg], Lib.below_grow _ w (Nat.le_refl _) k os⟩

/-- What stands behind the whole part: nothing, or a point and three digits. -/
def frac (m : Nat) : List UInt8 := if m % 1000 = 0 then [] else 46 :: (Lib.decDigits (1000 + m % 1000)).drop 1
def mag (m : Nat) : List UInt8 := Lib.decDigits (m / 1000) ++ frac m
def txt (n : Int) : List UInt8 := if capI n < 0 then 45 :: mag (capI n).natAbs else mag (capI n).natAbs

theorem dec4 (r : Nat) (h : r < 1000) : Lib.decDigits (1000 + r) = [49, UInt8.ofNat (48 + r / 100), UInt8.ofNat (48 + r / 10 % 10), UInt8.ofNat (48 + r % 10)] := by
  rw [Lib.decDigits, dif_neg (by omega), Lib.decDigits, dif_neg (by omega), Lib.decDigits_two (by omega) (by omega)]
  rw [show (1000 + r) / 10 / 10 / 10 = 1 by omega, show (1000 + r) / 10 / 10 % 10 = r / 100 by omega, show (1000 + r) / 10 % 10 = r / 10 % 10 by omega, show (1000 + r) % 10 = r % 10 by omega]
  rfl

theorem quo_nat (m : Nat) : (m : Int).tdiv 1000 = ((m / 1000 : Nat) : Int) := by
  rw [Int.tdiv_eq_ediv_of_nonneg (by omega)]
  rfl
theorem rem_nat (m : Nat) : (m : Int).tmod 1000 = ((m % 1000 : Nat) : Int) := by
  rw [Int.tmod_eq_emod_of_nonneg (by omega)]
  rfl

theorem mag_flat {m : Nat} {g r : ByteArray} (h0 : m % 1000 = 0) (h : r.data.toList = Lib.decDigits (m / 1000)) : (g ++ r).data.toList = g.data.toList ++ mag m := by
  rw [data_app, mag, frac, if_pos h0, List.append_nil, h]
theorem mag_deep {m : Nat} {g r q : ByteArray} (h0 : ¬ m % 1000 = 0) (h : r.data.toList = Lib.decDigits (m / 1000)) (hq : q.data.toList = Lib.decDigits (1000 + m % 1000)) : (g ++ r ++ ⟨#[46]⟩ ++ q.extract 1 4).data.toList = g.data.toList ++ mag m := by
  rw [mag, frac, if_neg h0, data_app, data_app, data_app, data_ext, h, hq, dec4 _ (by omega)]
  simp
theorem dec_len {u : Nat} {r : ByteArray} (hu : u ≤ 9223372036854775807) (h : r.data.toList = Lib.decDigits u) : r.size ≤ 21 := by
  rw [← len_list, h, ← Lib.itoa_nonneg]
  exact Lib.itoa_length_le u (by omega) (by omega)
theorem four {m : Nat} {q : ByteArray} (hq : q.data.toList = Lib.decDigits (1000 + m % 1000)) : q.size = 4 := by
  rw [← len_list, hq, dec4 _ (by omega)]
  rfl

set_option maxRecDepth 100000 in
set_option maxHeartbeats 1000000 in
/-- Text at what is not below nought. -/
theorem text_up (n : Int) (w : World) (m : Nat) (hm : m ≤ 2147483647) (hc : capI n = m) (hT : Tabs w.heap.size w) :
    Calls Tryd.prog 9 #[.int .i64 n] w fun e w' => ∃ r : ByteArray, e = .returned (.string r) ∧ r.data.toList = mag m ∧ Below w.heap.size w w' := by
  have h1 := cap_any n
  rw [hc] at h1
  clear hc
  have hq := quo_nat m
  have hr := rem_nat m
  have h2 := fun w hT => itoa_any (m / 1000) w (by omega) hT
  have h3 := fun w hT => itoa_any (1000 + m % 1000) w (by omega) hT
  by_cases h0 : m % 1000 = 0
  · have hz : ((m % 1000 : Nat) : Int) = 0 := by omega
    go_enter Tryd.func9, Tryd.ntmps9
    go_wp2_with fail
    refine (h1 _).mono ?_
    rintro e w' ⟨rfl, rfl⟩
    go_wp2_with fail
    refine (h2 _ hT).mono ?_
    rintro e w1 ⟨r, rfl, hr1, b1⟩
    have hs1 := dec_len (by omega) hr1
    go_wp2
    go_ret
    exact ⟨_, rfl, mag_flat (g := ⟨#[]⟩) h0 hr1, b1⟩
  · have hz : ¬ ((m % 1000 : Nat) : Int) = 0 := by omega
    go_enter Tryd.func9, Tryd.ntmps9
    go_wp2_with fail
    refine (h1 _).mono ?_
    rintro e w' ⟨rfl, rfl⟩
    go_wp2_with fail
    refine (h2 _ hT).mono ?_
    rintro e w1 ⟨r, rfl, hr1, b1⟩
    have hs1 := dec_len (by omega) hr1
    go_wp2_with fail
    refine (h3 _ (hT.next b1)).mono ?_
    rintro e w2 ⟨q, rfl, hr2, b2⟩
    have h4 := four hr2
    go_wp2
    go_ret
    exact ⟨_, rfl, mag_deep (g := ⟨#[]⟩) h0 hr1 hr2, b1.trans (b2.mono b1.size)⟩

set_option maxRecDepth 100000 in
set_option maxHeartbeats 1000000 in
/-- Text at what is below nought. -/
theorem text_down (n : Int) (w : World) (m : Nat) (hm : m ≤ 2147483647) (hp : 0 < m) (hc : capI n = -(m : Int)) (hT : Tabs w.heap.size w) :
    Calls Tryd.prog 9 #[.int .i64 n] w fun e w' => ∃ r : ByteArray, e = .returned (.string r) ∧ r.data.toList = 45 :: mag m ∧ Below w.heap.size w w' := by
  have h1 := cap_any n
  rw [hc] at h1
  clear hc
  have hq := quo_nat m
  have hr := rem_nat m
  have h2 := fun w hT => itoa_any (m / 1000) w (by omega) hT
  have h3 := fun w hT => itoa_any (1000 + m % 1000) w (by omega) hT
  by_cases h0 : m % 1000 = 0
  · have hz : ((m % 1000 : Nat) : Int) = 0 := by omega
    go_enter Tryd.func9, Tryd.ntmps9
    go_wp2_with fail
    refine (h1 _).mono ?_
    rintro e w' ⟨rfl, rfl⟩
    go_wp2_with fail
    refine (h2 _ hT).mono ?_
    rintro e w1 ⟨r, rfl, hr1, b1⟩
    have hs1 := dec_len (by omega) hr1
    go_wp2
    go_ret
    exact ⟨_, rfl, mag_flat (g := ⟨#[45]⟩) h0 hr1, b1⟩
  · have hz : ¬ ((m % 1000 : Nat) : Int) = 0 := by omega
    go_enter Tryd.func9, Tryd.ntmps9
    go_wp2_with fail
    refine (h1 _).mono ?_
    rintro e w' ⟨rfl, rfl⟩
    go_wp2_with fail
    refine (h2 _ hT).mono ?_
    rintro e w1 ⟨r, rfl, hr1, b1⟩
    have hs1 := dec_len (by omega) hr1
    go_wp2_with fail
    refine (h3 _ (hT.next b1)).mono ?_
    rintro e w2 ⟨q, rfl, hr2, b2⟩
    have h4 := four hr2
    go_wp2
    go_ret
    exact ⟨_, rfl, mag_deep (g := ⟨#[45]⟩) h0 hr1 hr2, b1.trans (b2.mono b1.size)⟩

theorem txt_up {n : Int} (h : 0 ≤ capI n) : txt n = mag (capI n).natAbs := by unfold txt; rw [if_neg (by omega)]
theorem txt_down {n : Int} (h : capI n < 0) : txt n = 45 :: mag (capI n).natAbs := by unfold txt; rw [if_pos h]
theorem text_any (n : Int) (w : World) (hT : Tabs w.heap.size w) :
    Calls Tryd.prog 9 #[.int .i64 n] w fun e w' => ∃ r : ByteArray, e = .returned (.string r) ∧ r.data.toList = txt n ∧ Below w.heap.size w w' := by
  have h1 := capI_ge n
  have h2 := capI_le n
  by_cases h : 0 ≤ capI n
  · rw [txt_up h]
    exact text_up n w _ (by omega) (by omega) hT
  · rw [txt_down (by omega)]
    exact text_down n w _ (by omega) (by omega) (by omega) hT

end Go.Proofs.YtbeokoajabhpoabDoor
