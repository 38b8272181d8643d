/- The document's own Cap, Add, Times, Digits and NumText, at every integer. -/
import Derived.Test.YtbeokoajabhpoaaDoorNmText
namespace Go.Proofs.YtbeokoajabhpoaaDoor
open Go Go.RowKit Go.Shelf

set_option maxHeartbeats 400000 in
theorem refCap_any (c : Int) (w : World) : Calls Tryd.prog 15 #[.int .i64 c] w fun e w' => e = .returned (.int .i64 (capI c)) ∧ w' = w := by
  by_cases h1 : c < -2147483647
  · rw [capI_low h1]
    go_enter Tryd.func15, Tryd.ntmps15
    go_wp2
    go_ret
    exact ⟨rfl, rfl⟩
  · by_cases h2 : 2147483647 < c
    · rw [capI_high h2]
      go_enter Tryd.func15, Tryd.ntmps15
      go_wp2
      go_ret
      exact ⟨rfl, rfl⟩
    · rw [capI_in (by omega) (by omega)]
      go_enter Tryd.func15, Tryd.ntmps15
      go_wp2
      all_goals go_ret
      all_goals first | exact ⟨rfl, rfl⟩ | (rw [show c = -2147483647 by omega]; exact ⟨rfl, rfl⟩)

set_option maxHeartbeats 400000 in
theorem refAdd_any (a b : Int) (w : World) : Calls Tryd.prog 17 #[.int .i64 a, .int .i64 b] w fun e w' => e = .returned (.int .i64 (capI (capI a + capI b))) ∧ w' = w := by
  have ha := refCap_any a
  have hb := refCap_any b
  have hc := refCap_any (capI a + capI b)
  have a1 := capI_ge a
  have a2 := capI_le a
  have b1 := capI_ge b
  have b2 := capI_le b
  generalize capI a = x at *
  generalize capI b = y at *
  go_enter Tryd.func17, Tryd.ntmps17
  go_wp2_with fail
  refine (ha _).mono ?_
  rintro e w' ⟨rfl, rfl⟩
  go_wp2_with fail
  refine (hb _).mono ?_
  rintro e w' ⟨rfl, rfl⟩
  go_wp2_with fail
  refine (hc _).mono ?_
  rintro e w' ⟨rfl, rfl⟩
  go_wp2
  go_ret
  exact ⟨rfl, rfl⟩

set_option maxHeartbeats 400000 in
theorem refTimes_any (a b : Int) (w : World) : Calls Tryd.prog 19 #[.int .i64 a, .int .i64 b] w fun e w' => e = .returned (.int .i64 (capI ((capI a * capI b).tdiv 1000))) ∧ w' = w := by
  have ha := refCap_any a
  have hb := refCap_any b
  have hc := refCap_any ((capI a * capI b).tdiv 1000)
  have hm := int_mul_bound (capI_ge a) (capI_le a) (capI_ge b) (capI_le b)
  generalize capI a = x at *
  generalize capI b = y at *
  obtain ⟨m1, m2⟩ := hm
  go_enter Tryd.func19, Tryd.ntmps19
  go_wp2_with fail
  refine (ha _).mono ?_
  rintro e w' ⟨rfl, rfl⟩
  go_wp2_with fail
  refine (hb _).mono ?_
  rintro e w' ⟨rfl, rfl⟩
  go_wp2_with fail
  refine (hc _).mono ?_
  rintro e w' ⟨rfl, rfl⟩
  go_wp2
  go_ret
  exact ⟨rfl, rfl⟩

theorem ten_at (k : Nat) (h : k < 10) : ((⟨#[48, 49, 50, 51, 52, 53, 54, 55, 56, 57]⟩ : ByteArray).extract k (k + 1)).data.toList = [UInt8.ofNat (48 + k)] := by
  rw [data_ext]
  have : k = 0 ∨ k = 1 ∨ k = 2 ∨ k = 3 ∨ k = 4 ∨ k = 5 ∨ k = 6 ∨ k = 7 ∨ k = 8 ∨ k = 9 := by omega
  rcases this with rfl | rfl | rfl | rfl | rfl | rfl | rfl | rfl | rfl | rfl <;> rfl
theorem quo10_nat (m : Nat) : (m : Int).tdiv 10 = ((m / 10 : Nat) : Int) := by
  rw [Int.tdiv_eq_ediv_of_nonneg (by omega)]
  rfl
theorem rem10_nat (m : Nat) : (m : Int).tmod 10 = ((m % 10 : Nat) : Int) := by
  rw [Int.tmod_eq_emod_of_nonneg (by omega)]
  rfl

set_option maxRecDepth 100000 in
set_option maxHeartbeats 1000000 in
theorem digits_any (u : Nat) (hu : u ≤ 9223372036854775807) (w : World) :
    Calls Tryd.prog 20 #[.int .i64 u] w fun e w' => ∃ r : ByteArray, e = .returned (.string r) ∧ r.data.toList = Lib.decDigits u ∧ w' = w := by
  induction u using Nat.strongRecOn generalizing w with
  | ind u ih =>
    have hq := quo10_nat u
    have hr := rem10_nat u
    have ht := ten_at (u % 10) (by omega)
    by_cases h : u < 10
    · rw [Lib.decDigits_one h]
      go_enter Tryd.func20, Tryd.ntmps20
      go_wp2
      go_ret
      exact ⟨_, rfl, by rw [ht, Nat.mod_eq_of_lt h], rfl⟩
    · have h1 := fun w => ih (u / 10) (by omega) (by omega) w
      have e : Lib.decDigits u = Lib.decDigits (u / 10) ++ [UInt8.ofNat (48 + u % 10)] := by rw [Lib.decDigits, dif_neg h]
      rw [e]
      have hsz : ((⟨#[48, 49, 50, 51, 52, 53, 54, 55, 56, 57]⟩ : ByteArray).extract (u % 10) (u % 10 + 1)).size = 1 := by rw [← len_list, ht]; rfl
      go_enter Tryd.func20, Tryd.ntmps20
      go_wp2_with fail
      refine (h1 _).mono ?_
      rintro e w' ⟨r, rfl, hr1, rfl⟩
      have hs1 := dec_len (by omega) hr1
      go_wp2
      go_ret
      exact ⟨_, rfl, by rw [data_app, hr1, ht], rfl⟩

set_option maxRecDepth 100000 in
set_option maxHeartbeats 1000000 in
/-- The document's own NumText at what is not below nought. -/
theorem refText_up (n : Int) (w : World) (m : Nat) (hm : m ≤ 2147483647) (hc : capI n = m) :
    Calls Tryd.prog 13 #[.int .i64 n] w fun e w' => ∃ r : ByteArray, e = .returned (.string r) ∧ r.data.toList = mag m ∧ w' = w := by
  have h1 := refCap_any n
  rw [hc] at h1
  clear hc
  have hq := quo_nat m
  have hr := rem_nat m
  have h2 := fun w => digits_any (m / 1000) (by omega) w
  have h3 := fun w => digits_any (1000 + m % 1000) (by omega) w
  by_cases h0 : m % 1000 = 0
  · have hz : ((m % 1000 : Nat) : Int) = 0 := by omega
    go_enter Tryd.func13, Tryd.ntmps13
    go_wp2_with fail
    refine (h1 _).mono ?_
    rintro e w' ⟨rfl, rfl⟩
    go_wp2_with fail
    refine (h2 _).mono ?_
    rintro e w1 ⟨r, rfl, hr1, rfl⟩
    have hs1 := dec_len (by omega) hr1
    go_wp2
    go_ret
    exact ⟨_, rfl, mag_flat (g := ⟨#[]⟩) h0 hr1, rfl⟩
  · have hz : ¬ ((m % 1000 : Nat) : Int) = 0 := by omega
    go_enter Tryd.func13, Tryd.ntmps13
    go_wp2_with fail
    refine (h1 _).mono ?_
    rintro e w' ⟨rfl, rfl⟩
    go_wp2_with fail
    refine (h2 _).mono ?_
    rintro e w1 ⟨r, rfl, hr1, rfl⟩
    have hs1 := dec_len (by omega) hr1
    go_wp2_with fail
    refine (h3 _).mono ?_
    rintro e w2 ⟨q, rfl, hr2, rfl⟩
    have h4 := four hr2
    go_wp2
    go_ret
    exact ⟨_, rfl, mag_deep (g := ⟨#[]⟩) h0 hr1 hr2, rfl⟩

set_option maxRecDepth 100000 in
set_option maxHeartbeats 1000000 in
/-- The document's own NumText at what is below nought. -/
theorem refText_down (n : Int) (w : World) (m : Nat) (hm : m ≤ 2147483647) (hp : 0 < m) (hc : capI n = -(m : Int)) :
    Calls Tryd.prog 13 #[.int .i64 n] w fun e w' => ∃ r : ByteArray, e = .returned (.string r) ∧ r.data.toList = 45 :: mag m ∧ w' = w := by
  have h1 := refCap_any n
  rw [hc] at h1
  clear hc
  have hq := quo_nat m
  have hr := rem_nat m
  have h2 := fun w => digits_any (m / 1000) (by omega) w
  have h3 := fun w => digits_any (1000 + m % 1000) (by omega) w
  by_cases h0 : m % 1000 = 0
  · have hz : ((m % 1000 : Nat) : Int) = 0 := by omega
    go_enter Tryd.func13, Tryd.ntmps13
    go_wp2_with fail
    refine (h1 _).mono ?_
    rintro e w' ⟨rfl, rfl⟩
    go_wp2_with fail
    refine (h2 _).mono ?_
    rintro e w1 ⟨r, rfl, hr1, rfl⟩
    have hs1 := dec_len (by omega) hr1
    go_wp2
    go_ret
    exact ⟨_, rfl, mag_flat (g := ⟨#[45]⟩) h0 hr1, rfl⟩
  · have hz : ¬ ((m % 1000 : Nat) : Int) = 0 := by omega
    go_enter Tryd.func13, Tryd.ntmps13
    go_wp2_with fail
    refine (h1 _).mono ?_
    rintro e w' ⟨rfl, rfl⟩
    go_wp2_with fail
    refine (h2 _).mono ?_
    rintro e w1 ⟨r, rfl, hr1, rfl⟩
    have hs1 := dec_len (by omega) hr1
    go_wp2_with fail
    refine (h3 _).mono ?_
    rintro e w2 ⟨q, rfl, hr2, rfl⟩
    have h4 := four hr2
    go_wp2
    go_ret
    exact ⟨_, rfl, mag_deep (g := ⟨#[45]⟩) h0 hr1 hr2, rfl⟩

theorem refText_any (n : Int) (w : World) :
    Calls Tryd.prog 13 #[.int .i64 n] w fun e w' => ∃ r : ByteArray, e = .returned (.string r) ∧ r.data.toList = txt n ∧ w' = w := by
  have h1 := capI_ge n
  have h2 := capI_le n
  by_cases h : 0 ≤ capI n
  · rw [txt_up h]
    exact refText_up n w _ (by omega) (by omega)
  · rw [txt_down (by omega)]
    exact refText_down n w _ (by omega) (by omega) (by omega)

end Go.Proofs.YtbeokoajabhpoaaDoor
