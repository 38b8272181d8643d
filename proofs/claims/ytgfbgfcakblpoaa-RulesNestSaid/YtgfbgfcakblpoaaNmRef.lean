/- The document's own Cap, Add, Times, Digits and NumText, at every integer. -/
import Derived.Test.YtgfbgfcakblpoaaNmText
namespace Go.Proofs.Ytgfbgfcakblpoaa.Nm
open Go Go.RowKit Go.Shelf

set_option maxHeartbeats 400000 in
theorem refCap_any (c : Int) (w : World) : Calls Try.prog 50 #[.int .i64 c] w fun e w' => e = .returned (.int .i64 (capI c)) ∧ w' = w := by
  by_cases h1 : c < -2147483647
  · rw [capI_low h1]
    go_enter Try.func50, Try.ntmps50
    go_wp2
    go_ret
    exact ⟨rfl, rfl⟩
  · by_cases h2 : 2147483647 < c
    · rw [capI_high h2]
      go_enter Try.func50, Try.ntmps50
      go_wp2
      go_ret
      exact ⟨rfl, rfl⟩
    · rw [capI_in (by omega) (by omega)]
      go_enter Try.func50, Try.ntmps50
      go_wp2
      all_goals go_ret
      all_goals first | exact ⟨rfl, rfl⟩ | (rw [show c = -2147483647 by omega]; exact ⟨rfl, rfl⟩)


theorem ten_at (k : Nat) (h : k < 10) : ((⟨#[48, 49, 50, 51, 52, 53, 54, 55, 56, 57]⟩ : ByteArray).extract k (k + 1)).data.toList = [UInt8.ofNat (48 + k)] := by
  rw [data_ext]
  have : k = 0 ∨ k = 1 ∨ k = 2 ∨ k = 3 ∨ k = 4 ∨ k = 5 ∨ k = 6 ∨ k = 7 ∨ k = 8 ∨ k = 9 := by omega
  rcases this with rfl | rfl | rfl | rfl | rfl | rfl | rfl | rfl | rfl | rfl <;> rfl
theorem quo10_nat (m : Nat) : (m : Int).tdiv 10 = ((m / 10 : Nat) : Int) := by
  rw [Int.tdiv_eq_ediv_of_nonneg (by omega)]
  rfl
theorem rem10_nat (m : Nat) : (m : Int).tmod 10 = ((m % 10 : Nat) : Int) := by
  rw [Int.tmod_eq_emod_of_nonneg (by omega)]
  rfl

set_option maxRecDepth 100000 in
set_option maxHeartbeats 1000000 in
theorem digits_any (u : Nat) (hu : u ≤ 9223372036854775807) (w : World) :
    Calls Try.prog 18 #[.int .i64 u] w fun e w' => ∃ r : ByteArray, e = .returned (.string r) ∧ r.data.toList = Lib.decDigits u ∧ w' = w := by
  induction u using Nat.strongRecOn generalizing w with
  | ind u ih =>
    have hq := quo10_nat u
    have hr := rem10_nat u
    have ht := ten_at (u % 10) (by omega)
    by_cases h : u < 10
    · rw [Lib.decDigits_one h]
      go_enter Try.func18, Try.ntmps18
      go_wp2
      go_ret
      exact ⟨_, rfl, by rw [ht, Nat.mod_eq_of_lt h], rfl⟩
    · have h1 := fun w => ih (u / 10) (by omega) (by omega) w
      have e : Lib.decDigits u = Lib.decDigits (u / 10) ++ [UInt8.ofNat (48 + u % 10)] := by rw [Lib.decDigits, dif_neg h]
      rw [e]
      have hsz : ((⟨#[48, 49, 50, 51, 52, 53, 54, 55, 56, 57]⟩ : ByteArray).extract (u % 10) (u % 10 + 1)).size = 1 := by rw [← len_list, ht]; rfl
      go_enter Try.func18, Try.ntmps18
      go_wp2_with fail
      refine (h1 _).mono ?_
      rintro e w' ⟨r, rfl, hr1, rfl⟩
      have hs1 := dec_len (by omega) hr1
      go_wp2
      go_ret
      exact ⟨_, rfl, by rw [data_app, hr1, ht], rfl⟩


end Go.Proofs.Ytgfbgfcakblpoaa.Nm
