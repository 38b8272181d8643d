/- The document's own Cap, Add, Times, Digits and NumText, at every integer. -/
import Derived.Test.YtgfbgfcakblpoabNmText
namespace Go.Proofs.Ytgfbgfcakblpoab.Nm
open Go Go.RowKit Go.Shelf

set_option maxHeartbeats 400000 in
theorem refCap_any (c : Int) (w : World) : Calls Try.prog 38 #[.int .i64 c] w fun e w' => e = .returned (.int .i64 (capI c)) ∧ w' = w := by
  by_cases h1 : c < -2147483647
  · rw [capI_low h1]
    go_enter Try.func38, Try.ntmps38
    go_wp2
    go_ret
    exact ⟨rfl, rfl⟩
  · by_cases h2 : 2147483647 < c
    · rw [capI_high h2]
      go_enter Try.func38, Try.ntmps38
      go_wp2
      go_ret
      exact ⟨rfl, rfl⟩
    · rw [capI_in (by omega) (by omega)]
      go_enter Try.func38, Try.ntmps38
      go_wp2
      all_goals go_ret
      all_goals first | exact ⟨rfl, rfl⟩ | (rw [show c = -2147483647 by omega]; exact ⟨rfl, rfl⟩)


theorem ten_at (k : Nat) (h : k < 10) : ((⟨#[48, 49, 50, 51, 52, 53, 54, 55, 56, 57]⟩ : ByteArray).extract k (k + 1)).data.toList = [UInt8.ofNat (48 + k)] := by
  rw [data_ext]
  have : k = 0 ∨ k = 1 ∨ k = 2 ∨ k = 3 ∨ k = 4 ∨ k = 5 ∨ k = 6 ∨ k = 7 ∨ k = 8 ∨ k = 9 := by omega
  rcases this with rfl | rfl | rfl | rfl | rfl | rfl | rfl | rfl | rfl | rfl <;> rfl
theorem quo10_nat (m : Nat) : (m : Int).tdiv 10 = ((m / 10 : Nat) : Int) := by
  rw [Int.tdiv_eq_ediv_of_nonneg (by omega)]
  rfl
theorem rem10_nat (m : Nat) : (m : Int).tmod 10 = ((m % 10 : Nat) : Int) := by
  rw [Int.tmod_eq_emod_of_nonneg (by omega)]
  rfl


end Go.Proofs.Ytgfbgfcakblpoab.Nm
