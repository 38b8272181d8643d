/- num.Text at every integer. -/
import Derived.Test.YtgfbgfcakblpoaaNmOf
import Derived.Lib.ItoaLen
namespace Go.Proofs.Ytgfbgfcakblpoaa.Nm
open Go Go.RowKit Go.Shelf


/-- What stands behind the whole part: nothing, or a point and three digits. -/
def frac (m : Nat) : List UInt8 := if m % 1000 = 0 then [] else 46 :: (Lib.decDigits (1000 + m % 1000)).drop 1
def mag (m : Nat) : List UInt8 := Lib.decDigits (m / 1000) ++ frac m
def txt (n : Int) : List UInt8 := if capI n < 0 then 45 :: mag (capI n).natAbs else mag (capI n).natAbs

theorem dec4 (r : Nat) (h : r < 1000) : Lib.decDigits (1000 + r) = [49, UInt8.ofNat (48 + r / 100), UInt8.ofNat (48 + r / 10 % 10), UInt8.ofNat (48 + r % 10)] := by
  rw [Lib.decDigits, dif_neg (by omega), Lib.decDigits, dif_neg (by omega), Lib.decDigits_two (by omega) (by omega)]
  rw [show (1000 + r) / 10 / 10 / 10 = 1 by omega, show (1000 + r) / 10 / 10 % 10 = r / 100 by omega, show (1000 + r) / 10 % 10 = r / 10 % 10 by omega, show (1000 + r) % 10 = r % 10 by omega]
  rfl

theorem quo_nat (m : Nat) : (m : Int).tdiv 1000 = ((m / 1000 : Nat) : Int) := by
  rw [Int.tdiv_eq_ediv_of_nonneg (by omega)]
  rfl
theorem rem_nat (m : Nat) : (m : Int).tmod 1000 = ((m % 1000 : Nat) : Int) := by
  rw [Int.tmod_eq_emod_of_nonneg (by omega)]
  rfl

theorem mag_flat {m : Nat} {g r : ByteArray} (h0 : m % 1000 = 0) (h : r.data.toList = Lib.decDigits (m / 1000)) : (g ++ r).data.toList = g.data.toList ++ mag m := by
  rw [data_app, mag, frac, if_pos h0, List.append_nil, h]
theorem mag_deep {m : Nat} {g r q : ByteArray} (h0 : ¬ m % 1000 = 0) (h : r.data.toList = Lib.decDigits (m / 1000)) (hq : q.data.toList = Lib.decDigits (1000 + m % 1000)) : (g ++ r ++ ⟨#[46]⟩ ++ q.extract 1 4).data.toList = g.data.toList ++ mag m := by
  rw [mag, frac, if_neg h0, data_app, data_app, data_app, data_ext, h, hq, dec4 _ (by omega)]
  simp
theorem dec_len {u : Nat} {r : ByteArray} (hu : u ≤ 9223372036854775807) (h : r.data.toList = Lib.decDigits u) : r.size ≤ 21 := by
  rw [← len_list, h, ← Lib.itoa_nonneg]
  exact Lib.itoa_length_le u (by omega) (by omega)
theorem four {m : Nat} {q : ByteArray} (hq : q.data.toList = Lib.decDigits (1000 + m % 1000)) : q.size = 4 := by
  rw [← len_list, hq, dec4 _ (by omega)]
  rfl


theorem txt_up {n : Int} (h : 0 ≤ capI n) : txt n = mag (capI n).natAbs := by unfold txt; rw [if_neg (by omega)]
theorem txt_down {n : Int} (h : capI n < 0) : txt n = 45 :: mag (capI n).natAbs := by unfold txt; rw [if_pos h]

end Go.Proofs.Ytgfbgfcakblpoaa.Nm
