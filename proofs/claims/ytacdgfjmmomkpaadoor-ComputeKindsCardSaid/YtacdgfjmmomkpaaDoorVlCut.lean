/- package value: cut, within, isProp, digit, length, number, at every input. -/
import Derived.Test.YtacdgfjmmomkpaaDoorVlMem
namespace Go.Proofs.YtacdgfjmmomkpaaDoor.Vl
open Go Go.RowKit

set_option maxHeartbeats 400000 in
theorem cut_any (n a b : Int) (w : World) (hab : a ≤ b) : Calls Tryd.prog 37 #[.int .i64 n, .int .i64 a, .int .i64 b] w fun e w' => e = .returned (.int .i64 (if n < a then a else if b < n then b else n)) ∧ w' = w := by
  by_cases h1 : n < a
  · rw [if_pos h1]
    have h2 : ¬ b < n := by omega
    go_enter Tryd.func37, Tryd.ntmps37
    go_wp2
    go_ret
    exact ⟨rfl, rfl⟩
  · by_cases h2 : b < n
    · rw [if_neg h1, if_pos h2]
      by_cases h3 : a < b
      · go_enter Tryd.func37, Tryd.ntmps37
        go_wp2
        go_ret
        exact ⟨rfl, rfl⟩
      · obtain rfl : a = b := by omega
        go_enter Tryd.func37, Tryd.ntmps37
        go_wp2
        go_ret
        exact ⟨rfl, rfl⟩
    · rw [if_neg h1, if_neg h2]
      by_cases h3 : a < n
      · go_enter Tryd.func37, Tryd.ntmps37
        go_wp2
        go_ret
        exact ⟨rfl, rfl⟩
      · obtain rfl : n = a := by omega
        go_enter Tryd.func37, Tryd.ntmps37
        go_wp2
        go_ret
        exact ⟨rfl, rfl⟩
theorem cut_eq {n a b : Int} (_ : a ≤ b) : ((if n < a then a else if b < n then b else n) == n) = decide (a ≤ n ∧ n ≤ b) := by
  by_cases h1 : n < a
  · rw [if_pos h1, decide_eq_false (by omega)]; simp; omega
  · by_cases h2 : b < n
    · rw [if_neg h1, if_pos h2, decide_eq_false (by omega)]; simp; omega
    · rw [if_neg h1, if_neg h2, decide_eq_true (by omega)]; simp
set_option maxHeartbeats 400000 in
theorem within_any (n a b : Int) (w : World) (hab : a ≤ b) : Calls Tryd.prog 34 #[.int .i64 n, .int .i64 a, .int .i64 b] w fun e w' => e = .returned (.bool (decide (a ≤ n ∧ n ≤ b))) ∧ w' = w := by
  have h := cut_any n a b w hab
  have e0 := cut_eq (n := n) hab
  generalize (if n < a then a else if b < n then b else n) = x at *
  generalize decide (a ≤ n ∧ n ≤ b) = r at *
  go_enter Tryd.func34, Tryd.ntmps34
  go_wp2_with fail
  refine h.mono ?_
  clear h
  rintro e w1 ⟨rfl, rfl⟩
  go_wp2
  go_ret
  exact ⟨rfl, rfl⟩
set_option maxHeartbeats 400000 in
theorem isProp_any (p : Int) (w : World) : Calls Tryd.prog 31 #[.int .i64 p] w fun e w' => e = .returned (.bool (decide (0 ≤ p ∧ p ≤ 7))) ∧ w' = w := by
  have h := within_any p 0 7 w (by omega)
  generalize decide (0 ≤ p ∧ p ≤ 7) = r at *
  go_enter Tryd.func31, Tryd.ntmps31
  go_wp2_with fail
  refine h.mono ?_
  clear h
  rintro e w1 ⟨rfl, rfl⟩
  go_wp2
  go_ret
  exact ⟨rfl, rfl⟩
/-- A value and whether there is one, as a call hands them back. -/
def ret (v : Vv) : Ending := .returned (.tuple #[.agg #[.int .i64 v.1, .int .i64 v.2.1], .bool v.2.2])
theorem zero_new (w : World) : Below w.heap.size w (w.alloc (.cells #[.int .i64 0, .int .i64 0] 25)) := (Below.refl _ w).alloc (Nat.le_refl _) _

end Go.Proofs.YtacdgfjmmomkpaaDoor.Vl
