/- package compute: share, key, length, percentage, number, color, own, at every property. -/
import Derived.Test.YtacdgfjmmomkpaaDoorCpSpec
namespace Go.Proofs.YtacdgfjmmomkpaaDoor.Cp
open Go Go.RowKit Vl Nm

set_option maxHeartbeats 400000 in
theorem shareE_any (n em : Int) (w : World) : Calls Tryd.prog 26 #[.int .i64 n, .int .i64 1, .int .i64 em] w fun e w' => e = .returned (.int .i64 (timesV em n)) ∧ w' = w := by
  have h : Calls Tryd.prog 32 #[.int .i64 em, .int .i64 n] w fun e w' => e = .returned (.int .i64 (timesV em n)) ∧ w' = w := times_any em n w
  have h1 := timesV_ge em n
  have h2 := timesV_le em n
  generalize timesV em n = x at *
  have h3 : x.tdiv 1 = x := Int.tdiv_one x
  go_enter Tryd.func26, Tryd.ntmps26
  go_wp2_with fail
  refine h.mono ?_
  clear h
  rintro e w' ⟨rfl, rfl⟩
  go_wp2
  go_ret
  exact ⟨rfl, rfl⟩
set_option maxHeartbeats 400000 in
theorem shareP_any (n em : Int) (w : World) : Calls Tryd.prog 33 #[.int .i64 n, .int .i64 100, .int .i64 em] w fun e w' => e = .returned (.int .i64 ((timesV em n).tdiv 100)) ∧ w' = w := by
  have h : Calls Tryd.prog 32 #[.int .i64 em, .int .i64 n] w fun e w' => e = .returned (.int .i64 (timesV em n)) ∧ w' = w := times_any em n w
  have h1 := timesV_ge em n
  have h2 := timesV_le em n
  generalize timesV em n = x at *
  go_enter Tryd.func33, Tryd.ntmps33
  go_wp2_with fail
  refine h.mono ?_
  clear h
  rintro e w' ⟨rfl, rfl⟩
  go_wp2
  go_ret
  exact ⟨rfl, rfl⟩
set_option maxHeartbeats 1000000 in
theorem key_any {p : Nat} (hp : p < 8) (n : Int) (w : World) : Calls Tryd.prog 24 #[.int .i64 p, .int .i64 n] w fun e w' => e = .returned (.tuple #[.int .i64 (keyV p n).1, .bool (keyV p n).2]) ∧ w' = w := by
  obtain rfl | rfl | rfl | rfl | rfl | rfl | rfl | rfl : p = 0 ∨ p = 1 ∨ p = 2 ∨ p = 3 ∨ p = 4 ∨ p = 5 ∨ p = 6 ∨ p = 7 := by omega
  all_goals
    clear hp
    go_enter Tryd.func24, Tryd.ntmps24
    go_wp2
    go_ret2
    exact ⟨rfl, rfl⟩
set_option maxHeartbeats 1000000 in
theorem length_any {p : Nat} (hp : p < 8) (n : Int) (w : World) : Calls Tryd.prog 25 #[.int .i64 p, .int .i64 n] w fun e w' => e = .returned (.tuple #[.int .i64 (lenV p n).1, .bool (lenV p n).2]) ∧ w' = w := by
  obtain rfl | rfl | rfl | rfl | rfl | rfl | rfl | rfl : p = 0 ∨ p = 1 ∨ p = 2 ∨ p = 3 ∨ p = 4 ∨ p = 5 ∨ p = 6 ∨ p = 7 := by omega
  all_goals
    clear hp
    go_enter Tryd.func25, Tryd.ntmps25
    go_wp2
    go_ret2
    exact ⟨rfl, rfl⟩
set_option maxHeartbeats 1000000 in
theorem number_any {p : Nat} (hp : p < 8) (n : Int) (w : World) : Calls Tryd.prog 28 #[.int .i64 p, .int .i64 n] w fun e w' => e = .returned (.tuple #[.int .i64 (numV p n).1, .bool (numV p n).2]) ∧ w' = w := by
  obtain rfl | rfl | rfl | rfl | rfl | rfl | rfl | rfl : p = 0 ∨ p = 1 ∨ p = 2 ∨ p = 3 ∨ p = 4 ∨ p = 5 ∨ p = 6 ∨ p = 7 := by omega
  all_goals
    clear hp
    go_enter Tryd.func28, Tryd.ntmps28
    go_wp2
    go_ret2
    exact ⟨rfl, rfl⟩
set_option maxHeartbeats 1000000 in
theorem color_any {p : Nat} (hp : p < 8) (n : Int) (w : World) : Calls Tryd.prog 29 #[.int .i64 p, .int .i64 n] w fun e w' => e = .returned (.tuple #[.int .i64 (colV p n).1, .bool (colV p n).2]) ∧ w' = w := by
  obtain rfl | rfl | rfl | rfl | rfl | rfl | rfl | rfl : p = 0 ∨ p = 1 ∨ p = 2 ∨ p = 3 ∨ p = 4 ∨ p = 5 ∨ p = 6 ∨ p = 7 := by omega
  all_goals
    clear hp
    go_enter Tryd.func29, Tryd.ntmps29
    go_wp2
    go_ret2
    exact ⟨rfl, rfl⟩
set_option maxHeartbeats 1000000 in
theorem percentage_any {p : Nat} (hp : p < 8) (n em : Int) (h1 : -2147483647 ≤ n) (h2 : n ≤ 2147483647) (w : World) : Calls Tryd.prog 27 #[.int .i64 p, .int .i64 n, .int .i64 em] w fun e w' => e = .returned (.tuple #[.int .i64 (pctV p n em).1, .bool (pctV p n em).2]) ∧ w' = w := by
  have hs := shareP_any n em w
  obtain rfl | rfl | rfl | rfl | rfl | rfl | rfl | rfl : p = 0 ∨ p = 1 ∨ p = 2 ∨ p = 3 ∨ p = 4 ∨ p = 5 ∨ p = 6 ∨ p = 7 := by omega
  case' inr.inl =>
    clear hp
    go_enter Tryd.func27, Tryd.ntmps27
    go_wp2_with fail
    refine hs.mono ?_
    clear hs
    rintro e w' ⟨rfl, rfl⟩
    go_wp2
    go_ret2
    exact ⟨rfl, rfl⟩
  all_goals
    clear hp hs
    go_enter Tryd.func27, Tryd.ntmps27
    go_wp2
    go_ret2
    exact ⟨rfl, rfl⟩
set_option maxHeartbeats 1000000 in
theorem own_any {p : Nat} (hp : p < 8) (k n em : Int) (h1 : -2147483647 ≤ n) (h2 : n ≤ 2147483647) (w : World) : Calls Tryd.prog 17 #[.int .i64 p, .int .i64 k, .int .i64 n, .int .i64 em] w fun e w' => e = .returned (.tuple #[.int .i64 (ownV p k n em).1, .bool (ownV p k n em).2]) ∧ w' = w := by
  obtain ⟨V, hV⟩ : ∃ V, ownV p k n em = V := ⟨_, rfl⟩
  rw [hV]
  unfold ownV at hV
  have a1 := key_any hp n w
  have a2 := length_any hp n w
  have a3 := length_any hp (timesV em n) w
  have a3' := shareE_any n em w
  have a4 := percentage_any hp n em h1 h2 w
  have a5 := number_any hp n w
  have a6 := color_any hp n w
  clear h1 h2
  by_cases k1 : k = 1
  · subst k1
    obtain rfl : keyV p n = V := by rw [← hV]; rfl
    clear hV a2 a3 a3' a4 a5 a6
    generalize keyV p n = V at *
    go_enter Tryd.func17, Tryd.ntmps17
    go_wp2_with fail
    refine a1.mono ?_
    clear a1
    rintro e w' ⟨rfl, rfl⟩
    go_wp2
    go_ret2
    exact ⟨rfl, rfl⟩
  by_cases k2 : k = 2
  · subst k2
    obtain rfl : lenV p n = V := by rw [← hV]; rfl
    clear hV a1 a3 a3' a4 a5 a6 k1
    generalize lenV p n = V at *
    go_enter Tryd.func17, Tryd.ntmps17
    go_wp2_with fail
    refine a2.mono ?_
    clear a2
    rintro e w' ⟨rfl, rfl⟩
    go_wp2
    go_ret2
    exact ⟨rfl, rfl⟩
  by_cases k3 : k = 3
  · subst k3
    obtain rfl : lenV p (timesV em n) = V := by rw [← hV]; rfl
    clear hV a1 a2 a4 a5 a6 k1 k2
    generalize timesV em n = x at *
    generalize lenV p x = V at *
    go_enter Tryd.func17, Tryd.ntmps17
    go_wp2_with fail
    refine a3'.mono ?_
    clear a3'
    rintro e w' ⟨rfl, rfl⟩
    go_wp2_with fail
    refine a3.mono ?_
    clear a3
    rintro e w' ⟨rfl, rfl⟩
    go_wp2
    go_ret2
    exact ⟨rfl, rfl⟩
  by_cases k4 : k = 4
  · subst k4
    obtain rfl : pctV p n em = V := by rw [← hV]; rfl
    clear hV a1 a2 a3 a3' a5 a6 k1 k2 k3
    generalize pctV p n em = V at *
    go_enter Tryd.func17, Tryd.ntmps17
    go_wp2_with fail
    refine a4.mono ?_
    clear a4
    rintro e w' ⟨rfl, rfl⟩
    go_wp2
    go_ret2
    exact ⟨rfl, rfl⟩
  by_cases k5 : k = 5
  · subst k5
    obtain rfl : numV p n = V := by rw [← hV]; rfl
    clear hV a1 a2 a3 a3' a4 a6 k1 k2 k3 k4
    generalize numV p n = V at *
    go_enter Tryd.func17, Tryd.ntmps17
    go_wp2_with fail
    refine a5.mono ?_
    clear a5
    rintro e w' ⟨rfl, rfl⟩
    go_wp2
    go_ret2
    exact ⟨rfl, rfl⟩
  by_cases k6 : k = 6
  · subst k6
    obtain rfl : colV p n = V := by rw [← hV]; rfl
    clear hV a1 a2 a3 a3' a4 a5 k1 k2 k3 k4 k5
    generalize colV p n = V at *
    go_enter Tryd.func17, Tryd.ntmps17
    go_wp2_with fail
    refine a6.mono ?_
    clear a6
    rintro e w' ⟨rfl, rfl⟩
    go_wp2
    go_ret2
    exact ⟨rfl, rfl⟩
  rw [if_neg k1, if_neg k2, if_neg k3, if_neg k4, if_neg k5, if_neg k6] at hV
  subst hV
  replace k1 : (k == 1) = false := by simpa using k1
  replace k2 : (k == 2) = false := by simpa using k2
  replace k3 : (k == 3) = false := by simpa using k3
  replace k4 : (k == 4) = false := by simpa using k4
  replace k5 : (k == 5) = false := by simpa using k5
  replace k6 : (k == 6) = false := by simpa using k6
  clear a1 a2 a3 a3' a4 a5 a6
  go_enter Tryd.func17, Tryd.ntmps17
  go_wp2
  go_ret2
  exact ⟨rfl, rfl⟩

end Go.Proofs.YtacdgfjmmomkpaaDoor.Cp
