/- package value: cut, within, isProp, digit, length, number, at every input. -/
import Derived.Test.YtghjpefkeobfnabDoorVlMem
namespace Go.Proofs.YtghjpefkeobfnabDoor.Vl
open Go Go.RowKit

set_option maxHeartbeats 400000 in
theorem cut_any (n a b : Int) (w : World) (hab : a ≤ b) : Calls Tryd.prog 18 #[.int .i64 n, .int .i64 a, .int .i64 b] w fun e w' => e = .returned (.int .i64 (if n < a then a else if b < n then b else n)) ∧ w' = w := by
  by_cases h1 : n < a
  · rw [if_pos h1]
    have h2 : ¬ b < n := by omega
    go_enter Tryd.func18, Tryd.ntmps18
    go_wp2
    go_ret
    exact ⟨rfl, rfl⟩
  · by_cases h2 : b < n
    · rw [if_neg h1, if_pos h2]
      by_cases h3 : a < b
      · go_enter Tryd.func18, Tryd.ntmps18
        go_wp2
        go_ret
        exact ⟨rfl, rfl⟩
      · obtain rfl : a = b := by omega
        go_enter Tryd.func18, Tryd.ntmps18
        go_wp2
        go_ret
        exact ⟨rfl, rfl⟩
    · rw [if_neg h1, if_neg h2]
      by_cases h3 : a < n
      · go_enter Tryd.func18, Tryd.ntmps18
        go_wp2
        go_ret
        exact ⟨rfl, rfl⟩
      · obtain rfl : n = a := by omega
        go_enter Tryd.func18, Tryd.ntmps18
        go_wp2
        go_ret
        exact ⟨rfl, rfl⟩
set_option maxHeartbeats 400000 in
theorem cutB_any (n a b : Int) (w : World) (hab : a ≤ b) : Calls Tryd.prog 21 #[.int .u8 n, .int .u8 a, .int .u8 b] w fun e w' => e = .returned (.int .u8 (if n < a then a else if b < n then b else n)) ∧ w' = w := by
  by_cases h1 : n < a
  · rw [if_pos h1]
    have h2 : ¬ b < n := by omega
    go_enter Tryd.func21, Tryd.ntmps21
    go_wp2
    go_ret
    exact ⟨rfl, rfl⟩
  · by_cases h2 : b < n
    · rw [if_neg h1, if_pos h2]
      by_cases h3 : a < b
      · go_enter Tryd.func21, Tryd.ntmps21
        go_wp2
        go_ret
        exact ⟨rfl, rfl⟩
      · obtain rfl : a = b := by omega
        go_enter Tryd.func21, Tryd.ntmps21
        go_wp2
        go_ret
        exact ⟨rfl, rfl⟩
    · rw [if_neg h1, if_neg h2]
      by_cases h3 : a < n
      · go_enter Tryd.func21, Tryd.ntmps21
        go_wp2
        go_ret
        exact ⟨rfl, rfl⟩
      · obtain rfl : n = a := by omega
        go_enter Tryd.func21, Tryd.ntmps21
        go_wp2
        go_ret
        exact ⟨rfl, rfl⟩
theorem cut_eq {n a b : Int} (_ : a ≤ b) : ((if n < a then a else if b < n then b else n) == n) = decide (a ≤ n ∧ n ≤ b) := by
  by_cases h1 : n < a
  · rw [if_pos h1, decide_eq_false (by omega)]; simp; omega
  · by_cases h2 : b < n
    · rw [if_neg h1, if_pos h2, decide_eq_false (by omega)]; simp; omega
    · rw [if_neg h1, if_neg h2, decide_eq_true (by omega)]; simp
set_option maxHeartbeats 400000 in
theorem within_any (n a b : Int) (w : World) (hab : a ≤ b) : Calls Tryd.prog 12 #[.int .i64 n, .int .i64 a, .int .i64 b] w fun e w' => e = .returned (.bool (decide (a ≤ n ∧ n ≤ b))) ∧ w' = w := by
  have h := cut_any n a b w hab
  have e0 := cut_eq (n := n) hab
  generalize (if n < a then a else if b < n then b else n) = x at *
  generalize decide (a ≤ n ∧ n ≤ b) = r at *
  go_enter Tryd.func12, Tryd.ntmps12
  go_wp2_with fail
  refine h.mono ?_
  clear h
  rintro e w1 ⟨rfl, rfl⟩
  go_wp2
  go_ret
  exact ⟨rfl, rfl⟩
set_option maxHeartbeats 400000 in
theorem withinB_any (n a b : Int) (w : World) (hab : a ≤ b) : Calls Tryd.prog 20 #[.int .u8 n, .int .u8 a, .int .u8 b] w fun e w' => e = .returned (.bool (decide (a ≤ n ∧ n ≤ b))) ∧ w' = w := by
  have h := cutB_any n a b w hab
  have e0 := cut_eq (n := n) hab
  generalize (if n < a then a else if b < n then b else n) = x at *
  generalize decide (a ≤ n ∧ n ≤ b) = r at *
  go_enter Tryd.func20, Tryd.ntmps20
  go_wp2_with fail
  refine h.mono ?_
  clear h
  rintro e w1 ⟨rfl, rfl⟩
  go_wp2
  go_ret
  exact ⟨rfl, rfl⟩
set_option maxHeartbeats 400000 in
theorem isProp_any (p : Int) (w : World) : Calls Tryd.prog 10 #[.int .i64 p] w fun e w' => e = .returned (.bool (decide (0 ≤ p ∧ p ≤ 7))) ∧ w' = w := by
  have h := within_any p 0 7 w (by omega)
  generalize decide (0 ≤ p ∧ p ≤ 7) = r at *
  go_enter Tryd.func10, Tryd.ntmps10
  go_wp2_with fail
  refine h.mono ?_
  clear h
  rintro e w1 ⟨rfl, rfl⟩
  go_wp2
  go_ret
  exact ⟨rfl, rfl⟩
set_option maxHeartbeats 1000000 in
theorem digit_any (c : UInt8) (w : World) : Calls Tryd.prog 19 #[.int .u8 c.toNat] w fun e w' => e = .returned (.tuple #[.int .i64 (digV c).1, .bool (digV c).2]) ∧ w' = w := by
  have hc := c.toNat_lt
  have h1 := fun W => withinB_any c.toNat 48 57 W (by omega)
  have h2 := fun W => withinB_any c.toNat 97 102 W (by omega)
  have h3 := fun W => withinB_any c.toNat 65 70 W (by omega)
  unfold digV
  generalize c.toNat = n at *
  by_cases g1 : 48 ≤ n ∧ n ≤ 57
  · rw [if_pos g1]
    rw [show decide ((48 : Int) ≤ n ∧ (n : Int) ≤ 57) = true from decide_eq_true (by omega)] at h1
    have e1 : IntKind.u8.wrap ((n : Int) - 48) = (n : Int) - 48 := by rw [IntKind.wrap_u8]; omega
    have e2 : IntKind.i64.wrap ((n : Int) - 48) = (n : Int) - 48 := by rw [IntKind.wrap_i64]; omega
    clear h2 h3
    go_enter Tryd.func19, Tryd.ntmps19
    go_wp2_with fail
    refine (h1 _).mono ?_
    clear h1
    rintro e w1 ⟨rfl, rfl⟩
    go_wp2
    go_ret2
    exact ⟨rfl, rfl⟩
  rw [if_neg g1]
  rw [show decide ((48 : Int) ≤ n ∧ (n : Int) ≤ 57) = false from decide_eq_false (by omega)] at h1
  by_cases g2 : 97 ≤ n ∧ n ≤ 102
  · rw [if_pos g2]
    rw [show decide ((97 : Int) ≤ n ∧ (n : Int) ≤ 102) = true from decide_eq_true (by omega)] at h2
    have e1 : IntKind.u8.wrap ((n : Int) - 97) = (n : Int) - 97 := by rw [IntKind.wrap_u8]; omega
    have e2 : IntKind.i64.wrap ((n : Int) - 97) = (n : Int) - 97 := by rw [IntKind.wrap_i64]; omega
    have e3 : IntKind.i64.wrap ((n : Int) - 97 + 10) = (n : Int) - 87 := by rw [IntKind.wrap_i64]; omega
    clear h3
    go_enter Tryd.func19, Tryd.ntmps19
    go_wp2_with fail
    refine (h1 _).mono ?_
    clear h1
    rintro e w1 ⟨rfl, rfl⟩
    go_wp2_with fail
    refine (h2 _).mono ?_
    clear h2
    rintro e w1 ⟨rfl, rfl⟩
    go_wp2
    go_ret2
    exact ⟨rfl, rfl⟩
  rw [if_neg g2]
  rw [show decide ((97 : Int) ≤ n ∧ (n : Int) ≤ 102) = false from decide_eq_false (by omega)] at h2
  by_cases g3 : 65 ≤ n ∧ n ≤ 70
  · rw [if_pos g3]
    rw [show decide ((65 : Int) ≤ n ∧ (n : Int) ≤ 70) = true from decide_eq_true (by omega)] at h3
    have e1 : IntKind.u8.wrap ((n : Int) - 65) = (n : Int) - 65 := by rw [IntKind.wrap_u8]; omega
    have e2 : IntKind.i64.wrap ((n : Int) - 65) = (n : Int) - 65 := by rw [IntKind.wrap_i64]; omega
    have e3 : IntKind.i64.wrap ((n : Int) - 65 + 10) = (n : Int) - 55 := by rw [IntKind.wrap_i64]; omega
    go_enter Tryd.func19, Tryd.ntmps19
    go_wp2_with fail
    refine (h1 _).mono ?_
    clear h1
    rintro e w1 ⟨rfl, rfl⟩
    go_wp2_with fail
    refine (h2 _).mono ?_
    clear h2
    rintro e w1 ⟨rfl, rfl⟩
    go_wp2_with fail
    refine (h3 _).mono ?_
    clear h3
    rintro e w1 ⟨rfl, rfl⟩
    go_wp2
    go_ret2
    exact ⟨rfl, rfl⟩
  rw [if_neg g3]
  rw [show decide ((65 : Int) ≤ n ∧ (n : Int) ≤ 70) = false from decide_eq_false (by omega)] at h3
  go_enter Tryd.func19, Tryd.ntmps19
  go_wp2_with fail
  refine (h1 _).mono ?_
  clear h1
  rintro e w1 ⟨rfl, rfl⟩
  go_wp2_with fail
  refine (h2 _).mono ?_
  clear h2
  rintro e w1 ⟨rfl, rfl⟩
  go_wp2_with fail
  refine (h3 _).mono ?_
  clear h3
  rintro e w1 ⟨rfl, rfl⟩
  go_wp2
  go_ret2
  exact ⟨rfl, rfl⟩

/-- A value and whether there is one, as a call hands them back. -/
def ret (v : Vv) : Ending := .returned (.tuple #[.agg #[.int .i64 v.1, .int .i64 v.2.1], .bool v.2.2])
theorem zero_new (w : World) : Below w.heap.size w (w.alloc (.cells #[.int .i64 0, .int .i64 0] 26)) := (Below.refl _ w).alloc (Nat.le_refl _) _

set_option maxRecDepth 100000 in
set_option maxHeartbeats 1000000 in
theorem length_any (p k n : Int) (w : World) : Calls Tryd.prog 16 #[.int .i64 p, .int .i64 k, .int .i64 n] w fun e w' => e = ret (lengthV p k n) ∧ Below w.heap.size w w' := by
  have b0 := zero_new w
  have k0 := Blk.new w 26 [.int .i64 0, .int .i64 0]
  obtain ⟨V, hV⟩ : ∃ V, lengthV p k n = V := ⟨_, rfl⟩
  rw [hV]
  unfold lengthV at hV
  go_enter Tryd.func16, Tryd.ntmps16
  go_upto_region 1 with fail
  replace k0 : Blk (w.alloc (.cells #[.int .i64 0, .int .i64 0] 26)) w.heap.size _ _ := k0
  generalize w.alloc (.cells #[.int .i64 0, .int .i64 0] 26) = W at *
  obtain ⟨⟨c0, c1⟩, f0, f1⟩ := blk2 k0
  have hB := k0.lt
  have HF : Hid (∀ a b, Below w.heap.size w (set2 W w.heap.size a b)) := fun a b => below_grown b0 (grown_set2 W w.heap.size a b) (by omega) (Nat.le_refl _)
  by_cases h5 : p = 5
  · subst h5
    obtain rfl : (k, n, true) = V := by rw [← hV, if_pos (.inl rfl)]
    clear hV
    go_wp2
    refine bodyPost_ret (results_struct_tmp rfl _ _ w.heap.size _ rfl (load_val (blk_set2 k0 _ _))) rfl ?_
    exact ⟨rfl, HF _ _⟩
  have e5 : (p == 5) = false := by simpa using h5
  by_cases h0 : 0 ≤ n
  · by_cases h1 : p = 1
    · subst h1
      obtain rfl : (k, n, true) = V := by rw [← hV, if_pos (.inr ⟨h0, .inl rfl⟩)]
      clear hV
      go_wp2
      refine bodyPost_ret (results_struct_tmp rfl _ _ w.heap.size _ rfl (load_val (blk_set2 k0 _ _))) rfl ?_
      exact ⟨rfl, HF _ _⟩
    have e1 : (p == 1) = false := by simpa using h1
    by_cases h4 : p = 4
    · subst h4
      obtain rfl : (k, n, true) = V := by rw [← hV, if_pos (.inr ⟨h0, .inr rfl⟩)]
      clear hV
      go_wp2
      refine bodyPost_ret (results_struct_tmp rfl _ _ w.heap.size _ rfl (load_val (blk_set2 k0 _ _))) rfl ?_
      exact ⟨rfl, HF _ _⟩
    have e4 : (p == 4) = false := by simpa using h4
    obtain rfl : no = V := by rw [← hV, if_neg (by omega)]
    clear hV h5 h1 h4
    go_wp2
    refine bodyPost_ret (results_struct_tmp rfl _ _ w.heap.size _ rfl (load_val (blk_set2 k0 _ _))) rfl ?_
    exact ⟨rfl, HF _ _⟩
  · obtain rfl : no = V := by rw [← hV, if_neg (by omega)]
    clear hV h5
    go_wp2
    refine bodyPost_ret (results_struct_tmp rfl _ _ w.heap.size _ rfl (load_val (blk_set2 k0 _ _))) rfl ?_
    exact ⟨rfl, HF _ _⟩

set_option maxRecDepth 100000 in
set_option maxHeartbeats 1000000 in
theorem number_any (p n : Int) (wh : Bool) (w : World) : Calls Tryd.prog 17 #[.int .i64 p, .int .i64 n, .bool wh] w fun e w' => e = ret (numberV p n wh) ∧ Below w.heap.size w w' := by
  have b0 := zero_new w
  have k0 := Blk.new w 26 [.int .i64 0, .int .i64 0]
  have hcut := fun W => cut_any n 0 1000 W (by omega)
  rw [show (if n < 0 then 0 else if 1000 < n then 1000 else n) = cutV n from rfl] at hcut
  obtain ⟨V, hV⟩ : ∃ V, numberV p n wh = V := ⟨_, rfl⟩
  rw [hV]
  unfold numberV at hV
  generalize cutV n = cv at *
  go_enter Tryd.func17, Tryd.ntmps17
  go_upto_region 1 with fail
  replace k0 : Blk (w.alloc (.cells #[.int .i64 0, .int .i64 0] 26)) w.heap.size _ _ := k0
  generalize w.alloc (.cells #[.int .i64 0, .int .i64 0] 26) = W at *
  obtain ⟨⟨c0, c1⟩, f0, f1⟩ := blk2 k0
  have hB := k0.lt
  have HF : Hid (∀ a b, Below w.heap.size w (set2 W w.heap.size a b)) := fun a b => below_grown b0 (grown_set2 W w.heap.size a b) (by omega) (Nat.le_refl _)
  by_cases h6 : p = 6
  · subst h6
    obtain rfl : (5, cv, true) = V := by rw [← hV]; simp
    clear hV
    go_wp2_with fail
    refine (hcut _).mono ?_
    clear hcut
    rintro e w1 ⟨rfl, rfl⟩
    go_wp2
    refine bodyPost_ret (results_struct_tmp rfl _ _ w.heap.size _ rfl (load_val (blk_set2 k0 _ _))) rfl ?_
    exact ⟨rfl, HF _ _⟩
  clear hcut
  have e6 : (p == 6) = false := by simpa using h6
  by_cases h5 : p = 5
  · subst h5
    by_cases h0 : n = 0
    · subst h0
      obtain rfl : (2, 0, true) = V := by rw [← hV]; simp
      clear hV
      go_wp2
      refine bodyPost_ret (results_struct_tmp rfl _ _ w.heap.size _ rfl (load_val (blk_set2 k0 _ _))) rfl ?_
      exact ⟨rfl, HF _ _⟩
    · have e0 : (n == 0) = false := by simpa using h0
      obtain rfl : no = V := by rw [← hV]; simp [h0]
      clear hV h0
      go_wp2
      refine bodyPost_ret (results_struct_tmp rfl _ _ w.heap.size _ rfl (load_val (blk_set2 k0 _ _))) rfl ?_
      exact ⟨rfl, HF _ _⟩
  have e5 : (p == 5) = false := by simpa using h5
  by_cases h7 : p = 7
  · subst h7
    cases wh with
    | true =>
      obtain rfl : (5, n, true) = V := by rw [← hV]; simp
      clear hV
      go_wp2
      refine bodyPost_ret (results_struct_tmp rfl _ _ w.heap.size _ rfl (load_val (blk_set2 k0 _ _))) rfl ?_
      exact ⟨rfl, HF _ _⟩
    | false =>
      obtain rfl : no = V := by rw [← hV]; simp
      clear hV
      go_wp2
      refine bodyPost_ret (results_struct_tmp rfl _ _ w.heap.size _ rfl (load_val (blk_set2 k0 _ _))) rfl ?_
      exact ⟨rfl, HF _ _⟩
  have e7 : (p == 7) = false := by simpa using h7
  obtain rfl : no = V := by rw [← hV]; simp [h5, h6, h7]
  clear hV h5 h6 h7
  go_wp2
  refine bodyPost_ret (results_struct_tmp rfl _ _ w.heap.size _ rfl (load_val (blk_set2 k0 _ _))) rfl ?_
  exact ⟨rfl, HF _ _⟩

end Go.Proofs.YtghjpefkeobfnabDoor.Vl
