/- The document's own reader: what begins where it stands. -/
import Derived.Test.YteihbpmmjlkkgaaRtRd
namespace Go.Proofs.Yteihbpmmjlkkgaa.Ref
open Go Go.RowKit

theorem see0 {w : World} {n₀ R : Nat} {raw l : List Int} (h : At n₀ w R raw l) : ∀ W, w.grownBy W none →
    Calls Try.prog 20 #[.pointer (some ⟨R, 0, none⟩), .int .i64 0] W fun e w' => e = .returned (.int .i64 (see l 0)) ∧ w.grownBy w' none :=
  fun _ g => (see_any 0 (by omega) (h.kept g)).mono fun _ _ ⟨a, b⟩ => ⟨a, g.trans b⟩
theorem see1 {w : World} {n₀ R : Nat} {raw l : List Int} (h : At n₀ w R raw l) : ∀ W, w.grownBy W none →
    Calls Try.prog 20 #[.pointer (some ⟨R, 0, none⟩), .int .i64 1] W fun e w' => e = .returned (.int .i64 (see l 1)) ∧ w.grownBy w' none :=
  fun _ g => (see_any 1 (by omega) (h.kept g)).mono fun _ _ ⟨a, b⟩ => ⟨a, g.trans b⟩
theorem see2 {w : World} {n₀ R : Nat} {raw l : List Int} (h : At n₀ w R raw l) : ∀ W, w.grownBy W none →
    Calls Try.prog 20 #[.pointer (some ⟨R, 0, none⟩), .int .i64 2] W fun e w' => e = .returned (.int .i64 (see l 2)) ∧ w.grownBy w' none :=
  fun _ g => (see_any 2 (by omega) (h.kept g)).mono fun _ _ ⟨a, b⟩ => ⟨a, g.trans b⟩
theorem seeN {w : World} {n₀ R : Nat} {raw l : List Int} (h : At n₀ w R raw l) (n : Nat) (hn : n ≤ 10) : ∀ W, w.grownBy W none →
    Calls Try.prog 20 #[.pointer (some ⟨R, 0, none⟩), .int .i64 n] W fun e w' => e = .returned (.int .i64 (see l n)) ∧ w.grownBy w' none :=
  fun _ g => (see_any n hn (h.kept g)).mono fun _ _ ⟨a, b⟩ => ⟨a, g.trans b⟩
theorem seeM {w : World} {n₀ R : Nat} {raw l : List Int} (h : At n₀ w R raw l) (n : Nat) (hn : n ≤ 9) : ∀ W, w.grownBy W none →
    Calls Try.prog 20 #[.pointer (some ⟨R, 0, none⟩), .int .i64 ((n : Int) + 1)] W fun e w' => e = .returned (.int .i64 (see l (n + 1))) ∧ w.grownBy w' none :=
  fun _ g => (see_any (n + 1) (by omega) (h.kept g)).mono fun _ _ ⟨a, b⟩ => ⟨a, g.trans b⟩

theorem escAt_eq (l : List Int) (n : Nat) : escAt (l.drop n) = (see l n == 92 && decide (0 ≤ see l (n + 1)) && see l (n + 1) != 10) := by
  unfold escAt
  rw [see_drop, see_drop]
  rfl

set_option maxHeartbeats 1000000 in
theorem escape_any (n : Nat) (hn : n ≤ 3) {w : World} {n₀ R : Nat} {raw l : List Int} (h : At n₀ w R raw l) : ∀ W0, w.grownBy W0 none →
    Calls Try.prog 26 #[.pointer (some ⟨R, 0, none⟩), .int .i64 n] W0 fun e w' => e = .returned (.bool (escAt (l.drop n))) ∧ w.grownBy w' none := by
  intro W0 g0
  have s0 := seeN h n (by omega)
  have s1 := seeM h n (by omega)
  have hge := h.see_ge (n + 1)
  rw [escAt_eq]
  clear h
  generalize see l (n + 1) = d at *
  generalize see l n = c at *
  by_cases hc : c = 92
  · subst hc
    by_cases hd : 0 ≤ d
    · clear hge
      go_enter Try.func26, Try.ntmps26
      go_wp2_with fail
      refine (s0 _ g0).mono ?_
      rintro e W1 ⟨rfl, g1⟩
      go_wp2_with fail
      refine (s1 _ g1).mono ?_
      rintro e W2 ⟨rfl, g2⟩
      go_wp2_with fail
      refine (s1 _ g2).mono ?_
      rintro e W3 ⟨rfl, g3⟩
      go_wp2
      all_goals go_ret
      all_goals refine ⟨ret_bool ?_, g3⟩
      all_goals (simp; try omega)
    · obtain rfl : d = -1 := by omega
      go_enter Try.func26, Try.ntmps26
      go_wp2_with fail
      refine (s0 _ g0).mono ?_
      rintro e W1 ⟨rfl, g1⟩
      go_wp2_with fail
      refine (s1 _ g1).mono ?_
      rintro e W2 ⟨rfl, g2⟩
      go_wp2
      go_ret
      exact ⟨rfl, g2⟩
  · have hc' : (c == 92) = false := by simpa using hc
    rw [hc', Bool.false_and, Bool.false_and]
    go_enter Try.func26, Try.ntmps26
    go_wp2_with fail
    refine (s0 _ g0).mono ?_
    rintro e W1 ⟨rfl, g1⟩
    go_wp2
    go_ret
    exact ⟨rfl, g1⟩
theorem esc0 {w : World} {n₀ R : Nat} {raw l : List Int} (h : At n₀ w R raw l) : ∀ W, w.grownBy W none →
    Calls Try.prog 26 #[.pointer (some ⟨R, 0, none⟩), .int .i64 0] W fun e w' => e = .returned (.bool (escAt l)) ∧ w.grownBy w' none := escape_any 0 (by omega) h
theorem esc1 {w : World} {n₀ R : Nat} {raw l : List Int} (h : At n₀ w R raw l) : ∀ W, w.grownBy W none →
    Calls Try.prog 26 #[.pointer (some ⟨R, 0, none⟩), .int .i64 1] W fun e w' => e = .returned (.bool (escAt l.tail)) ∧ w.grownBy w' none := by
  have := escape_any 1 (by omega) h
  rwa [List.drop_one] at this

theorem begName_eq (l : List Int) (n : Nat) : begName (l.drop n) = if see l n = 45 then nameStart (see l (n + 1)) || see l (n + 1) == 45 || escAt (l.drop (n + 1)) else nameStart (see l n) || escAt (l.drop n) := by
  unfold begName
  rw [see_drop, see_drop, Nat.add_zero, List.tail_drop]
  by_cases h : see l n = 45
  · rw [if_pos (by simpa using h), if_pos h]
  · rw [if_neg (by simpa using h), if_neg h]

set_option maxHeartbeats 2000000 in
theorem begins_any (n : Nat) (hn : n ≤ 2) {w : World} {n₀ R : Nat} {raw l : List Int} (h : At n₀ w R raw l) : ∀ W0, w.grownBy W0 none →
    Calls Try.prog 22 #[.pointer (some ⟨R, 0, none⟩), .int .i64 n] W0 fun e w' => e = .returned (.bool (begName (l.drop n))) ∧ w.grownBy w' none := by
  intro W0 g0
  have s0 := seeN h n (by omega)
  have s1 := seeM h n (by omega)
  have e0 := escape_any n (by omega) h
  have e1 : ∀ W, w.grownBy W none → Calls Try.prog 26 #[.pointer (some ⟨R, 0, none⟩), .int .i64 ((n : Int) + 1)] W fun e w' => e = .returned (.bool (escAt (l.drop (n + 1)))) ∧ w.grownBy w' none := escape_any (n + 1) (by omega) h
  have n0 := nameStart_any (see l n)
  have n1 := nameStart_any (see l (n + 1))
  rw [begName_eq]
  clear h
  generalize escAt (l.drop (n + 1)) = E1 at *
  generalize escAt (l.drop n) = E0 at *
  generalize nameStart (see l (n + 1)) = N1 at *
  generalize see l (n + 1) = d at *
  by_cases hc : see l n = 45
  · rw [if_pos hc]
    clear n0
    generalize see l n = c at *
    subst hc
    cases N1 with
    | true =>
      go_enter Try.func22, Try.ntmps22
      go_wp2_with fail
      refine (s0 _ g0).mono ?_
      rintro e W1 ⟨rfl, g1⟩
      go_wp2_with fail
      refine (s1 _ g1).mono ?_
      rintro e W2 ⟨rfl, g2⟩
      go_wp2_with fail
      refine (n1 _).mono ?_
      rintro e w' ⟨rfl, rfl⟩
      go_wp2
      go_ret
      exact ⟨rfl, g2⟩
    | false =>
      by_cases hd : d = 45
      · subst hd
        go_enter Try.func22, Try.ntmps22
        go_wp2_with fail
        refine (s0 _ g0).mono ?_
        rintro e W1 ⟨rfl, g1⟩
        go_wp2_with fail
        refine (s1 _ g1).mono ?_
        rintro e W2 ⟨rfl, g2⟩
        go_wp2_with fail
        refine (n1 _).mono ?_
        rintro e w' ⟨rfl, rfl⟩
        go_wp2_with fail
        refine (s1 _ g2).mono ?_
        rintro e W3 ⟨rfl, g3⟩
        go_wp2
        go_ret
        exact ⟨rfl, g3⟩
      · have hd' : (d == 45) = false := by simpa using hd
        rw [hd', Bool.false_or, Bool.false_or]
        go_enter Try.func22, Try.ntmps22
        go_wp2_with fail
        refine (s0 _ g0).mono ?_
        rintro e W1 ⟨rfl, g1⟩
        go_wp2_with fail
        refine (s1 _ g1).mono ?_
        rintro e W2 ⟨rfl, g2⟩
        go_wp2_with fail
        refine (n1 _).mono ?_
        rintro e w' ⟨rfl, rfl⟩
        go_wp2_with fail
        refine (s1 _ g2).mono ?_
        rintro e W3 ⟨rfl, g3⟩
        go_wp2_with fail
        refine (e1 _ g3).mono ?_
        rintro e W4 ⟨rfl, g4⟩
        go_wp2
        go_ret
        exact ⟨rfl, g4⟩
  · rw [if_neg hc]
    generalize nameStart (see l n) = N0 at *
    generalize see l n = c at *
    have hc' : (c == 45) = false := by simpa using hc
    cases N0 with
    | true =>
      go_enter Try.func22, Try.ntmps22
      go_wp2_with fail
      refine (s0 _ g0).mono ?_
      rintro e W1 ⟨rfl, g1⟩
      go_wp2_with fail
      refine (n0 _).mono ?_
      rintro e w' ⟨rfl, rfl⟩
      go_wp2
      go_ret
      exact ⟨rfl, g1⟩
    | false =>
      go_enter Try.func22, Try.ntmps22
      go_wp2_with fail
      refine (s0 _ g0).mono ?_
      rintro e W1 ⟨rfl, g1⟩
      go_wp2_with fail
      refine (n0 _).mono ?_
      rintro e w' ⟨rfl, rfl⟩
      go_wp2_with fail
      refine (e0 _ g1).mono ?_
      rintro e W2 ⟨rfl, g2⟩
      go_wp2
      go_ret
      exact ⟨rfl, g2⟩
theorem beg0 {w : World} {n₀ R : Nat} {raw l : List Int} (h : At n₀ w R raw l) : ∀ W, w.grownBy W none →
    Calls Try.prog 22 #[.pointer (some ⟨R, 0, none⟩), .int .i64 0] W fun e w' => e = .returned (.bool (begName l)) ∧ w.grownBy w' none := begins_any 0 (by omega) h
theorem beg1 {w : World} {n₀ R : Nat} {raw l : List Int} (h : At n₀ w R raw l) : ∀ W, w.grownBy W none →
    Calls Try.prog 22 #[.pointer (some ⟨R, 0, none⟩), .int .i64 1] W fun e w' => e = .returned (.bool (begName l.tail)) ∧ w.grownBy w' none := by
  have := begins_any 1 (by omega) h
  rwa [List.drop_one] at this

theorem see_tail (l : List Int) (k : Nat) : see l.tail k = see l (k + 1) := by
  cases l with
  | nil => rfl
  | cons c r => rw [see_succ]; rfl
theorem begNum_eq (l : List Int) : begNum l = if see l 0 = 43 ∨ see l 0 = 45 then isDigit (see l 1) || (see l 1 == 46 && isDigit (see l 2)) else isDigit (see l 0) || (see l 0 == 46 && isDigit (see l 1)) := by
  unfold begNum unsign
  by_cases h : see l 0 = 43 ∨ see l 0 = 45
  · rw [if_pos h, if_pos (by simpa using h), see_tail, see_tail]
  · rw [if_neg h, if_neg (by simpa using h)]

set_option maxHeartbeats 2000000 in
theorem number_any {w : World} {n₀ R : Nat} {raw l : List Int} (h : At n₀ w R raw l) : ∀ W0, w.grownBy W0 none →
    Calls Try.prog 21 #[.pointer (some ⟨R, 0, none⟩)] W0 fun e w' => e = .returned (.bool (begNum l)) ∧ w.grownBy w' none := by
  intro W0 g0
  have s0 := see0 h
  have s1 := see1 h
  have s2 := see2 h
  have d0 := digit_any (see l 0)
  have d1 := digit_any (see l 1)
  have d2 := digit_any (see l 2)
  rw [begNum_eq]
  clear h
  by_cases hc : see l 0 = 43 ∨ see l 0 = 45
  · rw [if_pos hc]
    clear d0
    generalize see l 0 = c at *
    generalize isDigit (see l 1) = D1 at *
    generalize see l 1 = x at *
    generalize isDigit (see l 2) = D2 at *
    generalize see l 2 = y at *
    rcases hc with rfl | rfl
    · cases D1 with
      | true =>
        go_enter Try.func21, Try.ntmps21
        go_wp2_with fail
        refine (s0 _ g0).mono ?_
        rintro e W1 ⟨rfl, g1⟩
        go_wp2_with fail
        refine (s1 _ g1).mono ?_
        rintro e W2 ⟨rfl, g2⟩
        go_wp2_with fail
        refine (d1 _).mono ?_
        rintro e w' ⟨rfl, rfl⟩
        go_wp2
        go_ret
        exact ⟨rfl, g2⟩
      | false =>
        by_cases hx : x = 46
        · subst hx
          rw [show (false || ((46 : Int) == 46 && D2)) = D2 by simp]
          go_enter Try.func21, Try.ntmps21
          go_wp2_with fail
          refine (s0 _ g0).mono ?_
          rintro e W1 ⟨rfl, g1⟩
          go_wp2_with fail
          refine (s1 _ g1).mono ?_
          rintro e W2 ⟨rfl, g2⟩
          go_wp2_with fail
          refine (d1 _).mono ?_
          rintro e w' ⟨rfl, rfl⟩
          go_wp2_with fail
          refine (s1 _ g2).mono ?_
          rintro e W3 ⟨rfl, g3⟩
          go_wp2_with fail
          refine (s2 _ g3).mono ?_
          rintro e W4 ⟨rfl, g4⟩
          go_wp2_with fail
          refine (d2 _).mono ?_
          rintro e w' ⟨rfl, rfl⟩
          go_wp2
          go_ret
          exact ⟨rfl, g4⟩
        · have hx' : (x == 46) = false := by simpa using hx
          rw [hx']
          go_enter Try.func21, Try.ntmps21
          go_wp2_with fail
          refine (s0 _ g0).mono ?_
          rintro e W1 ⟨rfl, g1⟩
          go_wp2_with fail
          refine (s1 _ g1).mono ?_
          rintro e W2 ⟨rfl, g2⟩
          go_wp2_with fail
          refine (d1 _).mono ?_
          rintro e w' ⟨rfl, rfl⟩
          go_wp2_with fail
          refine (s1 _ g2).mono ?_
          rintro e W3 ⟨rfl, g3⟩
          go_wp2
          go_ret
          exact ⟨rfl, g3⟩
    · cases D1 with
      | true =>
        go_enter Try.func21, Try.ntmps21
        go_wp2_with fail
        refine (s0 _ g0).mono ?_
        rintro e W1 ⟨rfl, g1⟩
        go_wp2_with fail
        refine (s0 _ g1).mono ?_
        rintro e W2 ⟨rfl, g2⟩
        go_wp2_with fail
        refine (s1 _ g2).mono ?_
        rintro e W3 ⟨rfl, g3⟩
        go_wp2_with fail
        refine (d1 _).mono ?_
        rintro e w' ⟨rfl, rfl⟩
        go_wp2
        go_ret
        exact ⟨rfl, g3⟩
      | false =>
        by_cases hx : x = 46
        · subst hx
          rw [show (false || ((46 : Int) == 46 && D2)) = D2 by simp]
          go_enter Try.func21, Try.ntmps21
          go_wp2_with fail
          refine (s0 _ g0).mono ?_
          rintro e W1 ⟨rfl, g1⟩
          go_wp2_with fail
          refine (s0 _ g1).mono ?_
          rintro e W2 ⟨rfl, g2⟩
          go_wp2_with fail
          refine (s1 _ g2).mono ?_
          rintro e W3 ⟨rfl, g3⟩
          go_wp2_with fail
          refine (d1 _).mono ?_
          rintro e w' ⟨rfl, rfl⟩
          go_wp2_with fail
          refine (s1 _ g3).mono ?_
          rintro e W4 ⟨rfl, g4⟩
          go_wp2_with fail
          refine (s2 _ g4).mono ?_
          rintro e W5 ⟨rfl, g5⟩
          go_wp2_with fail
          refine (d2 _).mono ?_
          rintro e w' ⟨rfl, rfl⟩
          go_wp2
          go_ret
          exact ⟨rfl, g5⟩
        · have hx' : (x == 46) = false := by simpa using hx
          rw [hx']
          go_enter Try.func21, Try.ntmps21
          go_wp2_with fail
          refine (s0 _ g0).mono ?_
          rintro e W1 ⟨rfl, g1⟩
          go_wp2_with fail
          refine (s0 _ g1).mono ?_
          rintro e W2 ⟨rfl, g2⟩
          go_wp2_with fail
          refine (s1 _ g2).mono ?_
          rintro e W3 ⟨rfl, g3⟩
          go_wp2_with fail
          refine (d1 _).mono ?_
          rintro e w' ⟨rfl, rfl⟩
          go_wp2_with fail
          refine (s1 _ g3).mono ?_
          rintro e W4 ⟨rfl, g4⟩
          go_wp2
          go_ret
          exact ⟨rfl, g4⟩
  · rw [if_neg hc]
    clear d2 s2
    generalize isDigit (see l 0) = D0 at *
    generalize see l 0 = c at *
    generalize isDigit (see l 1) = D1 at *
    generalize see l 1 = x at *
    have hc1 : (c == 43) = false := by simp; omega
    have hc2 : (c == 45) = false := by simp; omega
    cases D0 with
    | true =>
      go_enter Try.func21, Try.ntmps21
      go_wp2_with fail
      refine (s0 _ g0).mono ?_
      rintro e W1 ⟨rfl, g1⟩
      go_wp2_with fail
      refine (s0 _ g1).mono ?_
      rintro e W2 ⟨rfl, g2⟩
      go_wp2_with fail
      refine (s0 _ g2).mono ?_
      rintro e W3 ⟨rfl, g3⟩
      go_wp2_with fail
      refine (d0 _).mono ?_
      rintro e w' ⟨rfl, rfl⟩
      go_wp2
      go_ret
      exact ⟨rfl, g3⟩
    | false =>
      by_cases hx : c = 46
      · subst hx
        rw [show (false || ((46 : Int) == 46 && D1)) = D1 by simp]
        go_enter Try.func21, Try.ntmps21
        go_wp2_with fail
        refine (s0 _ g0).mono ?_
        rintro e W1 ⟨rfl, g1⟩
        go_wp2_with fail
        refine (s0 _ g1).mono ?_
        rintro e W2 ⟨rfl, g2⟩
        go_wp2_with fail
        refine (s0 _ g2).mono ?_
        rintro e W3 ⟨rfl, g3⟩
        go_wp2_with fail
        refine (d0 _).mono ?_
        rintro e w' ⟨rfl, rfl⟩
        go_wp2_with fail
        refine (s0 _ g3).mono ?_
        rintro e W4 ⟨rfl, g4⟩
        go_wp2_with fail
        refine (s1 _ g4).mono ?_
        rintro e W5 ⟨rfl, g5⟩
        go_wp2_with fail
        refine (d1 _).mono ?_
        rintro e w' ⟨rfl, rfl⟩
        go_wp2
        go_ret
        exact ⟨rfl, g5⟩
      · have hx' : (c == 46) = false := by simpa using hx
        rw [hx']
        go_enter Try.func21, Try.ntmps21
        go_wp2_with fail
        refine (s0 _ g0).mono ?_
        rintro e W1 ⟨rfl, g1⟩
        go_wp2_with fail
        refine (s0 _ g1).mono ?_
        rintro e W2 ⟨rfl, g2⟩
        go_wp2_with fail
        refine (s0 _ g2).mono ?_
        rintro e W3 ⟨rfl, g3⟩
        go_wp2_with fail
        refine (d0 _).mono ?_
        rintro e w' ⟨rfl, rfl⟩
        go_wp2_with fail
        refine (s0 _ g3).mono ?_
        rintro e W4 ⟨rfl, g4⟩
        go_wp2
        go_ret
        exact ⟨rfl, g4⟩

end Go.Proofs.Yteihbpmmjlkkgaa.Ref
