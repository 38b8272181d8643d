/- The document's own questions on one code point. -/
import Derived.Test.YteihbpmmjlkkgaaProg
import Derived.Test.YteihbpmmjlkkgaaRight
import Derived.Test.YteihbpmmjlkkgaaBsC
import Derived.Deep.RegionWith
import Derived.Deep.DeepCutAuto
import Derived.OwnWalk
namespace Go.Proofs.Yteihbpmmjlkkgaa.Ref
open Go Go.RowKit

theorem ret_bool {a b : Bool} (h : a = true ↔ b = true) : Ending.returned (.bool a) = .returned (.bool b) := by rw [Bool.eq_iff_iff.2 h]
theorem ret_int {a b : Int} (h : a = b) : Ending.returned (.int .i64 a) = .returned (.int .i64 b) := by rw [h]

theorem white_any (c : Int) (w : World) : Calls Try.prog 23 #[.int .i64 c] w fun e w' => e = .returned (.bool (isWhite c)) ∧ w' = w := by
  go_enter Try.func23, Try.ntmps23
  go_wp2
  all_goals go_ret
  all_goals refine ⟨ret_bool ?_, rfl⟩
  all_goals (rw [isWhite_iff]; try simp; try omega)

theorem digit_any (c : Int) (w : World) : Calls Try.prog 36 #[.int .i64 c] w fun e w' => e = .returned (.bool (isDigit c)) ∧ w' = w := by
  go_enter Try.func36, Try.ntmps36
  go_wp2
  all_goals go_ret
  all_goals refine ⟨ret_bool ?_, rfl⟩
  all_goals (rw [isDigit_iff]; try simp; try omega)

set_option maxHeartbeats 1000000 in
theorem nameStart_any (c : Int) (w : World) : Calls Try.prog 37 #[.int .i64 c] w fun e w' => e = .returned (.bool (nameStart c)) ∧ w' = w := by
  go_enter Try.func37, Try.ntmps37
  go_wp2
  all_goals go_ret
  all_goals refine ⟨ret_bool ?_, rfl⟩
  all_goals (rw [nameStart_iff]; try simp; try omega)

set_option maxHeartbeats 1000000 in
theorem namePoint_any (c : Int) (w : World) : Calls Try.prog 25 #[.int .i64 c] w fun e w' => e = .returned (.bool (namePt c)) ∧ w' = w := by
  have h1 := nameStart_any c
  have h2 := digit_any c
  rw [show namePt c = (nameStart c || isDigit c || c == 45) from rfl]
  generalize nameStart c = a at *
  generalize isDigit c = b at *
  cases a with
  | true =>
    go_enter Try.func25, Try.ntmps25
    go_wp2_with fail
    refine (h1 _).mono ?_
    rintro e w' ⟨rfl, rfl⟩
    go_wp2
    go_ret
    exact ⟨rfl, rfl⟩
  | false =>
    cases b with
    | true =>
      go_enter Try.func25, Try.ntmps25
      go_wp2_with fail
      refine (h1 _).mono ?_
      rintro e w' ⟨rfl, rfl⟩
      go_wp2_with fail
      refine (h2 _).mono ?_
      rintro e w' ⟨rfl, rfl⟩
      go_wp2
      go_ret
      exact ⟨rfl, rfl⟩
    | false =>
      go_enter Try.func25, Try.ntmps25
      go_wp2_with fail
      refine (h1 _).mono ?_
      rintro e w' ⟨rfl, rfl⟩
      go_wp2_with fail
      refine (h2 _).mono ?_
      rintro e w' ⟨rfl, rfl⟩
      go_wp2
      go_ret
      exact ⟨rfl, rfl⟩

set_option maxHeartbeats 1000000 in
theorem hex_any (c : Int) (w : World) : Calls Try.prog 44 #[.int .i64 c] w fun e w' => e = .returned (.int .i64 (hexv c)) ∧ w' = w := by
  by_cases hd : 48 ≤ c ∧ c ≤ 57
  · rw [show hexv c = c - 48 by unfold hexv; rw [if_pos hd]]
    go_enter Try.func44, Try.ntmps44
    go_wp2
    go_ret
    exact ⟨rfl, rfl⟩
  · by_cases ha : 97 ≤ c ∧ c ≤ 102
    · rw [show hexv c = c - 97 + 10 by unfold hexv; rw [if_neg hd, if_pos ha]]
      go_enter Try.func44, Try.ntmps44
      go_wp2
      all_goals first | omega | (go_ret; exact ⟨rfl, rfl⟩)
    · by_cases hb : 65 ≤ c ∧ c ≤ 70
      · rw [show hexv c = c - 65 + 10 by unfold hexv; rw [if_neg hd, if_neg ha, if_pos hb]]
        go_enter Try.func44, Try.ntmps44
        go_wp2
        all_goals first | omega | (go_ret; exact ⟨rfl, rfl⟩)
      · rw [show hexv c = -1 by unfold hexv; rw [if_neg hd, if_neg ha, if_neg hb]]
        go_enter Try.func44, Try.ntmps44
        go_wp2
        all_goals first | omega | (go_ret; exact ⟨rfl, rfl⟩)

set_option maxHeartbeats 2000000 in
theorem sign_any (c : Int) (w : World) : Calls Try.prog 29 #[.int .i64 c] w fun e w' => e = .returned (.int .i64 (sign c)) ∧ w' = w := by
  by_cases h0 : c = 58
  · subst h0
    rw [show sign 58 = 11 from rfl]
    go_enter Try.func29, Try.ntmps29
    go_wp2
    go_ret
    exact ⟨rfl, rfl⟩
  by_cases h1 : c = 59
  · subst h1
    rw [show sign 59 = 12 from rfl]
    go_enter Try.func29, Try.ntmps29
    go_wp2
    go_ret
    exact ⟨rfl, rfl⟩
  by_cases h2 : c = 44
  · subst h2
    rw [show sign 44 = 13 from rfl]
    go_enter Try.func29, Try.ntmps29
    go_wp2
    go_ret
    exact ⟨rfl, rfl⟩
  by_cases h3 : c = 123
  · subst h3
    rw [show sign 123 = 14 from rfl]
    go_enter Try.func29, Try.ntmps29
    go_wp2
    go_ret
    exact ⟨rfl, rfl⟩
  by_cases h4 : c = 125
  · subst h4
    rw [show sign 125 = 15 from rfl]
    go_enter Try.func29, Try.ntmps29
    go_wp2
    go_ret
    exact ⟨rfl, rfl⟩
  by_cases h5 : c = 40
  · subst h5
    rw [show sign 40 = 16 from rfl]
    go_enter Try.func29, Try.ntmps29
    go_wp2
    go_ret
    exact ⟨rfl, rfl⟩
  by_cases h6 : c = 41
  · subst h6
    rw [show sign 41 = 17 from rfl]
    go_enter Try.func29, Try.ntmps29
    go_wp2
    go_ret
    exact ⟨rfl, rfl⟩
  by_cases h7 : c = 91
  · subst h7
    rw [show sign 91 = 18 from rfl]
    go_enter Try.func29, Try.ntmps29
    go_wp2
    go_ret
    exact ⟨rfl, rfl⟩
  by_cases h8 : c = 93
  · subst h8
    rw [show sign 93 = 19 from rfl]
    go_enter Try.func29, Try.ntmps29
    go_wp2
    go_ret
    exact ⟨rfl, rfl⟩
  rw [show sign c = 0 by unfold sign; rw [if_neg h0, if_neg h1, if_neg h2, if_neg h3, if_neg h4, if_neg h5, if_neg h6, if_neg h7, if_neg h8]]
  go_enter Try.func29, Try.ntmps29
  go_wp2
  go_ret
  exact ⟨rfl, rfl⟩

end Go.Proofs.Yteihbpmmjlkkgaa.Ref
