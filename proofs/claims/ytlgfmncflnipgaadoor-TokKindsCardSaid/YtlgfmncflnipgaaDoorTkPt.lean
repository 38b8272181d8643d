/- package tok's questions on one code point. -/
import Derived.Test.YtlgfmncflnipgaaDoorProg
import Derived.Test.YtlgfmncflnipgaaDoorBsA
import Derived.Test.YtlgfmncflnipgaaDoorBsC
import Derived.Deep.RegionWith
import Derived.Deep.DeepCutAuto
import Derived.OwnWalk
namespace Go.Proofs.YtlgfmncflnipgaaDoor
open Go Go.RowKit

theorem ret_bool {a b : Bool} (h : a = true ↔ b = true) : Ending.returned (.bool a) = .returned (.bool b) := by rw [Bool.eq_iff_iff.2 h]
theorem ret_int {a b : Int} (h : a = b) : Ending.returned (.int .i64 a) = .returned (.int .i64 b) := by rw [h]

set_option maxHeartbeats 400000 in
theorem settled_any (c : Int) (w : World) : Calls Tryd.prog 34 #[.int .i64 c] w fun e w' => e = .returned (.int .i64 (fixC c)) ∧ w' = w := by
  go_enter Tryd.func34, Tryd.ntmps34
  go_wp2
  all_goals go_ret
  all_goals refine ⟨ret_int ?_, rfl⟩
  all_goals first | exact (fixC_yes (rightB_true (by omega))).symm | exact (fixC_no (rightB_false (by omega))).symm

theorem isWhite_any (c : Int) (w : World) : Calls Tryd.prog 35 #[.int .i64 c] w fun e w' => e = .returned (.bool (isWhite c)) ∧ w' = w := by
  go_enter Tryd.func35, Tryd.ntmps35
  go_wp2
  all_goals go_ret
  all_goals refine ⟨ret_bool ?_, rfl⟩
  all_goals (rw [isWhite_iff]; try simp; try omega)

theorem isDigit_any (c : Int) (w : World) : Calls Tryd.prog 55 #[.int .i64 c] w fun e w' => e = .returned (.bool (isDigit c)) ∧ w' = w := by
  go_enter Tryd.func55, Tryd.ntmps55
  go_wp2
  all_goals go_ret
  all_goals refine ⟨ret_bool ?_, rfl⟩
  all_goals (rw [isDigit_iff]; try simp; try omega)

set_option maxHeartbeats 1000000 in
theorem isNameStart_any (c : Int) (w : World) : Calls Tryd.prog 54 #[.int .i64 c] w fun e w' => e = .returned (.bool (nameStart c)) ∧ w' = w := by
  go_enter Tryd.func54, Tryd.ntmps54
  go_wp2
  all_goals go_ret
  all_goals refine ⟨ret_bool ?_, rfl⟩
  all_goals (rw [nameStart_iff]; try simp; try omega)

theorem isSign_any (c : Int) (w : World) : Calls Tryd.prog 57 #[.int .i64 c] w fun e w' => e = .returned (.bool (c == 43 || c == 45)) ∧ w' = w := by
  go_enter Tryd.func57, Tryd.ntmps57
  go_wp2
  all_goals go_ret
  all_goals refine ⟨ret_bool ?_, rfl⟩
  all_goals (try simp; try omega)

set_option maxHeartbeats 1000000 in
theorem isNamePoint_any (c : Int) (w : World) : Calls Tryd.prog 38 #[.int .i64 c] w fun e w' => e = .returned (.bool (namePt c)) ∧ w' = w := by
  have h1 := isNameStart_any c
  have h2 := isDigit_any c
  rw [show namePt c = (nameStart c || isDigit c || c == 45) from rfl]
  generalize nameStart c = a at *
  generalize isDigit c = b at *
  cases a with
  | true =>
    go_enter Tryd.func38, Tryd.ntmps38
    go_wp2_with fail
    refine (h1 _).mono ?_
    rintro e w' ⟨rfl, rfl⟩
    go_wp2
    go_ret
    exact ⟨rfl, rfl⟩
  | false =>
    cases b with
    | true =>
      go_enter Tryd.func38, Tryd.ntmps38
      go_wp2_with fail
      refine (h1 _).mono ?_
      rintro e w' ⟨rfl, rfl⟩
      go_wp2_with fail
      refine (h2 _).mono ?_
      rintro e w' ⟨rfl, rfl⟩
      go_wp2
      go_ret
      exact ⟨rfl, rfl⟩
    | false =>
      go_enter Tryd.func38, Tryd.ntmps38
      go_wp2_with fail
      refine (h1 _).mono ?_
      rintro e w' ⟨rfl, rfl⟩
      go_wp2_with fail
      refine (h2 _).mono ?_
      rintro e w' ⟨rfl, rfl⟩
      go_wp2
      go_ret
      exact ⟨rfl, rfl⟩

/-- A digit's number, or nought. -/
def hexOr (c : Int) : Int := if 0 ≤ hexv c then hexv c else 0
set_option maxHeartbeats 1000000 in
theorem hexDigit_any (c : Int) (w : World) : Calls Tryd.prog 65 #[.int .i64 c] w fun e w' => e = .returned (.tuple #[.int .i64 (hexOr c), .bool (isHex c)]) ∧ w' = w := by
  have h2 := isDigit_any c
  by_cases hd : 48 ≤ c ∧ c ≤ 57
  · rw [isDigit_iff.2 hd] at h2
    have e1 : hexv c = c - 48 := by unfold hexv; rw [if_pos hd]
    rw [show hexOr c = c - 48 by unfold hexOr; rw [e1, if_pos (by omega)], show isHex c = true from isHex_iff.2 (by omega)]
    clear e1
    go_enter Tryd.func65, Tryd.ntmps65
    go_wp2_with fail
    refine (h2 _).mono ?_
    rintro e w' ⟨rfl, rfl⟩
    go_wp2
    go_ret2
    exact ⟨rfl, rfl⟩
  · rw [isDigit_no hd] at h2
    by_cases ha : 97 ≤ c ∧ c ≤ 102
    · have e1 : hexv c = c - 97 + 10 := by unfold hexv; rw [if_neg hd, if_pos ha]
      rw [show hexOr c = c - 97 + 10 by unfold hexOr; rw [e1, if_pos (by omega)], show isHex c = true from isHex_iff.2 (by omega)]
      clear e1 hd
      go_enter Tryd.func65, Tryd.ntmps65
      go_wp2_with fail
      refine (h2 _).mono ?_
      rintro e w' ⟨rfl, rfl⟩
      go_wp2
      go_ret2
      exact ⟨rfl, rfl⟩
    · by_cases hb : 65 ≤ c ∧ c ≤ 70
      · have e1 : hexv c = c - 65 + 10 := by unfold hexv; rw [if_neg hd, if_neg ha, if_pos hb]
        rw [show hexOr c = c - 65 + 10 by unfold hexOr; rw [e1, if_pos (by omega)], show isHex c = true from isHex_iff.2 (by omega)]
        clear e1 hd
        go_enter Tryd.func65, Tryd.ntmps65
        go_wp2_with fail
        refine (h2 _).mono ?_
        rintro e w' ⟨rfl, rfl⟩
        go_wp2
        go_ret2
        exact ⟨rfl, rfl⟩
      · have e1 : hexv c = -1 := by unfold hexv; rw [if_neg hd, if_neg ha, if_neg hb]
        rw [show hexOr c = 0 by unfold hexOr; rw [e1]; rfl, show isHex c = false by simp [isHex, e1]]
        clear e1 hd
        go_enter Tryd.func65, Tryd.ntmps65
        go_wp2_with fail
        refine (h2 _).mono ?_
        rintro e w' ⟨rfl, rfl⟩
        go_wp2
        all_goals first | (go_ret2; exact ⟨rfl, rfl⟩) | omega

end Go.Proofs.YtlgfmncflnipgaaDoor
