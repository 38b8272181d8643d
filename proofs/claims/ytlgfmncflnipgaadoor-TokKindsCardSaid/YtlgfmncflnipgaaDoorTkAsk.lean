/- package tok's reader: what begins where it stands. -/
import Derived.Test.YtlgfmncflnipgaaDoorTkRd
namespace Go.Proofs.YtlgfmncflnipgaaDoor
open Go Go.RowKit

theorem At.see_ge {W : World} {n₀ R : Nat} {raw l : List Int} (h : At n₀ W R raw l) (k : Nat) : see l k = -1 ∨ 0 ≤ see l k := by
  obtain ⟨v, a, hr, rfl⟩ := h
  rw [see_drop]
  by_cases hk : a + k < raw.length
  · rw [see_raw hk]
    exact .inr (fixC_right _).1
  · exact .inl (see_out (by rw [List.length_map]; omega))

theorem escAt_eq (l : List Int) (n : Nat) : escAt (l.drop n) = (see l n == 92 && decide (0 ≤ see l (n + 1)) && see l (n + 1) != 10) := by
  unfold escAt
  rw [see_drop, see_drop]
  rfl

set_option maxHeartbeats 1000000 in
theorem escapes_any (n : Nat) (hn : n ≤ 3) {w : World} {n₀ R : Nat} {raw l : List Int} (h : At n₀ w R raw l) :
    Calls Tryd.prog 39 #[.pointer (some ⟨R, 0, none⟩), .int .i64 n] w fun e w' => e = .returned (.bool (escAt (l.drop n))) ∧ w.grownBy w' none := by
  have h1 : Calls Tryd.prog 23 #[.pointer (some ⟨R, 0, none⟩), .int .i64 ((n : Int) + 1)] w fun e w' => e = .returned (.int .i64 (see l (n + 1))) ∧ w.grownBy w' none := ahead_any (n + 1) (by omega) h
  have h2 := fun w1 (g : w.grownBy w1 none) => ahead_any n (by omega) (h.kept g)
  have hge := h.see_ge (n + 1)
  rw [escAt_eq]
  clear h
  generalize see l (n + 1) = d at *
  generalize see l n = c at *
  go_enter Tryd.func39, Tryd.ntmps39
  go_wp2_with fail
  refine h1.mono ?_
  rintro e w1 ⟨rfl, g1⟩
  go_wp2_with fail
  refine (h2 _ g1).mono ?_
  rintro e w2 ⟨rfl, g2⟩
  have g := g1.trans g2
  go_wp2
  all_goals go_ret
  all_goals refine ⟨ret_bool ?_, g⟩
  all_goals (simp; try omega)

theorem nameStarts_any (n : Nat) (hn : n ≤ 3) {w : World} {n₀ R : Nat} {raw l : List Int} (h : At n₀ w R raw l) :
    Calls Tryd.prog 60 #[.pointer (some ⟨R, 0, none⟩), .int .i64 n] w fun e w' => e = .returned (.bool (nameStart (see l n) || escAt (l.drop n))) ∧ w.grownBy w' none := by
  have h1 := ahead_any n (by omega) h
  have h2 := isNameStart_any (see l n)
  have h3 := fun w1 (g : w.grownBy w1 none) => escapes_any n hn (h.kept g)
  clear h
  generalize nameStart (see l n) = a at *
  generalize escAt (l.drop n) = b at *
  generalize see l n = c at *
  cases a with
  | true =>
    go_enter Tryd.func60, Tryd.ntmps60
    go_wp2_with fail
    refine h1.mono ?_
    rintro e w1 ⟨rfl, g1⟩
    go_wp2_with fail
    refine (h2 _).mono ?_
    rintro e w' ⟨rfl, rfl⟩
    go_wp2
    go_ret
    exact ⟨rfl, g1⟩
  | false =>
    go_enter Tryd.func60, Tryd.ntmps60
    go_wp2_with fail
    refine h1.mono ?_
    rintro e w1 ⟨rfl, g1⟩
    go_wp2_with fail
    refine (h2 _).mono ?_
    rintro e w' ⟨rfl, rfl⟩
    go_wp2_with fail
    refine (h3 _ g1).mono ?_
    rintro e w2 ⟨rfl, g2⟩
    go_wp2
    go_ret
    exact ⟨rfl, g1.trans g2⟩

theorem begName_eq (l : List Int) (n : Nat) : begName (l.drop n) = if see l n = 45 then see l (n + 1) == 45 || (nameStart (see l (n + 1)) || escAt (l.drop (n + 1))) else nameStart (see l n) || escAt (l.drop n) := by
  unfold begName
  rw [see_drop, see_drop, Nat.add_zero, List.tail_drop]
  by_cases h : see l n = 45
  · rw [if_pos (by simpa using h), if_pos h]
    cases nameStart (see l (n + 1)) <;> cases (see l (n + 1) == 45) <;> rfl
  · rw [if_neg (by simpa using h), if_neg h]

set_option maxHeartbeats 1000000 in
theorem nameBegins_any (n : Nat) (hn : n ≤ 2) {w : World} {n₀ R : Nat} {raw l : List Int} (h : At n₀ w R raw l) :
    Calls Tryd.prog 43 #[.pointer (some ⟨R, 0, none⟩), .int .i64 n] w fun e w' => e = .returned (.bool (begName (l.drop n))) ∧ w.grownBy w' none := by
  have h1 := ahead_any n (by omega) h
  have h2 := fun w1 (g : w.grownBy w1 none) => nameStarts_any n (by omega) (h.kept g)
  have h3 : ∀ w1 (g : w.grownBy w1 none), Calls Tryd.prog 23 #[.pointer (some ⟨R, 0, none⟩), .int .i64 ((n : Int) + 1)] w1 fun e w' => e = .returned (.int .i64 (see l (n + 1))) ∧ w1.grownBy w' none := fun w1 g => ahead_any (n + 1) (by omega) (h.kept g)
  have h4 : ∀ w1 (g : w.grownBy w1 none), Calls Tryd.prog 60 #[.pointer (some ⟨R, 0, none⟩), .int .i64 ((n : Int) + 1)] w1 fun e w' => e = .returned (.bool (nameStart (see l (n + 1)) || escAt (l.drop (n + 1)))) ∧ w1.grownBy w' none := fun w1 g => nameStarts_any (n + 1) (by omega) (h.kept g)
  rw [begName_eq]
  clear h
  generalize (nameStart (see l n) || escAt (l.drop n)) = a at *
  generalize (nameStart (see l (n + 1)) || escAt (l.drop (n + 1))) = b at *
  generalize see l (n + 1) = d at *
  by_cases hc : see l n = 45
  · rw [if_pos hc]
    rw [hc] at h1
    clear hc
    by_cases hd : d = 45
    · subst hd
      go_enter Tryd.func43, Tryd.ntmps43
      go_wp2_with fail
      refine h1.mono ?_
      rintro e w1 ⟨rfl, g1⟩
      go_wp2_with fail
      refine (h3 _ g1).mono ?_
      rintro e w2 ⟨rfl, g2⟩
      go_wp2
      go_ret
      exact ⟨rfl, g1.trans g2⟩
    · have hd' : (d == 45) = false := by simpa using hd
      rw [hd', Bool.false_or]
      go_enter Tryd.func43, Tryd.ntmps43
      go_wp2_with fail
      refine h1.mono ?_
      rintro e w1 ⟨rfl, g1⟩
      go_wp2_with fail
      refine (h3 _ g1).mono ?_
      rintro e w2 ⟨rfl, g2⟩
      go_wp2_with fail
      refine (h4 _ (g1.trans g2)).mono ?_
      rintro e w3 ⟨rfl, g3⟩
      go_wp2
      go_ret
      exact ⟨rfl, (g1.trans g2).trans g3⟩
  · rw [if_neg hc]
    generalize see l n = c at *
    have hc' : (c == 45) = false := by simpa using hc
    go_enter Tryd.func43, Tryd.ntmps43
    go_wp2_with fail
    refine h1.mono ?_
    rintro e w1 ⟨rfl, g1⟩
    go_wp2_with fail
    refine (h2 _ g1).mono ?_
    rintro e w2 ⟨rfl, g2⟩
    go_wp2
    go_ret
    exact ⟨rfl, g1.trans g2⟩

theorem pointed_eq (l : List Int) (n : Nat) : pointed (l.drop n) = (see l n == 46 && isDigit (see l (n + 1))) := by
  unfold pointed
  rw [see_drop, see_drop]
  rfl
set_option maxHeartbeats 1000000 in
theorem fractionBegins_any (n : Nat) (hn : n ≤ 2) {w : World} {n₀ R : Nat} {raw l : List Int} (h : At n₀ w R raw l) :
    Calls Tryd.prog 58 #[.pointer (some ⟨R, 0, none⟩), .int .i64 n] w fun e w' => e = .returned (.bool (pointed (l.drop n))) ∧ w.grownBy w' none := by
  have h1 := ahead_any n (by omega) h
  have h3 : ∀ w1 (g : w.grownBy w1 none), Calls Tryd.prog 23 #[.pointer (some ⟨R, 0, none⟩), .int .i64 ((n : Int) + 1)] w1 fun e w' => e = .returned (.int .i64 (see l (n + 1))) ∧ w1.grownBy w' none := fun w1 g => ahead_any (n + 1) (by omega) (h.kept g)
  have h4 := isDigit_any (see l (n + 1))
  rw [pointed_eq]
  clear h
  generalize isDigit (see l (n + 1)) = b at *
  generalize see l (n + 1) = d at *
  generalize see l n = c at *
  by_cases hc : c = 46
  · subst hc
    go_enter Tryd.func58, Tryd.ntmps58
    go_wp2_with fail
    refine h1.mono ?_
    rintro e w1 ⟨rfl, g1⟩
    go_wp2_with fail
    refine (h3 _ g1).mono ?_
    rintro e w2 ⟨rfl, g2⟩
    go_wp2_with fail
    refine (h4 _).mono ?_
    rintro e w' ⟨rfl, rfl⟩
    go_wp2
    go_ret
    exact ⟨rfl, g1.trans g2⟩
  · have hc' : (c == 46) = false := by simpa using hc
    rw [hc', Bool.false_and]
    go_enter Tryd.func58, Tryd.ntmps58
    go_wp2_with fail
    refine h1.mono ?_
    rintro e w1 ⟨rfl, g1⟩
    go_wp2
    go_ret
    exact ⟨rfl, g1⟩

theorem unsign_eq (l : List Int) : unsign l = l.drop (if (see l 0 == 43 || see l 0 == 45) then 1 else 0) := by
  unfold unsign
  split
  · rw [List.drop_one]
  · rw [List.drop_zero]
set_option maxHeartbeats 1000000 in
theorem numberBegins_any {w : World} {n₀ R : Nat} {raw l : List Int} (h : At n₀ w R raw l) :
    Calls Tryd.prog 41 #[.pointer (some ⟨R, 0, none⟩)] w fun e w' => e = .returned (.bool (begNum l)) ∧ w.grownBy w' none := by
  have key : ∀ n : Nat, n ≤ 1 → ∀ w1, w.grownBy w1 none → Calls Tryd.prog 23 #[.pointer (some ⟨R, 0, none⟩), .int .i64 n] w1 fun e w' => e = .returned (.int .i64 (see l n)) ∧ w1.grownBy w' none := fun n hn w1 g => ahead_any n (by omega) (h.kept g)
  have keyf : ∀ n : Nat, n ≤ 1 → ∀ w1, w.grownBy w1 none → Calls Tryd.prog 58 #[.pointer (some ⟨R, 0, none⟩), .int .i64 n] w1 fun e w' => e = .returned (.bool (pointed (l.drop n))) ∧ w1.grownBy w' none := fun n hn w1 g => fractionBegins_any n (by omega) (h.kept g)
  have h0 := key 0 (by omega) w (World.grownBy.refl _ _)
  have hs := isSign_any (see l 0)
  have e1 : begNum l = (isDigit (see (unsign l) 0) || pointed (unsign l)) := rfl
  rw [e1, unsign_eq]
  clear e1 h
  generalize (see l 0 == 43 || see l 0 == 45) = s at *
  cases s with
  | true =>
    have k1 := key 1 (by omega)
    have kf := keyf 1 (by omega)
    rw [if_pos rfl, see_drop]
    have hd := isDigit_any (see l (1 + 0))
    rw [Nat.add_zero] at hd ⊢
    generalize see l 0 = c at *
    generalize isDigit (see l 1) = a at *
    generalize pointed (l.drop 1) = b at *
    generalize see l 1 = d at *
    cases a with
    | true =>
      go_enter Tryd.func41, Tryd.ntmps41
      go_wp2_with fail
      refine h0.mono ?_
      rintro e w1 ⟨rfl, g1⟩
      go_wp2_with fail
      refine (hs _).mono ?_
      rintro e w' ⟨rfl, rfl⟩
      go_wp2_with fail
      refine (k1 _ g1).mono ?_
      rintro e w2 ⟨rfl, g2⟩
      go_wp2_with fail
      refine (hd _).mono ?_
      rintro e w' ⟨rfl, rfl⟩
      go_wp2
      go_ret
      exact ⟨rfl, g1.trans g2⟩
    | false =>
      go_enter Tryd.func41, Tryd.ntmps41
      go_wp2_with fail
      refine h0.mono ?_
      rintro e w1 ⟨rfl, g1⟩
      go_wp2_with fail
      refine (hs _).mono ?_
      rintro e w' ⟨rfl, rfl⟩
      go_wp2_with fail
      refine (k1 _ g1).mono ?_
      rintro e w2 ⟨rfl, g2⟩
      go_wp2_with fail
      refine (hd _).mono ?_
      rintro e w' ⟨rfl, rfl⟩
      go_wp2_with fail
      refine (kf _ (g1.trans g2)).mono ?_
      rintro e w3 ⟨rfl, g3⟩
      go_wp2
      go_ret
      exact ⟨rfl, (g1.trans g2).trans g3⟩
  | false =>
    have k1 := key 0 (by omega)
    have kf := keyf 0 (by omega)
    rw [if_neg (by decide), see_drop]
    have hd := isDigit_any (see l (0 + 0))
    rw [Nat.add_zero] at hd ⊢
    generalize isDigit (see l 0) = a at *
    generalize pointed (l.drop 0) = b at *
    generalize see l 0 = d at *
    cases a with
    | true =>
      go_enter Tryd.func41, Tryd.ntmps41
      go_wp2_with fail
      refine h0.mono ?_
      rintro e w1 ⟨rfl, g1⟩
      go_wp2_with fail
      refine (hs _).mono ?_
      rintro e w' ⟨rfl, rfl⟩
      go_wp2_with fail
      refine (k1 _ g1).mono ?_
      rintro e w2 ⟨rfl, g2⟩
      go_wp2_with fail
      refine (hd _).mono ?_
      rintro e w' ⟨rfl, rfl⟩
      go_wp2
      go_ret
      exact ⟨rfl, g1.trans g2⟩
    | false =>
      go_enter Tryd.func41, Tryd.ntmps41
      go_wp2_with fail
      refine h0.mono ?_
      rintro e w1 ⟨rfl, g1⟩
      go_wp2_with fail
      refine (hs _).mono ?_
      rintro e w' ⟨rfl, rfl⟩
      go_wp2_with fail
      refine (k1 _ g1).mono ?_
      rintro e w2 ⟨rfl, g2⟩
      go_wp2_with fail
      refine (hd _).mono ?_
      rintro e w' ⟨rfl, rfl⟩
      go_wp2_with fail
      refine (kf _ (g1.trans g2)).mono ?_
      rintro e w3 ⟨rfl, g3⟩
      go_wp2
      go_ret
      exact ⟨rfl, (g1.trans g2).trans g3⟩

end Go.Proofs.YtlgfmncflnipgaaDoor
