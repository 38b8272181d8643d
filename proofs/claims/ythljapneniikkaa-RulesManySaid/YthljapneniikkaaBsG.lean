/- The rules of two lists of tokens one behind the other, where the first one leaves nothing open (for RulesParts): no program in this text. -/
import Derived.Test.YthljapneniikkaaRsApp
import Derived.Test.YthljapneniikkaaRsRaw
namespace Go.Proofs.Ythljapneniikkaa

/-- How many of the mark's three tokens a thing that is open takes. -/
theorem run_mark (st : List Int) : run st [1, 14, 15] = 1 ∨ run st [1, 14, 15] = 2 ∨ run st [1, 14, 15] = 3 := by
  have h1 := run_le st [1, 14, 15]
  have h2 := run_pos st 1 [14, 15]
  simp at h1
  omega
/-- What is asked of a list: the mark behind it is a rule of its own. -/
def ownMark (M t : List Bt) : Prop := (rules (t ++ M)).length = (rules t).length + 1 ∧ ∀ r, (rules (t ++ M)).getLast? = some r → r.1.length = 1

theorem rules_rest {o c : Bt} (h2 : o.kind = 14) (h3 : c.kind = 15) : rules [c] = [] ∧ rules [o, c] = [([], [])] := by
  constructor
  · exact rules_none (by omega) (by omega) (by simp only [kds, List.map_cons, List.map_nil, h3]; show upto is14 [15] = 1; decide)
  · have hu : upto is14 (kds [o, c]) = 0 := by simp only [kds, List.map_cons, List.map_nil, h2, h3]; decide
    have hv : upto is15' (kds ([o, c].drop (0 + 1))) = 0 := by simp only [kds, List.drop_succ_cons, List.drop_zero, List.map_cons, List.map_nil, h3]; decide
    rw [rules_one (by omega) (by omega) (by rw [hu]; simp), hu, hv]
    rfl
/-- An at-rule: it ends within the list; or the mark behind the list is no rule of its own. -/
theorem at_app {q o c x : Bt} {r : List Bt} (h1 : q.kind = 1) (h2 : o.kind = 14) (h3 : c.kind = 15) (hx : x.kind = 2) :
    (∃ j, j ≤ r.length ∧ ∀ b, rules (x :: (r ++ b)) = rules (r.drop j ++ b)) ∨ ¬ ownMark [q, o, c] (x :: r) := by
  have kM : kds [q, o, c] = [1, 14, 15] := by simp [kds, h1, h2, h3]
  have bad : ∀ j, r.length < j → rules (x :: r) = [] → rules (x :: (r ++ [q, o, c])) = rules ((r ++ [q, o, c]).drop j) → ¬ ownMark [q, o, c] (x :: r) := fun j hj e0 e1 hM => by
    obtain ⟨m1, m2⟩ := hM
    rw [List.cons_append, e1, e0] at m1
    rw [List.cons_append, e1] at m2
    obtain ⟨i, rfl⟩ : ∃ i, j = r.length + (i + 1) := ⟨j - r.length - 1, by omega⟩
    rw [List.drop_length_add_append] at m1 m2
    obtain ⟨r1, r2⟩ := rules_rest h2 h3
    match i with
    | 0 =>
      have := m2 ([], []) (by show (rules [o, c]).getLast? = _; rw [r2]; rfl)
      simp at this
    | 1 =>
      have : (rules [c]).length = 0 + 1 := m1
      rw [r1] at this
      simp at this
    | i + 2 =>
      have : (rules ([] : List Bt)).length = 0 + 1 := by simpa using m1
      rw [rules_nil] at this
      simp at this
  have e : ∀ b, rules (x :: (r ++ b)) = rules ((r ++ b).drop (upto isStop (kds r ++ kds b) + run [] ((kds r ++ kds b).drop (upto isStop (kds r ++ kds b))))) := fun b => by
    rw [rules_at hx, kds_append]
  have hself := e []
  rw [List.append_nil, show kds ([] : List Bt) = [] from rfl, List.append_nil] at hself
  have hkl := kds_length r
  rcases upto_app isStop _ (kds r) (Nat.le_refl _) with ⟨i1, i2⟩ | ⟨i1, i2⟩ | ⟨i1, st, i2, i3⟩
  · have hle := run_le [] ((kds r).drop (upto isStop (kds r)))
    rw [List.length_drop] at hle
    have hdb : ∀ b, (kds r ++ b).drop (upto isStop (kds r)) = (kds r).drop (upto isStop (kds r)) ++ b := fun b => List.drop_append_of_le_length (by omega)
    by_cases hc : opns [] (((kds r).drop (upto isStop (kds r))).take (run [] ((kds r).drop (upto isStop (kds r))))) = []
    · refine .inl ⟨upto isStop (kds r) + run [] ((kds r).drop (upto isStop (kds r))), by omega, fun b => ?_⟩
      rw [e, i2, hdb, run_app_closed _ _ _ (fun e0 => by have := List.drop_eq_nil_iff.1 e0; omega) hc, List.drop_append_of_le_length (by omega)]
    · have hlen := (opns_run ((kds r).drop (upto isStop (kds r))) []).resolve_left hc
      rw [List.length_drop] at hlen
      refine .inr (bad (upto isStop (kds r) + ((kds r).length - upto isStop (kds r) + run (opns [] ((kds r).drop (upto isStop (kds r)))) [1, 14, 15])) ?_ ?_ ?_)
      · have := run_pos (opns [] ((kds r).drop (upto isStop (kds r)))) 1 [14, 15]
        omega
      · rw [hself, List.drop_eq_nil_iff.2 (by omega), rules_nil]
      · rw [e, kM, i2, hdb, run_app_open _ _ _ hc, List.length_drop]
  · refine .inr (bad (upto isStop (kds r ++ [1, 14, 15]) + run [] ((kds r ++ [1, 14, 15]).drop (upto isStop (kds r ++ [1, 14, 15])))) ?_ ?_ ?_)
    · rw [i2, show upto isStop [1, 14, 15] = 1 by decide]
      omega
    · rw [hself, List.drop_eq_nil_iff.2 (by omega), rules_nil]
    · rw [e, kM]
  · refine .inr (bad (upto isStop (kds r ++ [1, 14, 15]) + run [] ((kds r ++ [1, 14, 15]).drop (upto isStop (kds r ++ [1, 14, 15])))) ?_ ?_ ?_)
    · have := run_pos st 1 [14, 15]
      rw [i3]
      omega
    · rw [hself, List.drop_eq_nil_iff.2 (by omega), rules_nil]
    · rw [e, kM]

end Go.Proofs.Ythljapneniikkaa

/- The rules of two lists of tokens one behind the other, where the first one leaves nothing open: the lists' own fact of RulesParts. No program in this text. -/
namespace Go.Proofs.Ythljapneniikkaa

/-- A rule: it ends within the list; or the mark behind the list is no rule of its own. -/
theorem rule_app {q o c x : Bt} {r : List Bt} (h1 : q.kind = 1) (h2 : o.kind = 14) (h3 : c.kind = 15) (h9 : x.kind ≠ 9) (hx : x.kind ≠ 2) :
    (∃ p y j, 0 < j ∧ j ≤ (x :: r).length ∧ ∀ b, rules (x :: r ++ b) = (p, y) :: rules ((x :: r).drop j ++ b)) ∨ ¬ ownMark [q, o, c] (x :: r) := by
  have kM : kds [q, o, c] = [1, 14, 15] := by simp [kds, h1, h2, h3]
  obtain ⟨t, ht⟩ : ∃ t, x :: r = t := ⟨_, rfl⟩
  have one : ∀ b, upto is14 (kds (t ++ b)) ≠ (t ++ b).length → rules (t ++ b) = ((t ++ b).take (upto is14 (kds (t ++ b))), ((t ++ b).drop (upto is14 (kds (t ++ b)) + 1)).take (upto is15' (kds ((t ++ b).drop (upto is14 (kds (t ++ b)) + 1))))) :: rules ((t ++ b).drop (upto is14 (kds (t ++ b)) + 1 + (upto is15' (kds ((t ++ b).drop (upto is14 (kds (t ++ b)) + 1))) + 1))) := fun b h => by
    rw [← ht, List.cons_append] at h ⊢
    exact rules_one h9 hx h
  have none : ∀ b, upto is14 (kds (t ++ b)) = (t ++ b).length → rules (t ++ b) = [] := fun b h => by
    rw [← ht, List.cons_append] at h ⊢
    exact rules_none h9 hx h
  have hpos : 0 < t.length := by rw [← ht]; simp
  rw [ht]
  have hkl := kds_length t
  have hlM : (t ++ [q, o, c]).length = t.length + 3 := by simp
  have bad3 : upto is14 (kds t) = (kds t).length → upto is14 (kds t ++ [1, 14, 15]) = t.length + 3 → ¬ ownMark [q, o, c] t := fun e0 e1 hM => by
    have n0 := none [] (by rw [List.append_nil, e0, hkl])
    have n1 := none [q, o, c] (by rw [kds_append, kM, e1, hlM])
    rw [List.append_nil] at n0
    have := hM.1
    rw [n0, n1] at this
    simp at this
  have bad1 : upto is14 (kds t ++ [1, 14, 15]) = t.length + 1 → ¬ ownMark [q, o, c] t := fun e1 hM => by
    have hU : upto is14 (kds (t ++ [q, o, c])) = t.length + 1 := by rw [kds_append, kM, e1]
    have n1 := one [q, o, c] (by rw [hU, hlM]; omega)
    have hd : (t ++ [q, o, c]).drop (t.length + 1 + 1) = [c] := by
      rw [Nat.add_assoc, List.drop_length_add_append]
      rfl
    have hN : upto is15' (kds [c]) = 0 := by simp only [kds, List.map_cons, List.map_nil, h3]; decide
    rw [hU, hd, hN, List.drop_eq_nil_iff.2 (by rw [hlM]; omega), rules_nil] at n1
    have hl : ((t ++ [q, o, c]).take (t.length + 1)).length = t.length + 1 := by rw [List.length_take, hlM]; omega
    have h' : ((t ++ [q, o, c]).take (t.length + 1)).length = 1 := hM.2 _ (by rw [n1]; rfl)
    rw [hl] at h'
    omega
  rcases upto_app is14 _ (kds t) (Nat.le_refl _) with ⟨i1, i2⟩ | ⟨i1, i2⟩ | ⟨i1, st, i2, i3⟩
  · obtain ⟨m, hm⟩ : ∃ m, upto is14 (kds t) = m := ⟨_, rfl⟩
    rw [hm] at i1
    have hmU : ∀ b, upto is14 (kds (t ++ b)) = m := fun b => by rw [kds_append, i2, hm]
    have hdb : ∀ b, (t ++ b).drop (m + 1) = t.drop (m + 1) ++ b := fun b => List.drop_append_of_le_length (by omega)
    have hds : (t.drop (m + 1)).length = t.length - (m + 1) := List.length_drop
    have hks := kds_length (t.drop (m + 1))
    have e : ∀ b, rules (t ++ b) = (t.take m, (t.drop (m + 1) ++ b).take (upto is15' (kds (t.drop (m + 1)) ++ kds b))) :: rules ((t ++ b).drop (m + 1 + (upto is15' (kds (t.drop (m + 1)) ++ kds b) + 1))) := fun b => by
      have := one b (by rw [hmU, List.length_append]; omega)
      rw [hmU, hdb, kds_append, List.take_append_of_le_length (by omega)] at this
      exact this
    have bad : upto is15' (kds (t.drop (m + 1))) = (kds (t.drop (m + 1))).length → (kds (t.drop (m + 1))).length + 2 ≤ upto is15' (kds (t.drop (m + 1)) ++ [1, 14, 15]) → ¬ ownMark [q, o, c] t := fun e0 e1 hM => by
      have n0 := e []
      have n1 := e [q, o, c]
      rw [show kds ([] : List Bt) = [] from rfl, List.append_nil, List.append_nil, List.append_nil, e0, show t.drop (m + 1 + ((kds (t.drop (m + 1))).length + 1)) = [] from List.drop_eq_nil_iff.2 (by omega), rules_nil] at n0
      rw [kM, show (t ++ [q, o, c]).drop (m + 1 + (upto is15' (kds (t.drop (m + 1)) ++ [1, 14, 15]) + 1)) = [] from List.drop_eq_nil_iff.2 (by rw [hlM]; omega), rules_nil] at n1
      have := hM.1
      rw [n0, n1] at this
      simp at this
    rcases upto_app is15' _ (kds (t.drop (m + 1))) (Nat.le_refl _) with ⟨j1, j2⟩ | ⟨j1, j2⟩ | ⟨j1, st, j2, j3⟩
    · refine .inl ⟨t.take m, (t.drop (m + 1)).take (upto is15' (kds (t.drop (m + 1)))), m + 1 + (upto is15' (kds (t.drop (m + 1))) + 1), by omega, by omega, fun b => ?_⟩
      rw [e, j2, List.take_append_of_le_length (by omega), List.drop_append_of_le_length (by omega)]
    · exact .inr (bad j1 (by rw [j2, show upto is15' [1, 14, 15] = 3 by decide]; omega))
    · refine .inr (bad j1 ?_)
      rw [j3]
      rcases run_mark st with h | h | h
      · rw [h, show upto is15' (([1, 14, 15] : List Int).drop 1) = 2 by decide]; omega
      · rw [h]; omega
      · rw [h]; omega
  · exact .inr (bad1 (by rw [i2, show upto is14 [1, 14, 15] = 1 by decide, hkl]))
  · right
    rcases run_mark st with h | h | h
    · exact bad1 (by rw [i3, h, show upto is14 (([1, 14, 15] : List Int).drop 1) = 0 by decide, hkl])
    · exact bad3 i1 (by rw [i3, h, show upto is14 (([1, 14, 15] : List Int).drop 2) = 1 by decide, hkl])
    · exact bad3 i1 (by rw [i3, h, show upto is14 (([1, 14, 15] : List Int).drop 3) = 0 by decide, hkl])

theorem ownMark_of {M t t' : List Bt} (e : ∀ b, rules (t ++ b) = rules (t' ++ b)) (h : ownMark M t) : ownMark M t' := by
  have e0 := e []
  rw [List.append_nil, List.append_nil] at e0
  unfold ownMark at h ⊢
  rw [e, e0] at h
  exact h

/-- THE FACT: where the mark behind t is a rule of its own, whatever stands behind t is read as if it stood alone. -/
theorem rules_app {q o c : Bt} (h1 : q.kind = 1) (h2 : o.kind = 14) (h3 : c.kind = 15) : ∀ (n : Nat) (t : List Bt), t.length ≤ n → ownMark [q, o, c] t → ∀ u, rules (t ++ u) = rules t ++ rules u
  | _, [], _, _, u => rfl
  | 0, x :: r, h, _, _ => by simp at h
  | n + 1, x :: r, h, hM, u => by
    rw [List.length_cons] at h
    by_cases h9 : x.kind = 9
    · have e : ∀ b, rules (x :: r ++ b) = rules (r ++ b) := fun b => by rw [List.cons_append, rules_white h9]
      rw [e, rules_app h1 h2 h3 n r (by omega) (ownMark_of e hM) u, rules_white h9]
    · by_cases hx : x.kind = 2
      · rcases at_app (r := r) h1 h2 h3 hx with ⟨j, hj, e⟩ | hbad
        · have e' : ∀ b, rules (x :: r ++ b) = rules (r.drop j ++ b) := fun b => by rw [List.cons_append]; exact e b
          have e0 := e' []
          rw [List.append_nil, List.append_nil] at e0
          rw [e', rules_app h1 h2 h3 n (r.drop j) (by rw [List.length_drop]; omega) (ownMark_of e' hM) u, e0]
        · exact absurd hM hbad
      · rcases rule_app (r := r) h1 h2 h3 h9 hx with ⟨p, y, j, hj0, hj, e⟩ | hbad
        · have e0 := e []
          rw [List.append_nil, List.append_nil] at e0
          rw [List.length_cons] at hj
          have hM' : ownMark [q, o, c] ((x :: r).drop j) := by
            obtain ⟨m1, m2⟩ := hM
            rw [e, e0, List.length_cons, List.length_cons] at m1
            rw [e] at m2
            refine ⟨by omega, fun s hs => m2 s ?_⟩
            rw [List.getLast?_cons, hs]
            rfl
          rw [e, rules_app h1 h2 h3 n ((x :: r).drop j) (by rw [List.length_drop, List.length_cons]; omega) hM' u, e0]
          rfl
        · exact absurd hM hbad

end Go.Proofs.Ythljapneniikkaa
