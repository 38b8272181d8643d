/- The declarations of two lists of tokens one behind the other, where the first one leaves nothing open: the lists' own fact of DeclParts. No program in this text. -/
import Derived.Test.YtfbfgpgpccemkaaRsApp
import Derived.Test.YtfbfgpgpccemkaaBsF
namespace Go.Proofs.Ytfbfgpgpccemkaa.Dc

theorem decls_colon {c : Bt} (h : c.kind = 11) : decls [c] = [] := by
  rw [decls_one (by omega) (by omega) (by omega)]
  have e : upto isSemi (kds [c]) = 1 := by simp only [kds, List.map_cons, List.map_nil, h]; decide
  rw [e]
  show (declOf [c]).toList ++ decls [] = []
  rw [decls_nil, List.append_nil]
  simp [declOf, h]
/-- What is left of the mark behind its first token is no declaration. -/
theorem decls_rest {q c : Bt} (h2 : c.kind = 11) : ∀ i, decls ([q, c].drop (i + 1)) = []
  | 0 => decls_colon h2
  | _ + 1 => by simp [decls_nil]
/-- An at-rule: it ends within the list; or the mark behind the list is no declaration of its own. -/
theorem at_app {q c x : Bt} {r : List Bt} (h1 : q.kind = 1) (h2 : c.kind = 11) (hx : x.kind = 2) (hM : (decls (x :: r ++ [q, c])).length = (decls (x :: r)).length + 1) :
    ∃ j, j ≤ r.length ∧ ∀ b, decls (x :: (r ++ b)) = decls (r.drop j ++ b) := by
  have kM : kds [q, c] = [1, 11] := by simp [kds, h1, h2]
  have bad : ∀ j, r.length < j → decls (x :: (r ++ [q, c])) = decls ((r ++ [q, c]).drop j) → False := fun j hj e1 => by
    rw [List.cons_append, e1] at hM
    obtain ⟨i, rfl⟩ : ∃ i, j = r.length + (i + 1) := ⟨j - r.length - 1, by omega⟩
    rw [List.drop_length_add_append, decls_rest h2] at hM
    simp at hM
  have e : ∀ b, decls (x :: (r ++ b)) = decls ((r ++ b).drop (upto isEnd (kds r ++ kds b) + run [] ((kds r ++ kds b).drop (upto isEnd (kds r ++ kds b))))) := fun b => by
    rw [decls_at hx, kds_append]
  have hkl := kds_length r
  rcases upto_app isEnd _ (kds r) (Nat.le_refl _) with ⟨i1, i2⟩ | ⟨i1, i2⟩ | ⟨i1, st, i2, i3⟩
  · have hle := run_le [] ((kds r).drop (upto isEnd (kds r)))
    rw [List.length_drop] at hle
    have hdb : ∀ b, (kds r ++ b).drop (upto isEnd (kds r)) = (kds r).drop (upto isEnd (kds r)) ++ b := fun b => List.drop_append_of_le_length (by omega)
    by_cases hc : opns [] (((kds r).drop (upto isEnd (kds r))).take (run [] ((kds r).drop (upto isEnd (kds r))))) = []
    · refine ⟨upto isEnd (kds r) + run [] ((kds r).drop (upto isEnd (kds r))), by omega, fun b => ?_⟩
      rw [e, i2, hdb, run_app_closed _ _ _ (fun e0 => by have := List.drop_eq_nil_iff.1 e0; omega) hc, List.drop_append_of_le_length (by omega)]
    · have hlen := (opns_run ((kds r).drop (upto isEnd (kds r))) []).resolve_left hc
      rw [List.length_drop] at hlen
      refine (bad (upto isEnd (kds r) + ((kds r).length - upto isEnd (kds r) + run (opns [] ((kds r).drop (upto isEnd (kds r)))) [1, 11])) ?_ ?_).elim
      · have := run_pos (opns [] ((kds r).drop (upto isEnd (kds r)))) 1 [11]
        omega
      · rw [e, kM, i2, hdb, run_app_open _ _ _ hc, List.length_drop]
  · refine (bad (upto isEnd (kds r ++ [1, 11]) + run [] ((kds r ++ [1, 11]).drop (upto isEnd (kds r ++ [1, 11])))) ?_ ?_).elim
    · rw [i2, show upto isEnd [1, 11] = 2 by decide]
      omega
    · rw [e, kM]
  · refine (bad (upto isEnd (kds r ++ [1, 11]) + run [] ((kds r ++ [1, 11]).drop (upto isEnd (kds r ++ [1, 11])))) ?_ ?_).elim
    · have := run_pos st 1 [11]
      rw [i3]
      omega
    · rw [e, kM]
theorem dropW_app (r M : List Bt) : (dropW r = [] ∧ dropW (r ++ M) = dropW M) ∨ (dropW r ≠ [] ∧ dropW (r ++ M) = dropW r ++ M) := by
  induction r with
  | nil => exact .inl ⟨rfl, rfl⟩
  | cons t r ih =>
    rw [List.cons_append]
    by_cases h : t.kind = 9
    · rw [dropW_yes h, dropW_yes h]
      exact ih
    · rw [dropW_no h, dropW_no h]
      exact .inr ⟨by simp, rfl⟩
/-- The mark behind what is no declaration makes none of it. -/
theorem declOf_mark {q c x : Bt} {r : List Bt} (h1 : q.kind = 1) (h : declOf (x :: r) = none) : declOf (x :: r ++ [q, c]) = none := by
  rw [List.cons_append]
  by_cases hx : x.kind = 1
  · rcases dropW_app r [q, c] with ⟨e1, e2⟩ | ⟨e1, e2⟩
    · rw [dropW_no (by omega)] at e2
      simp [declOf, hx, e2, h1]
    · cases hd : dropW r with
      | nil => exact absurd hd e1
      | cons y v =>
        rw [hd, List.cons_append] at e2
        by_cases hy : y.kind = 11
        · simp [declOf, hx, hd, hy] at h
        · simp [declOf, hx, e2, hy]
  · simp [declOf, hx]
/-- THE FACT: where the mark behind t is a declaration of its own, whatever stands behind t is read as if it stood alone. -/
theorem decls_app {q c : Bt} (h1 : q.kind = 1) (h2 : c.kind = 11) : ∀ (n : Nat) (t : List Bt), t.length ≤ n → (decls (t ++ [q, c])).length = (decls t).length + 1 → ∀ u, decls (t ++ u) = decls t ++ decls u
  | _, [], _, _, u => rfl
  | 0, x :: r, h, _, _ => by simp at h
  | n + 1, x :: r, h, hM, u => by
    rw [List.length_cons] at h
    by_cases h9 : x.kind = 9 ∨ x.kind = 12
    · have e : ∀ b, decls (x :: r ++ b) = decls (r ++ b) := fun b => by rw [List.cons_append, decls_pass h9]
      rw [e, decls_pass h9] at hM
      rw [e, decls_app h1 h2 n r (by omega) hM u, decls_pass h9]
    · by_cases hx : x.kind = 2
      · obtain ⟨j, hj, e⟩ := at_app h1 h2 hx hM
        have e' : ∀ b, decls (x :: r ++ b) = decls (r.drop j ++ b) := fun b => by rw [List.cons_append]; exact e b
        have e0 := e' []
        rw [List.append_nil, List.append_nil] at e0
        rw [e', e0] at hM
        rw [e', decls_app h1 h2 n (r.drop j) (by rw [List.length_drop]; omega) hM u, e0]
      · have hx9 : x.kind ≠ 9 := fun e => h9 (.inl e)
        have hx12 : x.kind ≠ 12 := fun e => h9 (.inr e)
        have hp := upto_semi_pos (r := r) hx12
        have kM : kds [q, c] = [1, 11] := by simp [kds, h1, h2]
        have hkl := kds_length (x :: r)
        have one : ∀ b, decls (x :: r ++ b) = (declOf ((x :: r ++ b).take (upto isSemi (kds (x :: r) ++ kds b)))).toList ++ decls ((x :: r ++ b).drop (upto isSemi (kds (x :: r) ++ kds b))) := fun b => by
          rw [← kds_append, List.cons_append]
          exact decls_one hx9 hx12 hx
        have one0 := one []
        rw [show kds ([] : List Bt) = [] from rfl, List.append_nil, List.append_nil] at one0
        have bad : upto isSemi (kds (x :: r)) = (kds (x :: r)).length → upto isSemi (kds (x :: r) ++ [1, 11]) = (kds (x :: r)).length + 2 → False := fun e0 e2 => by
          have o2 := one [q, c]
          rw [kM, e2, hkl, List.take_of_length_le (by simp), List.drop_eq_nil_iff.2 (by simp), decls_nil, List.append_nil] at o2
          rw [e0, hkl, List.take_of_length_le (Nat.le_refl _), List.drop_eq_nil_iff.2 (Nat.le_refl _), decls_nil, List.append_nil] at one0
          rw [o2, one0] at hM
          cases hd : declOf (x :: r) with
          | none =>
            rw [declOf_mark h1 hd, hd] at hM
            simp at hM
          | some d =>
            rw [hd] at hM
            cases hd2 : declOf (x :: r ++ [q, c]) with
            | none => rw [hd2] at hM; simp at hM
            | some d2 => rw [hd2] at hM; simp at hM
        rcases upto_app isSemi _ (kds (x :: r)) (Nat.le_refl _) with ⟨i1, i2⟩ | ⟨i1, i2⟩ | ⟨i1, st, i2, i3⟩
        · obtain ⟨m, hm⟩ : ∃ m, upto isSemi (kds (x :: r)) = m := ⟨_, rfl⟩
          rw [hm, hkl] at i1
          rw [hm] at hp
          have e : ∀ b, decls (x :: r ++ b) = (declOf ((x :: r).take m)).toList ++ decls ((x :: r).drop m ++ b) := fun b => by
            rw [one b, i2, hm, List.take_append_of_le_length (by omega), List.drop_append_of_le_length (by omega)]
          rw [hm] at one0
          have hM' : (decls ((x :: r).drop m ++ [q, c])).length = (decls ((x :: r).drop m)).length + 1 := by
            rw [e, one0, List.length_append, List.length_append] at hM
            omega
          rw [e, decls_app h1 h2 n ((x :: r).drop m) (by rw [List.length_drop, List.length_cons]; omega) hM' u, one0, List.append_assoc]
        · exact (bad i1 (by rw [i2, show upto isSemi [1, 11] = 2 by decide])).elim
        · refine (bad i1 ?_).elim
          rw [i3]
          have hr1 := run_pos st 1 [11]
          have hr2 := run_le st [1, 11]
          simp only [List.length_cons, List.length_nil] at hr2
          rcases (show run st [1, 11] = 1 ∨ run st [1, 11] = 2 by omega) with hr | hr
          · rw [hr, show upto isSemi (([1, 11] : List Int).drop 1) = 1 by decide]
          · rw [hr, show upto isSemi (([1, 11] : List Int).drop 2) = 0 by decide]

end Go.Proofs.Ytfbfgpgpccemkaa.Dc
