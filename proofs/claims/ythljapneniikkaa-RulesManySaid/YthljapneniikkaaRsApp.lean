/- Things of two lists of kinds one behind the other (for RulesParts): no program in this text. -/
import Derived.Test.YthljapneniikkaaBsC
namespace Go.Proofs.Ythljapneniikkaa

/-- A thing that is closed within the first list. -/
theorem run_app_closed : ∀ (a st b : List Int), a ≠ [] → opns st (a.take (run st a)) = [] → run st (a ++ b) = run st a
  | [], _, _, h, _ => absurd rfl h
  | k :: r, st, b, _, h => by
    by_cases h0 : opn st k = []
    · rw [List.cons_append, run_cons_nil _ h0, run_cons_nil _ h0]
    · rw [run_cons_more r h0, Nat.add_comm 1] at h
      have h' : opns (opn st k) (r.take (run (opn st k) r)) = [] := h
      have hr : r ≠ [] := fun e => by
        subst e
        exact h0 h'
      rw [List.cons_append, run_cons_more _ h0, run_cons_more _ h0, run_app_closed r (opn st k) b hr h']
/-- One that is left open by it. -/
theorem run_app_open : ∀ (a st b : List Int), opns st (a.take (run st a)) ≠ [] → run st (a ++ b) = a.length + run (opns st a) b
  | [], st, b, _ => by
    show run st b = 0 + run st b
    omega
  | k :: r, st, b, h => by
    by_cases h0 : opn st k = []
    · rw [run_cons_nil r h0] at h
      exact absurd h0 h
    · rw [run_cons_more r h0, Nat.add_comm 1] at h
      have h' : opns (opn st k) (r.take (run (opn st k) r)) ≠ [] := h
      rw [List.cons_append, run_cons_more _ h0, run_app_open r (opn st k) b h', List.length_cons]
      show 1 + (r.length + run (opns (opn st k) r) b) = r.length + 1 + run (opns (opn st k) r) b
      omega
/-- Where the first wanted thing begins: in the first list; or none is in it and nothing is left open; or a thing is left open by it. -/
theorem upto_app (p : Int → Bool) : ∀ (n : Nat) (a : List Int), a.length ≤ n →
    (upto p a < a.length ∧ ∀ b, upto p (a ++ b) = upto p a) ∨
    (upto p a = a.length ∧ ∀ b, upto p (a ++ b) = a.length + upto p b) ∨
    (upto p a = a.length ∧ ∃ st, st ≠ [] ∧ ∀ b, upto p (a ++ b) = a.length + run st b + upto p (b.drop (run st b)))
  | _, [], _ => .inr (.inl ⟨rfl, fun b => by simp⟩)
  | 0, k :: r, h => by simp at h
  | n + 1, k :: r, h => by
    by_cases hk : p k = true
    · refine .inl ⟨?_, fun b => ?_⟩
      · rw [upto_cons, if_pos hk]
        simp
      · rw [List.cons_append, upto_cons, if_pos hk, upto_cons, if_pos hk]
    · have hp := run_pos [] k r
      have hl := run_le [] (k :: r)
      have hd : ((k :: r).drop (run [] (k :: r))).length = (k :: r).length - run [] (k :: r) := List.length_drop
      have hu : upto p (k :: r) = run [] (k :: r) + upto p ((k :: r).drop (run [] (k :: r))) := by rw [upto_cons, if_neg hk]
      have hub : ∀ b, upto p (k :: r ++ b) = run [] (k :: r ++ b) + upto p ((k :: r ++ b).drop (run [] (k :: r ++ b))) := fun b => by rw [List.cons_append, upto_cons, if_neg hk]
      by_cases hc : opns [] ((k :: r).take (run [] (k :: r))) = []
      · have hr : ∀ b, run [] (k :: r ++ b) = run [] (k :: r) := fun b => run_app_closed (k :: r) [] b (by simp) hc
        have hdb : ∀ b, (k :: r ++ b).drop (run [] (k :: r)) = (k :: r).drop (run [] (k :: r)) ++ b := fun b => List.drop_append_of_le_length hl
        rcases upto_app p n ((k :: r).drop (run [] (k :: r))) (by rw [List.length_cons] at h hd; omega) with ⟨i1, i2⟩ | ⟨i1, i2⟩ | ⟨i1, st, i2, i3⟩
        · exact .inl ⟨by omega, fun b => by rw [hub, hr, hdb, i2, hu]⟩
        · exact .inr (.inl ⟨by omega, fun b => by rw [hub, hr, hdb, i2]; omega⟩)
        · exact .inr (.inr ⟨by omega, st, i2, fun b => by rw [hub, hr, hdb, i3]; omega⟩)
      · have hlen : run [] (k :: r) = (k :: r).length := (opns_run (k :: r) []).resolve_left hc
        have hr : ∀ b, run [] (k :: r ++ b) = (k :: r).length + run (opns [] (k :: r)) b := fun b => run_app_open (k :: r) [] b hc
        refine .inr (.inr ⟨?_, opns [] (k :: r), ?_, fun b => ?_⟩)
        · rw [hu, List.drop_eq_nil_iff.2 (by omega), upto_nil]
          omega
        · rw [hlen, List.take_of_length_le (Nat.le_refl _)] at hc
          exact hc
        · rw [hub, hr, List.drop_length_add_append]

end Go.Proofs.Ythljapneniikkaa
