/- The elements ahead, one by one: what is known of one tells of those that were passed. -/
import Derived.Test.YtgjfapdnobhkcabMtWay
namespace Go.Proofs.Ytgjfapdnobhkcab.Mt
open Go Dm

theorem chain_fuel {es : List El} (hO : TreeOk es) (comb : Int) : ∀ (f y : Nat), y < es.length → y < f → chain es comb f y = chain es comb (y + 1) y := by
  intro f
  induction f using Nat.strongRecOn with
  | _ f ih =>
    intro y hy hf
    obtain ⟨f', rfl⟩ : ∃ f', f = f' + 1 := ⟨f - 1, by omega⟩
    rw [chain_succ, chain_succ]
    rcases nextV_lt hO hy comb with h | ⟨j, h, hj⟩
    · rw [h, restV_end, restV_end]
    · rw [h, restV_at, restV_at, ih f' (by omega) j (by omega) (by omega)]
      by_cases hy0 : y = f'
      · rw [hy0, ih f' (by omega) j (by omega) (by omega)]
      · rw [ih y (by omega) j (by omega) (by omega)]
theorem chain_tail {es : List El} (hO : TreeOk es) (comb : Int) : ∀ (f x : Nat) (a : List Nat) (y : Nat) (b : List Nat), x < es.length → x < f → chain es comb f x = a ++ y :: b → y < es.length ∧ b = if farV comb then aheadV es comb y else [] := by
  intro f
  induction f with
  | zero => intro x a y b _ h; omega
  | succ f ih =>
    intro x a y b hx hf h
    rw [chain_succ] at h
    rcases nextV_lt hO hx comb with hn | ⟨j, hn, hj⟩
    · rw [hn, restV_end] at h
      simp at h
    · rw [hn, restV_at] at h
      cases a with
      | nil =>
        simp only [List.nil_append, List.cons.injEq] at h
        obtain ⟨rfl, rfl⟩ := h
        refine ⟨by omega, ?_⟩
        cases hfar : farV comb with
        | false => simp
        | true => simp only [if_true]; exact chain_fuel hO comb f j (by omega) (by omega)
      | cons z a =>
        simp only [List.cons_append, List.cons.injEq] at h
        obtain ⟨_, h⟩ := h
        cases hfar : farV comb with
        | false => rw [hfar] at h; simp at h
        | true =>
          rw [hfar, if_pos rfl] at h
          have := ih j a y b (by omega) (by omega) h
          rwa [hfar] at this
theorem ahead_tail {es : List El} (hO : TreeOk es) {comb : Int} {e y : Nat} {a b : List Nat} (he : e < es.length) (h : aheadV es comb e = a ++ y :: b) : y < es.length ∧ b = if farV comb then aheadV es comb y else [] :=
  chain_tail hO comb (e + 1) e a y b he (Nat.lt_succ_self _) h
section
variable {E : Env} (hE : EnvOk E) {f k e : Nat} {s : Sel} (he : e < E.qs.length)
include hE he
theorem vd_at {a b : List Nat} {y : Nat} (h : aheadV E.es (partAt s k).1 e = a ++ y :: b) : y < E.qs.length ∧ vdV E f s k y = (y :: b).any (uptoV (anyV E.es f) E.es s (k - 1)) := by
  have hl : E.es.length = E.qs.length := List.length_map ..
  obtain ⟨h1, rfl⟩ := ahead_tail hE.ok (by rw [hl]; exact he) h
  exact ⟨by rw [← hl]; exact h1, rfl⟩
/-- The answer, where all that were passed are not it. -/
theorem res_at {a b : List Nat} {y : Nat} (h : aheadV E.es (partAt s k).1 e = a ++ y :: b) (ha : ∀ z ∈ a, uptoV (anyV E.es f) E.es s (k - 1) z = false) :
    (aheadV E.es (partAt s k).1 e).any (uptoV (anyV E.es f) E.es s (k - 1)) = vdV E f s k y ∧ ∀ z ∈ a, z < E.qs.length ∧ vdV E f s k z = vdV E f s k y := by
  have hy := (vd_at hE he (f := f) h).2
  have none : ∀ l : List Nat, (∀ z ∈ l, uptoV (anyV E.es f) E.es s (k - 1) z = false) → l.any (uptoV (anyV E.es f) E.es s (k - 1)) = false := fun l hl => by
    rw [List.any_eq_false]
    intro z hz
    rw [hl z hz]
    simp
  constructor
  · rw [h, List.any_append, none a ha, Bool.false_or, hy]
  · intro z hz
    obtain ⟨c, d, rfl⟩ := List.append_of_mem hz
    have h2 : aheadV E.es (partAt s k).1 e = c ++ z :: (d ++ y :: b) := by rw [h]; simp
    obtain ⟨h3, h4⟩ := vd_at hE he (f := f) h2
    refine ⟨h3, ?_⟩
    rw [h4, List.any_cons, ha z hz, Bool.false_or, List.any_append, none d (fun x hx => ha x (by simp [hx])), Bool.false_or, hy]
theorem res_none {a : List Nat} (h : a = aheadV E.es (partAt s k).1 e) (ha : ∀ z ∈ a, uptoV (anyV E.es f) E.es s (k - 1) z = false) :
    (aheadV E.es (partAt s k).1 e).any (uptoV (anyV E.es f) E.es s (k - 1)) = false ∧ ∀ z ∈ a, z < E.qs.length ∧ vdV E f s k z = false := by
  have none : ∀ l : List Nat, (∀ z ∈ l, uptoV (anyV E.es f) E.es s (k - 1) z = false) → l.any (uptoV (anyV E.es f) E.es s (k - 1)) = false := fun l hl => by
    rw [List.any_eq_false]
    intro z hz
    rw [hl z hz]
    simp
  constructor
  · rw [← h]; exact none a ha
  · intro z hz
    obtain ⟨c, d, rfl⟩ := List.append_of_mem hz
    obtain ⟨h3, h4⟩ := vd_at hE he (f := f) h.symm
    exact ⟨h3, by rw [h4]; exact none _ (fun x hx => ha x (List.mem_append_right _ hx))⟩
theorem res_yes {a b : List Nat} {y : Nat} (h : aheadV E.es (partAt s k).1 e = a ++ y :: b) (ha : ∀ z ∈ a, uptoV (anyV E.es f) E.es s (k - 1) z = false) (hy : uptoV (anyV E.es f) E.es s (k - 1) y = true) :
    (aheadV E.es (partAt s k).1 e).any (uptoV (anyV E.es f) E.es s (k - 1)) = true ∧ ∀ z ∈ a ++ [y], z < E.qs.length ∧ vdV E f s k z = true := by
  obtain ⟨h1, h2⟩ := vd_at hE he (f := f) h
  have h3 : vdV E f s k y = true := by rw [h2, List.any_cons, hy, Bool.true_or]
  obtain ⟨h4, h5⟩ := res_at hE he h ha
  rw [h3] at h4 h5
  refine ⟨h4, fun z hz => ?_⟩
  rcases List.mem_append.1 hz with hz | hz
  · exact h5 z hz
  · obtain rfl : z = y := by simpa using hz
    exact ⟨h1, h3⟩
end

end Go.Proofs.Ytgjfapdnobhkcab.Mt
