/- Chains and stars of nodes: what dom.New makes of them. -/
import Derived.Test.YtchfnnoabejlpaaDmFact
namespace Go.Proofs.Ytchfnnoabejlpaa.Dm
open Go

theorem newF_append : ∀ (a b : List Nd) (es : List El), newF es (a ++ b) = match newF es a with
    | .ok es' => newF es' b
    | .error x => .error x
  | [], _, _ => rfl
  | n :: a, b, es => by
    have h1 : newF es (n :: a ++ b) = match addV es n with
      | .ok es' => newF es' (a ++ b)
      | .error x => .error x := rfl
    have h2 : newF es (n :: a) = match addV es n with
      | .ok es' => newF es' a
      | .error x => .error x := rfl
    rw [h1, h2]
    cases addV es n with
    | ok e2 => exact newF_append a b e2
    | error x => rfl
theorem newF_ok_more {es es' : List El} {a b : List Nd} (h : newF es a = .ok es') : newF es (a ++ b) = newF es' b := by rw [newF_append, h]
theorem newF_err_more {es : List El} {a b : List Nd} {x : Int} (h : newF es a = .error x) : newF es (a ++ b) = .error x := by rw [newF_append, h]
theorem newF_one (es : List El) (n : Nd) : newF es [n] = addV es n := by
  unfold newF
  cases addV es n <;> rfl
def bareN (p : Int) : Nd := ⟨p, ⟨#[]⟩, ⟨#[]⟩, [], []⟩
def chainN : Nat → List Nd
  | 0 => []
  | m + 1 => chainN m ++ [bareN ((m : Int) - 1)]
theorem chainN_len : ∀ m, (chainN m).length = m
  | 0 => rfl
  | m + 1 => by
    show (chainN m ++ [bareN ((m : Int) - 1)]).length = _
    rw [List.length_append, chainN_len m]
    rfl
theorem addV_in {es : List El} {n : Nd} {p : Nat} {q : El} (hn : n.parent = (p : Int)) (hq : es[p]? = some q) : addV es n = if q.depth = 256 then .error 11 else .ok (growV es p q es.length ++ [⟨lowN n, q.depth + 1, q.ch.length + 1, []⟩]) := by
  have hp : p < es.length := (List.getElem?_eq_some_iff.1 hq).1
  unfold addV
  rw [if_neg (by omega), if_pos ⟨by omega, by omega⟩, hn, Int.toNat_natCast, show es.getD p zeroEl = q by simp [List.getD, hq]]
theorem addV_out {es : List El} {n : Nd} (h0 : 0 < es.length) (hn : ¬ (0 ≤ n.parent ∧ n.parent < (es.length : Int))) : addV es n = .error 10 := by
  unfold addV
  rw [if_neg (by omega), if_neg hn]
theorem last_new (es : List El) (p : Nat) (q x : El) : (growV es p q es.length ++ [x])[es.length]? = some x := by
  rw [List.getElem?_append_right (by rw [growV_length]; exact Nat.le_refl _), growV_length]
  simp
theorem chain_ok : ∀ m, m ≤ 256 → ∃ (es : List El) (q : El), newF [] (chainN (m + 1)) = .ok es ∧ es.length = m + 1 ∧ es[m]? = some q ∧ q.depth = m ∧ q.ch = []
  | 0, _ => ⟨[⟨lowN (bareN (-1)), 0, 1, []⟩], _, rfl, rfl, rfl, rfl, rfl⟩
  | m + 1, h => by
    obtain ⟨es, q, h1, h2, h3, h4, h5⟩ := chain_ok m (by omega)
    have ha : addV es (bareN (((m + 1 : Nat) : Int) - 1)) = .ok (growV es m q es.length ++ [⟨lowN (bareN (((m + 1 : Nat) : Int) - 1)), q.depth + 1, q.ch.length + 1, []⟩]) := by
      rw [addV_in (p := m) (by show ((m + 1 : Nat) : Int) - 1 = _; omega) h3, if_neg (by omega)]
    refine ⟨growV es m q es.length ++ [⟨lowN (bareN (((m + 1 : Nat) : Int) - 1)), q.depth + 1, q.ch.length + 1, []⟩], ⟨lowN (bareN (((m + 1 : Nat) : Int) - 1)), q.depth + 1, q.ch.length + 1, []⟩, ?_, ?_, ?_, ?_, rfl⟩
    · show newF [] (chainN (m + 1) ++ [bareN (((m + 1 : Nat) : Int) - 1)]) = _
      rw [newF_ok_more h1, newF_one, ha]
    · rw [List.length_append, growV_length, h2]
      rfl
    · rw [← h2]
      exact last_new es m q _
    · show q.depth + 1 = m + 1
      omega
theorem chain_k (k : Nat) (h1 : 1 ≤ k) (h2 : k ≤ 257) : ∃ (es : List El) (q : El), newF [] (chainN k) = .ok es ∧ es.length = k ∧ es[k - 1]? = some q ∧ q.depth = k - 1 ∧ q.ch = [] := by
  obtain ⟨m, rfl⟩ : ∃ m, k = m + 1 := ⟨k - 1, by omega⟩
  exact chain_ok m (by omega)
theorem chain_deep : newF [] (chainN 258) = .error 11 := by
  obtain ⟨es, q, h1, h2, h3, h4, _⟩ := chain_ok 256 (by decide)
  show newF [] (chainN 257 ++ [bareN (((257 : Nat) : Int) - 1)]) = _
  rw [newF_ok_more h1, newF_one, addV_in (p := 256) (by rfl) h3, if_pos h4]
theorem chain_long : ∀ k, newF [] (chainN (258 + k)) = .error 11
  | 0 => chain_deep
  | k + 1 => by
    show newF [] (chainN (258 + k) ++ [bareN (((258 + k : Nat) : Int) - 1)]) = _
    exact newF_err_more (chain_long k)
/-- A root and its children. -/
def starN : Nat → List Nd
  | 0 => [bareN (-1)]
  | m + 1 => starN m ++ [bareN 0]
theorem star_ok : ∀ m, ∃ (es : List El) (q r : El), newF [] (starN m) = .ok es ∧ es.length = m + 1 ∧ es[0]? = some q ∧ q.depth = 0 ∧ q.ch.length = m ∧ es[m]? = some r ∧ (0 < m → r.place = m)
  | 0 => ⟨[⟨lowN (bareN (-1)), 0, 1, []⟩], _, _, rfl, rfl, rfl, rfl, rfl, rfl, fun h => absurd h (by decide)⟩
  | m + 1 => by
    obtain ⟨es, q, r, h1, h2, h3, h4, h5, _, _⟩ := star_ok m
    have ha : addV es (bareN 0) = .ok (growV es 0 q es.length ++ [⟨lowN (bareN 0), q.depth + 1, q.ch.length + 1, []⟩]) := by
      rw [addV_in (p := 0) (by rfl) h3, if_neg (by omega)]
    refine ⟨growV es 0 q es.length ++ [⟨lowN (bareN 0), q.depth + 1, q.ch.length + 1, []⟩], { q with ch := q.ch ++ [es.length] }, ⟨lowN (bareN 0), q.depth + 1, q.ch.length + 1, []⟩, ?_, ?_, ?_, h4, ?_, ?_, fun _ => ?_⟩
    · show newF [] (starN m ++ [bareN 0]) = _
      rw [newF_ok_more h1, newF_one, ha]
    · rw [List.length_append, growV_length, h2]
      rfl
    · rw [List.getElem?_append_left (by rw [growV_length]; omega)]
      unfold growV
      rw [List.getElem?_set_self (by omega)]
    · simp [h5]
    · rw [← h2]
      exact last_new es 0 q _
    · show q.ch.length + 1 = m + 1
      omega
theorem starN_len : ∀ m, (starN m).length = m + 1
  | 0 => rfl
  | m + 1 => by
    show (starN m ++ [bareN 0]).length = _
    rw [List.length_append, starN_len m]
    rfl
theorem star_new (m : Nat) (hm : m < 4096) : ∃ (es : List El) (q r : El), newV (starN m) = .ok es ∧ es.length = m + 1 ∧ es[0]? = some q ∧ q.ch.length = m ∧ es[m]? = some r ∧ (0 < m → r.place = m) := by
  obtain ⟨es, q, r, h1, h2, h3, _, h5, h6, h7⟩ := star_ok m
  refine ⟨es, q, r, ?_, h2, h3, h5, h6, h7⟩
  unfold newV
  rw [if_neg (by rw [starN_len]; omega)]
  exact h1

end Go.Proofs.Ytchfnnoabejlpaa.Dm
