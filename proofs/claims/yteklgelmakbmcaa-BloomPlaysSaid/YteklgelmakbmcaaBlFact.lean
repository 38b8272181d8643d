/- What pushes and pops of one hash leave, in plain words. -/
import Derived.Test.YteklgelmakbmcaaBlSpec
import Derived.WalkKit
namespace Go.Proofs.Yteklgelmakbmcaa.Bl
open Go

/-- All counters of h stand at m, all others at nought. -/
def stV (h : Int) (m : Nat) : Nat → Nat := fun i => if i ∈ ctrs h then m else 0
theorem one_flat (h : Int) : ([h] : List Int).flatMap ctrs = ctrs h := by simp
theorem push_st (h : Int) (m : Nat) (i : Nat) : pushV (stV h m) [h] i = stV h (if m < 255 then m + 1 else m) i := by
  unfold pushV
  rw [one_flat]
  unfold stV ctrs
  by_cases he : secondV h = firstV h
  · simp only [if_pos he, List.foldl_cons, List.foldl_nil, upV, List.mem_singleton]
    by_cases hi : i = firstV h
    · subst hi; simp
    · simp [hi]
  · simp only [if_neg he, List.foldl_cons, List.foldl_nil, upV, List.mem_cons, List.not_mem_nil, or_false]
    have he' : ¬ firstV h = secondV h := fun e => he e.symm
    by_cases hi : i = firstV h
    · subst hi; simp [he']
    · by_cases hj : i = secondV h
      · subst hj; simp [he]
      · simp [hi, hj]
theorem pop_st (h : Int) (m : Nat) (i : Nat) : popV (stV h m) [h] i = stV h (if 0 < m ∧ m < 255 then m - 1 else m) i := by
  unfold popV
  rw [one_flat]
  unfold stV ctrs
  by_cases he : secondV h = firstV h
  · simp only [if_pos he, List.foldl_cons, List.foldl_nil, downV, List.mem_singleton]
    by_cases hi : i = firstV h
    · subst hi; simp
    · simp [hi]
  · simp only [if_neg he, List.foldl_cons, List.foldl_nil, downV, List.mem_cons, List.not_mem_nil, or_false]
    have he' : ¬ firstV h = secondV h := fun e => he e.symm
    by_cases hi : i = firstV h
    · subst hi; simp [he']
    · by_cases hj : i = secondV h
      · subst hj; simp [he]
      · simp [hi, hj]
theorem may_st (h : Int) (m : Nat) : mayV (stV h m) h = decide (0 < m) := by
  unfold mayV
  have : ∀ i ∈ ctrs h, stV h m i = m := fun i hi => if_pos hi
  by_cases hm : 0 < m
  · rw [decide_eq_true hm, List.all_eq_true]
    intro i hi
    rw [this i hi]
    simp; omega
  · rw [decide_eq_false hm, List.all_eq_false]
    refine ⟨firstV h, by unfold ctrs; split <;> simp, ?_⟩
    rw [this _ (by unfold ctrs; split <;> simp)]
    simp; omega
theorem st_first (h : Int) (m : Nat) : stV h m (firstV h) = m := if_pos (by unfold ctrs; split <;> simp)
theorem st_second (h : Int) (m : Nat) : stV h m (secondV h) = m := if_pos (by
  unfold ctrs
  by_cases he : secondV h = firstV h
  · rw [if_pos he, he]; simp
  · rw [if_neg he]; simp)
theorem st_zero (h : Int) (i : Nat) : stV h 0 i = 0 := by unfold stV; split <;> rfl
/-- What so many pops leave of m. -/
def leftV (m k : Nat) : Nat := if m = 255 then 255 else m - k
theorem left_next {m k : Nat} (hm : m ≤ 255) : (if 0 < leftV m k ∧ leftV m k < 255 then leftV m k - 1 else leftV m k) = leftV m (k + 1) := by
  unfold leftV
  by_cases h : m = 255
  · simp [h]
  · simp only [if_neg h]
    split <;> omega
/-- The sum of the first k counters. -/
def sumV (c : Nat → Nat) : Nat → Nat
  | 0 => 0
  | k + 1 => sumV c k + c k
theorem sum_zero {c : Nat → Nat} : ∀ k, (∀ i, i < k → c i = 0) → sumV c k = 0
  | 0, _ => rfl
  | k + 1, h => by rw [sumV, sum_zero k (fun i hi => h i (by omega)), h k (by omega)]
theorem sum_split (c d : Nat → Nat) : ∀ k, sumV (fun i => c i + d i) k = sumV c k + sumV d k
  | 0 => rfl
  | k + 1 => by rw [sumV, sumV, sumV, sum_split c d k]; omega
theorem sum_one (a : Nat) : ∀ k, sumV (fun i => if i = a then 1 else 0) k = if a < k then 1 else 0
  | 0 => rfl
  | k + 1 => by
    rw [sumV, sum_one a k]
    by_cases h1 : a < k
    · rw [if_pos h1, if_neg (by omega), if_pos (by omega)]
    · by_cases h2 : k = a
      · rw [if_neg h1, if_pos h2, if_pos (by omega)]
      · rw [if_neg h1, if_neg h2, if_neg (by omega)]
theorem sum_ext {c d : Nat → Nat} (h : ∀ i, c i = d i) (k : Nat) : sumV c k = sumV d k := by rw [show c = d from funext h]
theorem sum_st (h : Int) : sumV (stV h 1) 1024 = if firstV h = secondV h then 1 else 2 := by
  have h1 := first_lt h
  have h2 := second_lt h
  by_cases he : secondV h = firstV h
  · rw [if_pos he.symm, sum_ext (d := fun i => if i = firstV h then 1 else 0) (fun i => by unfold stV ctrs; simp [he]), sum_one, if_pos h1]
  · rw [if_neg (fun e => he e.symm), sum_ext (d := fun i => (if i = firstV h then 1 else 0) + (if i = secondV h then 1 else 0)) (fun i => ?_), sum_split, sum_one, sum_one, if_pos h1, if_pos h2]
    unfold stV ctrs
    rw [if_neg he]
    by_cases e1 : i = firstV h
    · subst e1; simp; exact fun e => he e.symm
    · by_cases e2 : i = secondV h
      · subst e2; simp [he]
      · simp [e1, e2]
theorem sum_le (c : Nat → Nat) (hc : ∀ i, c i ≤ 255) : ∀ k, sumV c k ≤ 255 * k
  | 0 => Nat.le_refl _
  | k + 1 => by have := sum_le c hc k; have := hc k; rw [sumV]; omega
theorem and32 (h : Int) : bits BinOp.and IntKind.i64 h 4294967295 = (loV h : Int) := by
  have e : (BitVec.ofInt 64 h &&& BitVec.ofInt 64 4294967295).toNat = loV h := by
    rw [BitVec.toNat_and, show (BitVec.ofInt 64 4294967295).toNat = 2 ^ 32 - 1 from by decide, Nat.and_two_pow_sub_one_eq_mod, BitVec.toNat_ofInt]
    unfold loV
    omega
  show IntKind.i64.wrap ((BitVec.ofInt 64 h &&& BitVec.ofInt 64 4294967295).toNat : Int) = _
  have := loV_lt h
  rw [e, IntKind.wrap_i64]
  omega

end Go.Proofs.Yteklgelmakbmcaa.Bl
