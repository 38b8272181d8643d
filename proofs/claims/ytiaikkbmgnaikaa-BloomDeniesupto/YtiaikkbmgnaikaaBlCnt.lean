/- Pushes and pops of many hashes, counted: what they leave, in plain words. -/
import Derived.Test.YtiaikkbmgnaikaaBlSpec
import Derived.WalkKit
namespace Go.Proofs.Ytiaikkbmgnaikaa.Bl
open Go

/-- How often counter j is one of l's. -/
def cntV (l : List Int) (j : Nat) : Nat := (l.flatMap ctrs).count j
theorem up_cnt : ∀ (is : List Nat) (c : Nat → Nat), (∀ i, c i ≤ 255) → ∀ j, is.foldl upV c j = min 255 (c j + is.count j)
  | [], c, hc, j => by simp; have := hc j; omega
  | i :: is, c, hc, j => by
    rw [List.foldl_cons, up_cnt is (upV c i) (fun k => upV_le hc i k) j, List.count_cons]
    have h1 := hc j
    have h2 := hc i
    unfold upV
    by_cases e : j = i
    · subst e
      by_cases h : c j < 255
      · rw [if_pos ⟨rfl, h⟩]; simp; omega
      · rw [if_neg (fun x => h x.2)]; simp; try omega
    · rw [if_neg (fun x => e x.1)]
      rw [if_neg (by simp; exact fun x => e x.symm)]
      try omega
theorem down_cnt : ∀ (is : List Nat) (c : Nat → Nat), (∀ i, c i ≤ 255) → ∀ j, is.foldl downV c j = if c j = 255 then 255 else c j - is.count j
  | [], c, hc, j => by
    rw [List.foldl_nil, List.count_nil]
    split <;> omega
  | i :: is, c, hc, j => by
    rw [List.foldl_cons, down_cnt is (downV c i) (fun k => downV_le hc i k) j, List.count_cons]
    have h1 := hc j
    by_cases e : j = i
    · subst e
      rw [if_pos (show (j == j) = true by simp)]
      by_cases h : 0 < c j ∧ c j < 255
      · rw [show downV c j j = c j - 1 from if_pos ⟨rfl, h⟩, if_neg (by omega), if_neg (by omega)]; omega
      · rw [show downV c j j = c j from if_neg (fun x => h x.2)]
        by_cases h5 : c j = 255
        · rw [if_pos h5, if_pos h5]
        · rw [if_neg h5, if_neg h5]; omega
    · rw [show downV c i j = c j from if_neg (fun x => e x.1), if_neg (show ¬ ((i == j) = true) by simp; exact fun x => e x.symm), Nat.add_zero]
theorem push_cnt {c : Nat → Nat} (hc : ∀ i, c i ≤ 255) (l : List Int) (j : Nat) : pushV c l j = min 255 (c j + cntV l j) := up_cnt _ _ hc j
theorem pop_cnt {c : Nat → Nat} (hc : ∀ i, c i ≤ 255) (l : List Int) (j : Nat) : popV c l j = if c j = 255 then 255 else c j - cntV l j := down_cnt _ _ hc j

/-- How often counter j was pushed: the rows ahead of i all times, row i k times. -/
def totV (rows : List (List Int)) (many : Nat) (j : Nat) : Nat → Nat
  | 0 => 0
  | i + 1 => totV rows many j i + many * cntV (rows.getD i []) j
def atV (rows : List (List Int)) (many i k : Nat) (j : Nat) : Nat := totV rows many j i + k * cntV (rows.getD i []) j
/-- The counters as they are pushed. -/
def risV (rows : List (List Int)) (many i k : Nat) : Nat → Nat := fun j => min 255 (atV rows many i k j)
/-- .. and as they are popped: A is all that was pushed. -/
def falV (rows : List (List Int)) (many i k : Nat) : Nat → Nat := fun j => if 255 ≤ totV rows many j rows.length then 255 else atV rows many i k j
theorem tot_mono (rows : List (List Int)) (many j : Nat) : ∀ {i k : Nat}, i ≤ k → totV rows many j i ≤ totV rows many j k
  | i, 0, h => by obtain rfl : i = 0 := by omega
                  exact Nat.le_refl _
  | i, k + 1, h => by
    by_cases e : i = k + 1
    · subst e; exact Nat.le_refl _
    · exact Nat.le_trans (tot_mono rows many j (i := i) (k := k) (by omega)) (Nat.le_add_right _ _)
theorem at_le {rows : List (List Int)} {many i k j : Nat} (hi : i < rows.length) (hk : k ≤ many) : atV rows many i k j ≤ totV rows many j rows.length := by
  refine Nat.le_trans ?_ (tot_mono rows many j (i := i + 1) (by omega))
  exact Nat.add_le_add_left (Nat.mul_le_mul_right _ hk) _
theorem ris_le (rows : List (List Int)) (many i k j : Nat) : risV rows many i k j ≤ 255 := Nat.min_le_left _ _
theorem fal_le {rows : List (List Int)} {many i k : Nat} (hi : i < rows.length) (hk : k ≤ many) (j : Nat) : falV rows many i k j ≤ 255 := by
  unfold falV
  split
  · exact Nat.le_refl _
  · have := at_le (j := j) hi hk; omega
theorem ris_zero (rows : List (List Int)) (many j : Nat) : risV rows many 0 0 j = 0 := by simp [risV, atV, totV]
theorem ris_push (rows : List (List Int)) (many i k j : Nat) : pushV (risV rows many i k) (rows.getD i []) j = risV rows many i (k + 1) j := by
  rw [push_cnt (ris_le rows many i k)]
  unfold risV atV
  rw [Nat.add_mul]
  omega
theorem ris_next (rows : List (List Int)) (many i j : Nat) : risV rows many (i + 1) 0 j = risV rows many i many j := by
  unfold risV atV
  rw [totV]
  simp
theorem fal_start {rows : List (List Int)} {L : Nat} (hL : rows.length = L) (many j : Nat) : falV rows many L 0 j = risV rows many L 0 j := by
  subst hL
  unfold falV risV atV
  simp only [Nat.zero_mul, Nat.add_zero]
  split <;> omega
theorem fal_pop {rows : List (List Int)} {many i k : Nat} (hi : i < rows.length) (hk : k < many) (j : Nat) : popV (falV rows many i (many - k)) (rows.getD i []) j = falV rows many i (many - (k + 1)) j := by
  rw [pop_cnt (fal_le hi (by omega))]
  have ha := at_le (rows := rows) (many := many) (i := i) (k := many - k) (j := j) hi (by omega)
  unfold falV
  by_cases h2 : 255 ≤ totV rows many j rows.length
  · rw [if_pos h2, if_pos h2, if_pos rfl]
  · rw [if_neg h2, if_neg h2, if_neg (by omega)]
    obtain ⟨m, hm⟩ : ∃ m, many - k = m + 1 := ⟨many - k - 1, by omega⟩
    rw [hm, show many - (k + 1) = m by omega]
    unfold atV
    rw [Nat.add_mul]
    omega
theorem fal_next (rows : List (List Int)) (many i j : Nat) : falV rows many (i + 1) 0 j = falV rows many i many j := by
  unfold falV atV
  rw [totV]
  simp
theorem cnt_pos {l : List Int} {h : Int} (hl : h ∈ l) {j : Nat} (hj : j ∈ ctrs h) : 1 ≤ cntV l j := List.count_pos_iff.2 (List.mem_flatMap.2 ⟨h, hl, hj⟩)
theorem tot_pos {rows : List (List Int)} {many i n j : Nat} (hi : i < n) (hm : 1 ≤ many) (hc : 1 ≤ cntV (rows.getD i []) j) : 1 ≤ totV rows many j n := by
  refine Nat.le_trans ?_ (tot_mono rows many j (i := i + 1) hi)
  have := Nat.mul_le_mul hm hc
  rw [totV]
  omega
/-- What was pushed and not popped may be there. -/
theorem fal_may {rows : List (List Int)} {many n i k : Nat} {h : Int} (hi : i < n) (hm : 1 ≤ many) (hk : (rows.getD i [])[k]? = some h) : mayV (falV rows many n 0) h = true := by
  unfold mayV
  rw [List.all_eq_true]
  intro j hj
  have h1 := tot_pos (rows := rows) (n := n) hi hm (cnt_pos (List.mem_of_getElem? hk) hj)
  have : falV rows many n 0 j ≠ 0 := by
    unfold falV atV
    split <;> omega
  simpa using this
theorem fal_gone (rows : List (List Int)) (many j : Nat) : falV rows many 0 0 j = 0 ∨ falV rows many 0 0 j = 255 := by
  unfold falV
  split
  · exact .inr rfl
  · exact .inl (by simp [atV, totV])

end Go.Proofs.Ytiaikkbmgnaikaa.Bl
