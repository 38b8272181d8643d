/- Those that were asked for last, in plain words: what a row of calls leaves, and what the law itself gathers. -/
import Derived.Test.YtamcomlnfdfmeaaLrSpec
namespace Go.Proofs.Ytamcomlnfdfmeaa.Lr
open Go

/-- Each once, the first of each kept. -/
def ded : List Int → List Int
  | [] => []
  | x :: t => x :: (ded t).filter (fun y => y != x)
theorem ded_apart : ∀ l : List Int, (ded l).Nodup
  | [] => List.nodup_nil
  | x :: t => List.nodup_cons.2 ⟨fun e => by have := (List.mem_filter.1 e).2; simp at this, (ded_apart t).sublist List.filter_sublist⟩
/-- What the law gathers. -/
def accV (w : List Int) (x : Int) : List Int := if x ∈ w then w else w ++ [x]
theorem acc_ded : ∀ (y w : List Int), y.foldl accV w = w ++ (ded y).filter (fun z => !w.contains z)
  | [], w => by simp [ded]
  | x :: t, w => by
    rw [List.foldl_cons, acc_ded t]
    unfold accV
    rw [show ded (x :: t) = x :: (ded t).filter (fun y => y != x) from rfl]
    by_cases h : x ∈ w
    · rw [if_pos h, List.filter_cons_of_neg (by simp [h]), List.filter_filter]
      congr 1
      apply List.filter_congr
      intro z _
      by_cases hz : z = x
      · subst hz; simp [h]
      · simp [hz]
    · rw [if_neg h, List.filter_cons_of_pos (by simp [h]), List.filter_filter, List.append_assoc, List.singleton_append]
      congr 2
      apply List.filter_congr
      intro z _
      by_cases hz : z = x
      · subst hz; simp [h]
      · simp [hz]
theorem acc_all (y : List Int) : y.foldl accV [] = ded y := by
  rw [acc_ded]; simp
theorem acc_prefix : ∀ (y w : List Int), ∃ r, y.foldl accV w = w ++ r
  | [], w => ⟨[], by simp⟩
  | x :: t, w => by
    obtain ⟨r, hr⟩ := acc_prefix t (accV w x)
    rw [List.foldl_cons, hr]
    unfold accV
    split
    · exact ⟨r, rfl⟩
    · exact ⟨x :: r, by simp⟩
theorem filter_one {R : List Int} (h : R.Nodup) (x : Int) : R.length ≤ (R.filter (fun y => y != x)).length + 1 := by
  induction R with
  | nil => simp
  | cons a R ih =>
    obtain ⟨h1, h2⟩ := List.nodup_cons.1 h
    by_cases ha : a = x
    · subst ha
      have : R.filter (fun y => y != a) = R := List.filter_eq_self.2 (fun z hz => by
        have : z ≠ a := fun e => h1 (by rw [← e]; exact hz)
        simpa using this)
      rw [List.filter_cons_of_neg (by simp), this]; simp
    · rw [List.filter_cons_of_pos (by simpa using ha)]
      have := ih h2
      simp only [List.length_cons]
      omega
/-- Cut ahead of the call or behind it: the same. -/
theorem take_led {R : List Int} (h : R.Nodup) (s : Nat) (x : Int) : (x :: (R.take s).filter (fun y => y != x)).take s = (x :: R.filter (fun y => y != x)).take s := by
  cases s with
  | zero => rfl
  | succ n =>
    rw [List.take_succ_cons, List.take_succ_cons]
    congr 1
    have hR : R.filter (fun y => y != x) = (R.take (n + 1)).filter (fun y => y != x) ++ (R.drop (n + 1)).filter (fun y => y != x) := by rw [← List.filter_append, List.take_append_drop]
    rw [hR]
    by_cases hl : n ≤ ((R.take (n + 1)).filter (fun y => y != x)).length
    · rw [List.take_append_of_le_length hl]
    · have h1 := filter_one (h.sublist (List.take_sublist (n + 1) R)) x
      rw [List.length_take] at h1
      have : R.drop (n + 1) = [] := List.drop_eq_nil_of_le (by omega)
      rw [this]
      simp
/-- A call's own: Get, and Put where there is nothing. -/
def askL (s : Nat) (l : List En) (k v : Int) : List En := if (getR l k).2 = true then getL l k else putL s (getL l k) k v
theorem ask_keys {s : Nat} {l : List En} (hg : Good s l) {R : List Int} (hR : R.Nodup) (h : keysV l = R.take s) (k v : Int) : keysV (askL s l k v) = (k :: R.filter (fun y => y != k)).take s := by
  rw [← take_led hR, ← h]
  unfold askL getR getL
  cases hh : hasV l k with
  | none =>
    simp only [Bool.false_eq_true, if_false]
    unfold putL
    rw [keys_take, keys_led]
  | some e =>
    simp only [if_true]
    rw [keys_led, List.take_of_length_le]
    have h1 := out_lt (has_mem hh)
    have h2 := hg.few
    rw [← keys_out]
    simp only [List.length_cons, keys_len]
    omega
theorem ask_good {s : Nat} {l : List En} (hg : Good s l) (k v : Int) : Good s (askL s l k v) := by
  unfold askL
  split
  · exact hg.get k
  · exact (hg.get k).put k v
theorem ded_rev (p : List Int) (x : Int) : ded (p ++ [x]).reverse = x :: (ded p.reverse).filter (fun y => y != x) := by
  rw [List.reverse_append]; rfl

end Go.Proofs.Ytamcomlnfdfmeaa.Lr
