/- A root and its children: what a child's number is; one pseudo-class of a child's number. -/
import Derived.Test.YtchfnnoabejlpaaMtTrees
import Derived.Test.YtchfnnoabejlpaaMtWant
import Derived.Test.YtchfnnoabejlpaaRfCmp
import Derived.Test.YtchfnnoabejlpaaDmChain
namespace Go.Proofs.Ytchfnnoabejlpaa.Mt
open Go.Proofs.Ytchfnnoabejlpaa.Tre
open Go Go.RowKit Dm

def starV : Nat → List Nv
  | 0 => [bare (-1)]
  | m + 1 => starV m ++ [bare 0]
theorem starV_len : ∀ m, (starV m).length = m + 1
  | 0 => rfl
  | m + 1 => by
    show (starV m ++ [bare 0]).length = _
    rw [List.length_append, starV_len m]
    rfl
theorem starV_nd : ∀ m, (starV m).map Nv.nd = starN m
  | 0 => rfl
  | m + 1 => by
    show (starV m ++ [bare 0]).map Nv.nd = starN m ++ [bareN 0]
    rw [List.map_append, starV_nd m]
    rfl
theorem starV_bare : ∀ m, ∀ n ∈ starV m, ∃ p, n = bare p
  | 0, n, h => ⟨_, List.mem_singleton.1 h⟩
  | m + 1, n, h => by
    rcases List.mem_append.1 h with h | h
    · exact starV_bare m n h
    · exact ⟨_, List.mem_singleton.1 h⟩
def starChk (m : Nat) : Bool := match newV (starN m) with
  | .ok es => decide (es.length = m + 1) && (List.range m).all (fun e => decide (placeV es ((e + 1 : Nat) : Int) = ((e + 1 : Nat) : Int)))
  | .error _ => false
theorem star_chk : ∀ m, m < 40 → starChk m = true := by decide +kernel
theorem star_places (m : Nat) (hm : m < 40) : ∃ es, newV (starN m) = .ok es ∧ es.length = m + 1 ∧ ∀ e : Nat, 1 ≤ e → e ≤ m → placeV es (e : Int) = (e : Int) := by
  have h := star_chk m hm
  unfold starChk at h
  cases hn : newV (starN m) with
  | error x => rw [hn] at h; cases h
  | ok es =>
    rw [hn] at h
    simp only [Bool.and_eq_true, decide_eq_true_eq, List.all_eq_true, List.mem_range] at h
    refine ⟨es, rfl, h.1, fun e h1 h2 => ?_⟩
    have := h.2 (e - 1) (by omega)
    rwa [show e - 1 + 1 = e by omega] at this
/-- A child's number as a pseudo-class. -/
def nthQ (a b : Int) : Ps := .mk 6 a b []
theorem nth_V {es : List El} {k : Nat} (hk : k < es.length) (hp : placeV es (k : Int) = (k : Int)) (a b : Int) : compoundV es (k : Int) (psCp (nthQ a b)) = inRowV k a b := by
  rw [cmp_ps es k hk _ (by show (6 : Int) ≠ 7; decide) (by show (6 : Int) ≠ 8; decide)]
  unfold placedV
  simp only [nthQ, Ps.kind, Ps.a, Ps.b, hp]
  rfl
theorem nth_R {es : List El} {k : Nat} (hp : placeV es (k : Int) = (k : Int)) (a b : Int) : Rf.compoundV es k (psCp (nthQ a b)) = inRowV k a b := by
  have h : Mt.compV (Mt.anyV es 8) es (psCp (nthQ a b)) k = placedV es k (nthQ a b) := by
    unfold compV
    rw [ps_named]
    simp [psCp, Cp.pss, pseudoV, nthQ, Ps.kind]
  unfold Rf.compoundV
  rw [h, show Wg.deepC 8 (psCp (nthQ a b)) = false from rfl]
  unfold placedV
  simp only [nthQ, Ps.kind, Ps.a, Ps.b, hp]
  rfl
theorem small_nth {e a b : Int} (h0 : a ≠ 0) : inRowV e a b = (decide ((e - b).tmod a = 0) && decide (0 ≤ (e - b).tdiv a)) := by
  by_cases hd : a ∣ e - b
  · obtain ⟨c, hc⟩ := hd
    have h1 : (e - b).tmod a = 0 := Int.tmod_eq_zero_of_dvd ⟨c, hc⟩
    have h2 : (e - b).tdiv a = c := by rw [hc]; exact Int.mul_tdiv_cancel_left c h0
    rw [h1, h2]
    unfold inRowV
    by_cases hp : 0 < a
    · rw [if_pos hp, Int.emod_eq_zero_of_dvd ⟨c, hc⟩]
      rw [Bool.eq_iff_iff]
      simp only [and_true, decide_eq_true_eq, decide_true, Bool.true_and]
      constructor
      · intro h
        rcases Int.lt_or_le c 0 with hn | hn
        · have := Int.mul_neg_of_pos_of_neg hp hn
          omega
        · exact hn
      · intro h
        have := Int.mul_nonneg (Int.le_of_lt hp) h
        omega
    · have hn : a < 0 := by omega
      rw [if_neg hp, if_pos hn, Int.emod_eq_zero_of_dvd (a := -a) (b := b - e) ⟨c, by rw [Int.neg_mul, ← hc]; omega⟩]
      rw [Bool.eq_iff_iff]
      simp only [and_true, decide_eq_true_eq, decide_true, Bool.true_and]
      constructor
      · intro h
        rcases Int.lt_or_le c 0 with hc' | hc'
        · have := Int.mul_pos_of_neg_of_neg hn hc'
          omega
        · exact hc'
      · intro h
        have := Int.mul_nonneg (a := -a) (by omega) h
        rw [Int.neg_mul] at this
        omega
  · have h1 : ¬ (e - b).tmod a = 0 := fun h => hd (Int.dvd_of_tmod_eq_zero h)
    rw [decide_eq_false h1, Bool.false_and]
    unfold inRowV
    split
    · rw [decide_eq_false]
      rintro ⟨_, h⟩
      exact hd (Int.dvd_of_emod_eq_zero h)
    · split
      · rw [decide_eq_false]
        rintro ⟨_, h⟩
        obtain ⟨c, hc⟩ := Int.dvd_of_emod_eq_zero h
        exact hd ⟨c, by rw [Int.neg_mul] at hc; omega⟩
      · omega
theorem nth_zero (e b : Int) : inRowV e 0 b = decide (b = e) := by
  unfold inRowV
  rw [if_neg (by decide), if_neg (by decide), Bool.eq_iff_iff]
  simp only [decide_eq_true_eq]
  omega
theorem nth_same (e a : Int) (h0 : a ≠ 0) : inRowV e a e = true := by
  rw [small_nth h0]
  simp
/-- A compound of a child's number in memory, as the document's own matching reads it. -/
theorem cp_nthC {n : Nat} {W : World} {B : Nat} {a b : Int} (k : Blk W B 56 (psCells (nthQ a b) (.slice none 0 0))) (hB : B < n) : Wg.CpC (Wg.SelsR 8 n W) n W [.string ⟨#[]⟩, .slice none 0 0, .slice none 0 0, .slice none 0 0, .slice (some ⟨B, 0, none⟩) 1 1] (psCp (nthQ a b)) := by
  refine ⟨_, _, _, _, rfl, .inl ⟨rfl, _, _, rfl⟩, .inl ⟨rfl, _, _, rfl⟩, .inl ⟨rfl, _, _, rfl⟩, .inr ⟨B, 0, 1, rfl, Nat.le_refl _, by unfold maxLen; omega, hB, fun j y hy => ?_⟩⟩
  have hj : j = 0 := by have := (List.getElem?_eq_some_iff.1 hy).1; simpa [psCp, Cp.pss] using this
  subst hj
  obtain rfl : nthQ a b = y := by simpa [psCp, Cp.pss] using hy
  refine ⟨psCells (nthQ a b) (.slice none 0 0), rfl, ⟨_, rfl, .inl ⟨rfl, _, _, rfl⟩⟩, fun i u hu => ?_⟩
  rw [cell_of_block (show W.heap[B]? = _ from k)]
  simpa using hu

end Go.Proofs.Ytchfnnoabejlpaa.Mt
