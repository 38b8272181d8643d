/- A key that is put again, in plain words. -/
import Derived.Test.YtamcomlnfdfmeaaLrSpec
namespace Go.Proofs.Ytamcomlnfdfmeaa.Lr
open Go
theorem out_cons (k a : Int) (t : List En) (h : k ∉ keysV t) : outV k ((k, a) :: t) = t := by
  unfold outV
  rw [List.filter_cons_of_neg (by simp)]
  exact out_same h
theorem put_again {s : Nat} {l : List En} (hg : Good s l) (hs : 1 ≤ s) (k a b : Int) : ∃ t, putL s l k a = (k, a) :: t ∧ t.length + 1 ≤ s ∧ putR s ((k, a) :: t) k b = (0, false) ∧ putL s ((k, a) :: t) k b = (k, b) :: t ∧
    getR ((k, b) :: t) k = (b, true) ∧ getL ((k, b) :: t) k = (k, b) :: t := by
  obtain ⟨n, rfl⟩ : ∃ n, s = n + 1 := ⟨s - 1, by omega⟩
  have h1 : putL (n + 1) l k a = (k, a) :: (outV k l).take n := rfl
  have hp := hg.put k a
  rw [h1] at hp
  refine ⟨(outV k l).take n, h1, hp.few, ?_⟩
  have hno : k ∉ keysV ((outV k l).take n) := (List.nodup_cons.1 hp.apart).1
  have hfew := hp.few
  simp only [List.length_cons] at hfew
  generalize (outV k l).take n = t at *
  have hl : ∀ a b, ledV ((k, a) :: t) k b = (k, b) :: t := fun a b => by unfold ledV; rw [out_cons k a t hno]
  have hh : hasV ((k, b) :: t) k = some (k, b) := by unfold hasV; simp
  refine ⟨?_, ?_, ?_, ?_⟩
  · unfold putR
    rw [hl, List.getElem?_eq_none (by simp only [List.length_cons]; omega)]
  · unfold putL
    rw [hl, List.take_of_length_le (by simp only [List.length_cons]; omega)]
  · unfold getR; rw [hh]
  · unfold getL; rw [hh]; exact hl b b
theorem good_again {s : Nat} {l : List En} (h : Good s l) (k : Int) : Good s (getL l k) := h.get k

end Go.Proofs.Ytamcomlnfdfmeaa.Lr
