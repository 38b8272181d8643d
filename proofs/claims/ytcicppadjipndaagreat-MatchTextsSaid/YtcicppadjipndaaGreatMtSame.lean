/- The document's own matching and match's are one: plain facts; nil trees; the document's Compound out of range. -/
import Derived.Test.YtcicppadjipndaaGreatMtArgs
import Derived.Test.YtcicppadjipndaaGreatMtTrees
import Derived.Test.YtcicppadjipndaaGreatRfGe
namespace Go.Proofs.YtcicppadjipndaaGreat.Mt
open Go.Proofs.YtcicppadjipndaaGreat.Tre
open Go Go.RowKit Dm Go.Proofs.YtcicppadjipndaaGreat.Wg
/-! ### cut -/
/-! ### how deep -/
theorem lists_deep (f : List Sel → Bool) (g : List Sel → Bool) (h : ∀ l, f l = !g l) (s : Sel) : (listsV s).all f = !(s.any (fun p => p.2.pss.any (fun q => isList q && g q.list))) := by
  rw [Bool.eq_iff_iff]
  simp only [listsV, List.all_eq_true, List.mem_flatMap, List.mem_map, List.mem_filter, Bool.not_eq_true', List.any_eq_false, Bool.and_eq_true, not_and, Bool.not_eq_true]
  constructor
  · intro H p hp q hq hl
    have := H q.list ⟨p, hp, q, ⟨hq, hl⟩, rfl⟩
    rw [h] at this
    simpa using this
  · rintro H l ⟨p, hp, q, ⟨hq, hl⟩, rfl⟩
    rw [h, H p hp q hq hl]
    rfl
theorem fits_deep : ∀ d s, fitsV d s = !deepS d s
  | 0, s => by
    unfold fitsV deepS
    rw [lists_deep (fun _ => false) (fun _ => true) (fun _ => rfl), Bool.not_or]
    congr 1
    · rw [Bool.eq_iff_iff]; simp
    · simp only [Bool.and_true]
  | d + 1, s => by
    unfold fitsV deepS
    rw [lists_deep (fun l => l.all (fitsV d)) (fun l => l.any (deepS d)) (fun l => by
      rw [Bool.eq_iff_iff]
      simp only [List.all_eq_true, Bool.not_eq_true', List.any_eq_false, fits_deep d, Bool.not_eq_true]), Bool.not_or]
    congr 1
    rw [Bool.eq_iff_iff]; simp
/-! ### nil -/
/-! ### the document's Compound where there is no element -/
end Go.Proofs.YtcicppadjipndaaGreat.Mt
