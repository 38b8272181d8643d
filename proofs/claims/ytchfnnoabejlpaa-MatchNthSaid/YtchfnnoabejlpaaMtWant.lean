/- Which elements a single pseudo-class is of: plain facts. -/
import Derived.Test.YtchfnnoabejlpaaMtGi
import Derived.Test.YtchfnnoabejlpaaDmGb
namespace Go.Proofs.Ytchfnnoabejlpaa.Mt
open Go.Proofs.Ytchfnnoabejlpaa.Tre
open Go Go.RowKit Dm

theorem ps_named (n : Nd) (q : Ps) : namedV n (psCp q) = true := by simp [namedV, psCp, Cp.tag, Cp.ids, Cp.classes, Cp.attrs]
theorem ps_fits (q : Ps) (h : listed q = false) : fitsV 8 [(0, psCp q)] = true := by
  have hl : listsV [(0, psCp q)] = [] := by simp [listsV, psCp, Cp.pss, h]
  unfold fitsV
  rw [hl]
  rfl
theorem cmp_ps (es : List El) (k : Nat) (hk : k < es.length) (q : Ps) (h7 : q.kind ≠ 7) (h8 : q.kind ≠ 8) : compoundV es (k : Int) (psCp q) = placedV es k q := by
  have h : ∀ Q, selV Q es [(0, psCp q)] k = placedV es k q := fun Q => by
    show compV Q es (psCp q) k = _
    unfold compV
    rw [ps_named]
    simp [psCp, Cp.pss, pseudoV, h7, h8]
  unfold compoundV selectorV
  rw [ps_fits q (by simp [listed, h7, h8]), Int.toNat_natCast, h, decide_eq_true (by omega)]
  rfl
theorem place_root {es : List El} (hO : TreeOk es) {k : Nat} (hk : k < es.length) (h0 : k = 0) : placeV es (k : Int) = 1 := by
  subst h0
  obtain ⟨q, hq⟩ : ∃ q, es[0]? = some q := ⟨_, List.getElem?_eq_getElem hk⟩
  unfold placeV
  rw [elAt_yes hq]
  simp [(hO.root q hq).2.2]
theorem want_root {es : List El} (hO : TreeOk es) {k : Nat} (hk : k < es.length) (h0 : k = 0) (i : Nat) (hi : i < 5) :
    compoundV es (k : Int) (psCp (.mk (1 + (i : Int)) 0 0 [])) = [true, true, true, true, ((childrenV es (k : Int)).length : Int) == 0].getD i false := by
  have hpl := place_root hO hk h0
  have hp : parentV es (k : Int) = -1 := by subst h0; exact par_root hO hk
  rw [cmp_ps es k hk _ (by show 1 + (i : Int) ≠ 7; omega) (by show 1 + (i : Int) ≠ 8; omega)]
  match i, hi with
  | 0, _ => simp [placedV, Ps.kind, hp]
  | 1, _ => simp [placedV, Ps.kind, firstV, hpl]
  | 2, _ => simp [placedV, Ps.kind, lastV, hp]
  | 3, _ => simp [placedV, Ps.kind, firstV, lastV, hp, hpl]
  | 4, _ => rw [Bool.eq_iff_iff]; simp [placedV, Ps.kind]
theorem want_in {es : List El} (hO : TreeOk es) {k : Nat} (hk : k < es.length) (h0 : 0 < k) (i : Nat) (hi : i < 5) :
    compoundV es (k : Int) (psCp (.mk (1 + (i : Int)) 0 0 [])) = [false, placeV es (k : Int) == 1, placeV es (k : Int) == ((childrenV es (parentV es (k : Int))).length : Int), ((childrenV es (parentV es (k : Int))).length : Int) == 1, ((childrenV es (k : Int)).length : Int) == 0].getD i false := by
  obtain ⟨q, hq⟩ : ∃ q, es[k]? = some q := ⟨_, List.getElem?_eq_getElem hk⟩
  obtain ⟨p, r, h1, h2, h3, _, h5, h6⟩ := hO.par k q hq h0
  have hp : parentV es (k : Int) = (p : Int) := (par_at hq).trans h1
  have hch : childrenV es (p : Int) = r.ch := by unfold childrenV; rw [elAt_yes h3]; rfl
  have hlt := (List.getElem?_eq_some_iff.1 h6).1
  have hpl : placeV es (k : Int) = (q.place : Int) := by unfold placeV; rw [elAt_yes hq]; rfl
  have hne : ¬ ((p : Int) = -1) := by omega
  rw [cmp_ps es k hk _ (by show 1 + (i : Int) ≠ 7; omega) (by show 1 + (i : Int) ≠ 8; omega)]
  rw [hp, hch, hpl]
  match i, hi with
  | 0, _ => simp [placedV, Ps.kind, hp, hne]
  | 1, _ => simp [placedV, Ps.kind, firstV, hpl]; rfl
  | 2, _ => simp [placedV, Ps.kind, lastV, hp, hch, hpl, hne]; rfl
  | 3, _ =>
    simp [placedV, Ps.kind, firstV, lastV, hp, hch, hpl, hne]
    rw [Bool.eq_iff_iff]
    simp
    omega
  | 4, _ => rw [Bool.eq_iff_iff]; simp [placedV, Ps.kind]

end Go.Proofs.Ytchfnnoabejlpaa.Mt
