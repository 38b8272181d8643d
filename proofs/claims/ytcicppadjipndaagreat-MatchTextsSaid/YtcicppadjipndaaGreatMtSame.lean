/- The document's own matching and match's are one: plain facts; nil trees; the document's Compound out of range. -/
import Derived.Test.YtcicppadjipndaaGreatMtArgs
import Derived.Test.YtcicppadjipndaaGreatMtTrees
import Derived.Test.YtcicppadjipndaaGreatRfGe
namespace Go.Proofs.YtcicppadjipndaaGreat.Mt
open Go.Proofs.YtcicppadjipndaaGreat.Tre
open Go Go.RowKit Dm Go.Proofs.YtcicppadjipndaaGreat.Wg

/-! ### cut -/
theorem cp_cut (Q : Any) (d : Nat) (hQ : ∀ l e, Q (cutL d l) e = Q l e) (es : List El) (c : Cp) (e : Nat) : compV Q es (cutC d c) e = compV Q es c e := by
  unfold compV
  rw [show namedV (nodeV es (e : Int)) (cutC d c) = namedV (nodeV es (e : Int)) c from rfl]
  congr 1
  show (c.pss.map (cutP d)).all _ = c.pss.all _
  rw [List.all_map]
  congr 1
  funext p
  show pseudoV Q es (cutP d p) e = pseudoV Q es p e
  unfold pseudoV
  rw [show (cutP d p).kind = p.kind from rfl, show (cutP d p).list = cutL d p.list from rfl, hQ]
  rfl
theorem partAt_cut (d : Nat) (s : Sel) (k : Nat) : partAt (cutS d s) k = ((partAt s k).1, cutC d (partAt s k).2) := by
  unfold partAt cutS
  simp only [List.getD, List.getElem?_map]
  cases s[k]? <;> rfl
theorem upto_cut (Q : Any) (d : Nat) (hQ : ∀ l e, Q (cutL d l) e = Q l e) (es : List El) (s : Sel) : ∀ k e, uptoV Q es (cutS d s) k e = uptoV Q es s k e
  | 0, e => by
    unfold uptoV
    rw [partAt_cut, cp_cut Q d hQ]
  | k + 1, e => by
    unfold uptoV
    rw [partAt_cut, cp_cut Q d hQ]
    have : uptoV Q es (cutS d s) k = uptoV Q es s k := funext (upto_cut Q d hQ es s k)
    rw [this]
theorem sel_cut (Q : Any) (d : Nat) (hQ : ∀ l e, Q (cutL d l) e = Q l e) (es : List El) (s : Sel) (e : Nat) : selV Q es (cutS d s) e = selV Q es s e := by
  unfold selV
  rw [upto_cut Q d hQ, show (cutS d s).length = s.length from List.length_map ..]
theorem any_cut (es : List El) : ∀ d l e, anyV es d (cutL d l) e = anyV es d l e
  | 0, _, _ => rfl
  | d + 1, l, e => by
    rw [cutL_succ]
    show (l.map (cutS d)).any _ = l.any _
    rw [List.any_map]
    congr 1
    funext s
    exact sel_cut _ d (any_cut es d) es s e
theorem cutL_two : ∀ d l, cutL d (cutL (d + 1) l) = cutL d l
  | 0, _ => rfl
  | d + 1, l => by
    rw [cutL_succ, cutL_succ, cutL_succ, List.map_map]
    congr 1
    funext s
    show cutS d (cutS (d + 1) s) = cutS d s
    unfold cutS
    rw [List.map_map]
    congr 1
    funext p
    show (p.1, cutC d (cutC (d + 1) p.2)) = (p.1, cutC d p.2)
    congr 1
    unfold cutC
    simp only [Cp.tag, Cp.ids, Cp.classes, Cp.attrs, Cp.pss, List.map_map]
    congr 2
    funext q
    show cutP d (cutP (d + 1) q) = cutP d q
    unfold cutP
    simp only [Ps.kind, Ps.a, Ps.b, Ps.list]
    rw [cutL_two d]
theorem cutC_two (d : Nat) (c : Cp) : cutC d (cutC (d + 1) c) = cutC d c := by
  unfold cutC
  simp only [Cp.tag, Cp.ids, Cp.classes, Cp.attrs, Cp.pss, List.map_map]
  congr 2
  funext q
  show cutP d (cutP (d + 1) q) = cutP d q
  unfold cutP
  simp only [Ps.kind, Ps.a, Ps.b, Ps.list]
  rw [cutL_two d]
theorem cutS_two (d : Nat) (s : Sel) : cutS d (cutS (d + 1) s) = cutS d s := by
  unfold cutS
  rw [List.map_map]
  congr 1
  funext p
  show (p.1, cutC d (cutC (d + 1) p.2)) = (p.1, cutC d p.2)
  rw [cutC_two]

/-! ### how deep -/
theorem lists_deep (f : List Sel → Bool) (g : List Sel → Bool) (h : ∀ l, f l = !g l) (s : Sel) : (listsV s).all f = !(s.any (fun p => p.2.pss.any (fun q => isList q && g q.list))) := by
  rw [Bool.eq_iff_iff]
  simp only [listsV, List.all_eq_true, List.mem_flatMap, List.mem_map, List.mem_filter, Bool.not_eq_true', List.any_eq_false, Bool.and_eq_true, not_and, Bool.not_eq_true]
  constructor
  · intro H p hp q hq hl
    have := H q.list ⟨p, hp, q, ⟨hq, hl⟩, rfl⟩
    rw [h] at this
    simpa using this
  · rintro H l ⟨p, hp, q, ⟨hq, hl⟩, rfl⟩
    rw [h, H p hp q hq hl]
    rfl
theorem fits_deep : ∀ d s, fitsV d s = !deepS d s
  | 0, s => by
    unfold fitsV deepS
    rw [lists_deep (fun _ => false) (fun _ => true) (fun _ => rfl), Bool.not_or]
    congr 1
    · rw [Bool.eq_iff_iff]; simp
    · simp only [Bool.and_true]
  | d + 1, s => by
    unfold fitsV deepS
    rw [lists_deep (fun l => l.all (fitsV d)) (fun l => l.any (deepS d)) (fun l => by
      rw [Bool.eq_iff_iff]
      simp only [List.all_eq_true, Bool.not_eq_true', List.any_eq_false, fits_deep d, Bool.not_eq_true]), Bool.not_or]
    congr 1
    rw [Bool.eq_iff_iff]; simp
/-- The document's own answer, of a selector read eight lists deep, is match's. -/
theorem same_sel (es : List El) (e : Int) (s : Sel) : Rf.selectorV es e (cutS 8 s) = selectorV es e s := by
  unfold Rf.selectorV selectorV
  rw [deepS_cut, sel_cut _ 8 (any_cut es 8), fits_deep]
theorem same_cmp (es : List El) (k : Nat) (hk : k < es.length) (c : Cp) : Rf.compoundV es k (cutC 8 c) = compoundV es (k : Int) c := by
  unfold Rf.compoundV compoundV selectorV
  rw [deepC_cut, cp_cut _ 8 (any_cut es 8), fits_deep, deepS_eq, decide_eq_true (show (0 : Int) ≤ (k : Int) ∧ (k : Int) < (es.length : Int) by omega), Bool.true_and, Int.toNat_natCast]
  rw [show (decide (50 < [((0 : Int), c)].length) || [((0 : Int), c)].any (fun p => deepC 8 p.2)) = deepC 8 c by simp]
  rw [show selV (anyV es 8) es [((0 : Int), c)] k = compV (anyV es 8) es c k by simp [selV, uptoV, partAt]]
theorem cmp_out (es : List El) (e : Int) (h : ¬ (0 ≤ e ∧ e < (es.length : Int))) (c : Cp) : compoundV es e c = false := by
  unfold compoundV selectorV
  rw [decide_eq_false h, Bool.false_and]

/-- One selector in a block of its own. -/
theorem sels_one11 {d : Nat} {W : World} {B : Nat} {v : Value} {s : Sel} (k : Blk W B 36 [v]) (h : PartsR d W.heap.size W v s) : SelsR (d + 1) W.heap.size W (.slice (some ⟨B, 0, none⟩) 1 1) [s] := by
  refine .inr ⟨B, 0, 1, rfl, Nat.le_refl _, by unfold maxLen; omega, k.lt, fun j x hx => ?_⟩
  have hj : j = 0 := by have := (List.getElem?_eq_some_iff.1 hx).1; simpa using this
  subst hj
  obtain rfl : s = x := by simpa using hx
  refine ⟨[v], rfl, ⟨v, rfl, h⟩, fun i u hu => ?_⟩
  rw [cell_of_block (show W.heap[B]? = _ from k)]
  simpa using hu

/-- One part in a block of its own. -/
theorem parts_oneR {d : Nat} {W : World} {B : Nat} {comb : Int} {c : Cp} {vi vc va vp : Value} (k : Blk W B 48 [.int .i64 comb, .string c.tag, vi, vc, va, vp]) (hc : CpC (SelsR d W.heap.size W) W.heap.size W [.string c.tag, vi, vc, va, vp] c) :
    PartsR d W.heap.size W (.slice (some ⟨B, 0, none⟩) 1 1) [(comb, c)] := by
  refine .inr ⟨B, 0, 1, rfl, Nat.le_refl _, by unfold maxLen; omega, k.lt, fun j x hx => ?_⟩
  have hj : j = 0 := by have := (List.getElem?_eq_some_iff.1 hx).1; simpa using this
  subst hj
  obtain rfl : (comb, c) = x := by simpa using hx
  refine ⟨[.int .i64 comb, .string c.tag, vi, vc, va, vp], rfl, ⟨_, rfl, hc⟩, fun i u hu => ?_⟩
  rw [cell_of_block (show W.heap[B]? = _ from k)]
  simpa using hu
theorem cpC_cut {d n : Nat} {W : World} {cs : List Value} {c : Cp} (h : CpC (SelsR (d + 1) n W) n W cs c) : CpC (SelsR d n W) n W cs (cutC d c) := by
  obtain ⟨i, k, a, ps, rfl, g1, g2, g3, g4⟩ := h
  exact ⟨i, k, a, ps, rfl, g1, g2, g3, Wg.RowT.map g4 (cutP d) (fun c q ⟨x, e, hx⟩ => ⟨x, e, sels_cut d x _ hx⟩)⟩
theorem okC_cut {c : Cp} (h : OkC 1048576 10 c) : Rf.okC 8 (cutC 8 c) := by
  refine ⟨Rf.okA_of (CpR_cut h.1), fun q hq s hs => ?_⟩
  obtain ⟨q', hq', rfl⟩ := List.mem_map.1 hq
  have hs2 : s ∈ (cutL 8 q'.list) := hs
  rw [cutL_succ] at hs2
  obtain ⟨s', hs', rfl⟩ := List.mem_map.1 hs2
  have h2 := h.2 q' hq' s' hs'
  have h3 := OkD_cut 7 (OkD_cut 8 h2)
  rw [cutS_two] at h3
  exact Rf.okS_of 7 h3

/-! ### nil -/
set_option maxRecDepth 100000 in
theorem selNil_any (p : Option Addr) (n cap : Nat) (e : Int) (w : World) : Calls Tryz.prog 13 #[.pointer none, .int .i64 e, .agg #[.slice p n cap]] w fun r w' => r = .returned (.bool false) ∧ Below w.heap.size w w' := by
  have b1 : Below w.heap.size w (w.alloc (.cells #[.slice p n cap] 36)) := (Below.refl _ _).alloc (Nat.le_refl _) _
  go_enter Tryz.func13, Tryz.ntmps13
  go_wp2
  go_ret
  exact ⟨rfl, b1⟩
set_option maxRecDepth 100000 in
set_option maxHeartbeats 1000000 in
theorem cmpNil_any (t : ByteArray) (p1 p2 p3 p4 : Option Addr) (n1 n2 n3 n4 c1 c2 c3 c4 : Nat) (e : Int) (w : World) : Calls Tryz.prog 16 #[.pointer none, .int .i64 e, .agg #[.string t, .slice p1 n1 c1, .slice p2 n2 c2, .slice p3 n3 c3, .slice p4 n4 c4]] w fun r w' => r = .returned (.bool false) ∧ Below w.heap.size w w' := by
  obtain ⟨w2, hw2⟩ : ∃ w2, (w.alloc (.cells #[.string t, .slice p1 n1 c1, .slice p2 n2 c2, .slice p3 n3 c3, .slice p4 n4 c4] 45)).alloc (.cells #[.int .i64 0, .string t, .slice p1 n1 c1, .slice p2 n2 c2, .slice p3 n3 c3, .slice p4 n4 c4] 48) = w2 := ⟨_, rfl⟩
  have b2 : Below w.heap.size w w2 := by rw [← hw2]; exact ((Below.refl _ w).alloc (Nat.le_refl _) _).alloc (by simp) _
  have hs := selNil_any (some ⟨w.heap.size + 1, 0, none⟩) 1 1 e w2
  go_enter Tryz.func16, Tryz.ntmps16
  go_wp2_with fail
  refine hs.mono ?_
  clear hs
  rintro r X ⟨rfl, bX⟩
  have b9 := below_next b2 bX
  go_wp2
  go_ret
  exact ⟨rfl, b9⟩

/-! ### the document's Compound where there is no element -/
end Go.Proofs.YtcicppadjipndaaGreat.Mt
