/- The document's own Compound (tapestrierref9). -/
import Derived.Test.YtchfnnoabejlpaaRfSel
namespace Go.Proofs.Ytchfnnoabejlpaa.Rf
open Go Go.RowKit Go.Shelf Sl Wg Bk Go.Proofs.Ytchfnnoabejlpaa.Tre
open Dm (El parentV placeV childrenV nodeV beforeV TreeOk)

/-- What Compound answers, of an element of the tree. -/
def compoundV (es : List El) (k : Nat) (c : Cp) : Bool := !deepC 8 c && Mt.compV (Mt.anyV es 8) es c k
set_option maxRecDepth 100000 in
set_option maxHeartbeats 1000000 in
theorem compound_any (T : TE) (c : Cp) (vi vk va vp : Value) (k : Nat) (w : World) (hT : T.At w) (hk : k < T.es.length) (hv : CpC (SelsR 8 w.heap.size w) w.heap.size w [.string c.tag, vi, vk, va, vp] c) (hok : okC 8 c) :
    Calls Try.prog 15 #[T.p, .int .i64 k, .agg #[.string c.tag, vi, vk, va, vp]] w fun r w' => r = .returned (.bool (compoundV T.es k c)) ∧ Below w.heap.size w w' := by
  have hv0 := hv
  obtain ⟨i', k', a', p', e, r1, r2, r3, r4⟩ := hv0
  simp only [List.cons.injEq, and_true, true_and] at e
  obtain ⟨rfl, rfl, rfl, rfl⟩ := e
  obtain ⟨q1, cp1, rfl⟩ := r1.len
  obtain ⟨q2, cp2, rfl⟩ := r2.len
  obtain ⟨q3, cp3, rfl⟩ := r3.len
  obtain ⟨q4, cp4, rfl⟩ := r4.len
  clear r1 r2 r3 r4
  obtain ⟨V, hV⟩ : ∃ V, compoundV T.es k c = V := ⟨_, rfl⟩
  rw [hV]
  unfold compoundV at hV
  obtain ⟨w1, hw1⟩ : ∃ w1, w.alloc (.cells #[.string c.tag, .slice q1 c.ids.length cp1, .slice q2 c.classes.length cp2, .slice q3 c.attrs.length cp3, .slice q4 c.pss.length cp4] 40) = w1 := ⟨_, rfl⟩
  have b1 : Below w.heap.size w w1 := by rw [← hw1]; exact (Below.refl _ w).alloc (Nat.le_refl _) _
  have k1 : Blk w1 w.heap.size 40 [.string c.tag, .slice q1 c.ids.length cp1, .slice q2 c.classes.length cp2, .slice q3 c.attrs.length cp3, .slice q4 c.pss.length cp4] := by rw [← hw1]; exact Blk.new w _ _
  obtain ⟨⟨c0, c1, c2, c3, c4⟩, _⟩ := blk5 k1
  have HCP : Hid (∀ X, Below w.heap.size w X → CpC (SelsR 8 X.heap.size X) X.heap.size X [.string c.tag, .slice q1 c.ids.length cp1, .slice q2 c.classes.length cp2, .slice q3 c.attrs.length cp3, .slice q4 c.pss.length cp4] c) := fun X hX => CpC.mono (CpC.below hv hX (fun _ _ h => h.below 8 hX)) hX.size (fun _ _ h => h.mono 8 hX.size)
  have hdp := deepC_all 8 (Nat.le_refl _) c _ _ _ _ w1 (HCP.out _ b1)
  rw [show (8 : Int) - ((8 : Nat) : Int) = 0 from rfl] at hdp
  have HSL : Hid (deepC 8 c = false → ∀ X, Below w1.heap.size w1 X → Calls Try.prog 28 #[T.p, .int .i64 k, .agg #[.string c.tag, .slice q1 c.ids.length cp1, .slice q2 c.classes.length cp2, .slice q3 c.attrs.length cp3, .slice q4 c.pss.length cp4], .int .i64 0] X fun r w' => r = .returned (.bool (Mt.compV (Mt.anyV T.es 8) T.es c k)) ∧ Below X.heap.size X w') := fun hd X hX => by
    have h2 := below_next b1 hX
    exact comp_all 8 (Nat.le_refl _) T c _ _ _ _ k X (hT.next h2) hk (HCP.out _ h2) hd hok
  have K1 : Hid (Blk w1 w.heap.size 40 [.string c.tag, .slice q1 c.ids.length cp1, .slice q2 c.classes.length cp2, .slice q3 c.attrs.length cp3, .slice q4 c.pss.length cp4]) := k1
  clear hT hv hok k1 HCP hk
  cases hd : deepC 8 c with
  | true =>
    rw [hd] at hdp hV
    obtain rfl : V = false := by rw [← hV]; rfl
    clear hV HSL hd
    go_enter Try.func15, Try.ntmps15
    go_wp2_with fail
    go_at_call 21
    refine Calls.mono hdp ?_
    clear hdp hw1 c0 c1 c2 c3 c4
    rintro r w2 ⟨rfl, b2⟩
    have B2 := below_next b1 b2
    go_wp2
    go_ret
    exact ⟨rfl, B2⟩
  | false =>
    rw [hd] at hdp hV
    have HS2 := HSL.out hd
    rw [show Mt.compV (Mt.anyV T.es 8) T.es c k = V by rw [← hV]; rfl] at HS2
    have HS3 : Hid (∀ X, Below w1.heap.size w1 X → Calls Try.prog 28 #[T.p, .int .i64 k, .agg #[.string c.tag, .slice q1 c.ids.length cp1, .slice q2 c.classes.length cp2, .slice q3 c.attrs.length cp3, .slice q4 c.pss.length cp4], .int .i64 0] X fun r w' => r = .returned (.bool V) ∧ Below X.heap.size X w') := HS2
    clear hV HSL hd HS2
    go_enter Try.func15, Try.ntmps15
    go_wp2_with fail
    go_at_call 21
    refine Calls.mono hdp ?_
    clear hdp hw1 c0 c1 c2 c3 c4
    rintro r w2 ⟨rfl, b2⟩
    obtain ⟨⟨c0, c1, c2, c3, c4⟩, _⟩ := blk5 (K1.out.below b2 K1.out.lt)
    have hcall := HS3.out w2 b2
    have B2 := below_next b1 b2
    clear b2 HS3
    go_wp2_with fail
    go_at_call 28
    refine Calls.mono hcall ?_
    clear hcall c0 c1 c2 c3 c4
    rintro r w3 ⟨rfl, b3⟩
    have B3 := below_next B2 b3
    go_wp2
    go_ret
    exact ⟨rfl, B3⟩

end Go.Proofs.Ytchfnnoabejlpaa.Rf
