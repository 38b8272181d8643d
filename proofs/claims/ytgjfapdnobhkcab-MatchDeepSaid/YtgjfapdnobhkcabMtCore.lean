/- package match: isPseudo, isCompound. -/
import Derived.Test.YtgjfapdnobhkcabMtAny
import Derived.Test.YtgjfapdnobhkcabMtPlace
import Derived.Test.YtgjfapdnobhkcabMtName
namespace Go.Proofs.Ytgjfapdnobhkcab.Mt
open Go Go.RowKit Dm

/-- 'is' is known of whatever stands one list deeper. -/
def Deeper (E : Env) (f : Nat) : Prop := ∀ f', f = f' + 1 → IsK E f'

set_option maxRecDepth 100000 in
set_option maxHeartbeats 4000000 in
theorem isPseudo_any (E : Env) (hE : EnvOk E) (f : Nat) (HI : Deeper E f) (γ : Ghost) (W : World) (hI : Inv E γ W) (A k j : Nat) (s : Sel) (pv : Value) (p : Pt) (q : Ps) (hA : γ A = some (.asked s pv f)) (hp : s[k]? = some p) (hq : p.2.pss[j]? = some q) (hj : j < 1099511627776) (hql : q.list.length ≤ 8796093022208) (hqa : i64 q.a ∧ i64 q.b)
    (d : Nat) (pl : Option Addr) (cl : Nat) (hS : SelsAt d E.n₀ E.w₀ (.slice pl q.list.length cl) q.list) (e : Nat) (he : e < E.qs.length) :
    Calls Try.prog 61 #[.pointer (some ⟨A, 0, none⟩), .agg #[.int .i64 k, .int .i64 j], .agg #[.int .i64 q.kind, .int .i64 q.a, .int .i64 q.b, .slice pl q.list.length cl], .int .i64 e] W fun r W' => r = .returned (.bool (pseudoV (anyV E.es f) E.es q e)) ∧ ∃ γ', Step E γ W γ' W' := by
  obtain ⟨w2, hw2⟩ : ∃ w2, (W.alloc (.cells #[.int .i64 k, .int .i64 j] 110)).alloc (.cells #[.int .i64 q.kind, .int .i64 q.a, .int .i64 q.b, .slice pl q.list.length cl] 54) = w2 := ⟨_, rfl⟩
  have b2 : Below W.heap.size W w2 := by rw [← hw2]; exact ((Below.refl _ W).alloc (Nat.le_refl _) _).alloc (by simp) _
  have st2 := hI.step b2
  have sp2 : Blk w2 W.heap.size 110 [.int .i64 k, .int .i64 j] := by rw [← hw2]; exact blk_alloc (Blk.new W 110 _) _
  have kp2 : Blk w2 (W.heap.size + 1) 54 [.int .i64 q.kind, .int .i64 q.a, .int .i64 q.b, .slice pl q.list.length cl] := by
    rw [← hw2]
    have := Blk.new (W.alloc (.cells #[.int .i64 k, .int .i64 j] 110)) 54 [.int .i64 q.kind, .int .i64 q.a, .int .i64 q.b, .slice pl q.list.length cl]
    rwa [World.size_alloc] at this
  obtain ⟨⟨d0, d1⟩, _⟩ := blk2 sp2
  obtain ⟨⟨x0, x1, x2, x3⟩, _⟩ := blk4 kp2
  obtain ⟨_, hfit, fv, lv, kA, _, _⟩ := st2.inv.asked hA
  have ST2 : Hid (Step E γ W γ w2) := st2
  obtain ⟨R, hR⟩ : ∃ R, R = pseudoV (anyV E.es f) E.es q e := ⟨_, rfl⟩
  rw [← hR]
  unfold pseudoV at hR
  by_cases h7 : q.kind = 7
  · rw [if_pos h7] at hR
    have hls : listed q = true := by unfold listed; rw [decide_eq_true h7]; rfl
    obtain ⟨f', rfl, _⟩ := fits_list hfit hp hq hls
    have hi := isAny_any E hE f' (HI f' rfl) γ w2 st2.inv A k j s pv p q hA hp hq hls hj hql d pl cl hS e he
    rw [h7] at x0 hw2
    have HR : Hid (_ = _) := hR
    clear hR hI hE HI hA hS st2 sp2 kp2 kA hls hfit
    rw [h7]
    clear h7
    go_enter Try.func61, Try.ntmps61
    go_wp2_with fail
    refine hi.mono ?_
    clear hi
    rintro r W' ⟨rfl, γ', st⟩
    have HS2 : Hid (Step E γ W γ' W') := ST2.out.trans st
    clear st
    go_wp2
    go_ret
    exact ⟨by rw [show R = _ from HR.out]; rfl, γ', HS2.out⟩
  · rw [if_neg h7] at hR
    have e7 : (q.kind == 7) = false := by simpa using h7
    by_cases h8 : q.kind = 8
    · rw [if_pos h8] at hR
      have hls : listed q = true := by unfold listed; rw [decide_eq_true h8]; simp
      obtain ⟨f', rfl, _⟩ := fits_list hfit hp hq hls
      have hi := isAny_any E hE f' (HI f' rfl) γ w2 st2.inv A k j s pv p q hA hp hq hls hj hql d pl cl hS e he
      rw [h8] at x0 hw2
      have HR : Hid (_ = _) := hR
      clear hR hI hE HI hA hS st2 sp2 kp2 kA hls hfit h7 e7
      rw [h8]
      clear h8
      go_enter Try.func61, Try.ntmps61
      go_wp2_with fail
      refine hi.mono ?_
      clear hi
      rintro r W' ⟨rfl, γ', st⟩
      have HS2 : Hid (Step E γ W γ' W') := ST2.out.trans st
      clear st
      go_wp2
      go_ret
      exact ⟨by rw [show R = _ from HR.out]; rfl, γ', HS2.out⟩
    · rw [if_neg h8] at hR
      have e8 : (q.kind == 8) = false := by simpa using h8
      have q0 : Below w2.heap.size w2 w2.drew := below_drew (Below.refl _ _)
      have st3 := st2.trans (st2.inv.step q0)
      have hi := isPlaced_any E hE w2.drew (st3.inv.tree hE) e q pl q.list.length cl hqa
      rw [← hR] at hi
      have HS : Hid (∀ X : World, Below w2.heap.size w2 X → X.cell? ⟨A, 0, none⟩ = some (.pointer (some ⟨E.tb, 0, none⟩)) ∧ X.cell? ⟨W.heap.size + 1, 0, none⟩ = some (.int .i64 q.kind) ∧ X.cell? ⟨W.heap.size + 1, 1, none⟩ = some (.int .i64 q.a) ∧ X.cell? ⟨W.heap.size + 1, 2, none⟩ = some (.int .i64 q.b) ∧ X.cell? ⟨W.heap.size + 1, 3, none⟩ = some (.slice pl q.list.length cl)) := fun X hX => by
        obtain ⟨⟨y0, y1, y2, y3⟩, _⟩ := blk4 (kp2.next hX)
        exact ⟨(blk4 (kA.next hX)).1.1, y0, y1, y2, y3⟩
      have HST : Hid (Step E γ W γ w2.drew) := st3
      clear hR hI hE HI hA hS st2 sp2 kp2 kA hfit h7 h8 st3 ST2
      go_enter Try.func61, Try.ntmps61
      go_upto_region 6 with fail
      clear x0 x1 x2 x3 d0 d1 hw2
      refine Rg.wpD_begin [0, 1, 2, 3, 4, 5] (fun X => X.cell? ⟨A, 0, none⟩ = some (.pointer (some ⟨E.tb, 0, none⟩)) ∧ X.cell? ⟨W.heap.size + 1, 0, none⟩ = some (.int .i64 q.kind) ∧ X.cell? ⟨W.heap.size + 1, 1, none⟩ = some (.int .i64 q.a) ∧ X.cell? ⟨W.heap.size + 1, 2, none⟩ = some (.int .i64 q.b) ∧ X.cell? ⟨W.heap.size + 1, 3, none⟩ = some (.slice pl q.list.length cl)) (by kernel_rfl) ?_
      have HeldS := HS.out _ q0
      refine Rg.wpD_load 0 (v := ?_) (by simp only [List.getElem?_toArray, List.getElem?_cons_zero]; rfl) (by kernel_rfl) (by kernel_rfl) (by intro _ _ _ h; exact h) HeldS (by rfl) (fun wz hz => ?_) ?_
      rotate_left
      · first | (go_simp; done) | (go_simp; with_reducible rfl)
      simp only [Act.put, List.setIfInBounds_toArray, List.set_cons_succ, List.set_cons_zero]
      refine Rg.wpD_load 1 (v := ?_) (by simp only [List.getElem?_toArray, List.getElem?_cons_succ, List.getElem?_cons_zero]; rfl) (by kernel_rfl) (by kernel_rfl) (by intro _ _ _ h; exact h) HeldS (by rfl) (fun wz hz => ?_) ?_
      rotate_left
      · first | (go_simp; done) | (go_simp; with_reducible rfl)
      simp only [Act.put, List.setIfInBounds_toArray, List.set_cons_succ, List.set_cons_zero]
      refine Rg.wpD_load 2 (v := ?_) (by simp only [List.getElem?_toArray, List.getElem?_cons_succ, List.getElem?_cons_zero]; rfl) (by kernel_rfl) (by kernel_rfl) (by intro _ _ _ h; exact h) HeldS (by rfl) (fun wz hz => ?_) ?_
      rotate_left
      · first | (go_simp; done) | (go_simp; with_reducible rfl)
      simp only [Act.put, List.setIfInBounds_toArray, List.set_cons_succ, List.set_cons_zero]
      refine Rg.wpD_load 3 (v := ?_) (by simp only [List.getElem?_toArray, List.getElem?_cons_succ, List.getElem?_cons_zero]; rfl) (by kernel_rfl) (by kernel_rfl) (by intro _ _ _ h; exact h) HeldS (by rfl) (fun wz hz => ?_) ?_
      rotate_left
      · first | (go_simp; done) | (go_simp; with_reducible rfl)
      simp only [Act.put, List.setIfInBounds_toArray, List.set_cons_succ, List.set_cons_zero]
      refine Rg.wpD_load 4 (v := ?_) (by simp only [List.getElem?_toArray, List.getElem?_cons_succ, List.getElem?_cons_zero]; rfl) (by kernel_rfl) (by kernel_rfl) (by intro _ _ _ h; exact h) HeldS (by rfl) (fun wz hz => ?_) ?_
      rotate_left
      · first | (go_simp; done) | (go_simp; with_reducible rfl)
      simp only [Act.put, List.setIfInBounds_toArray, List.set_cons_succ, List.set_cons_zero]
      refine Rg.wpD_load 5 (v := ?_) (by simp only [List.getElem?_toArray, List.getElem?_cons_succ, List.getElem?_cons_zero]; rfl) (by kernel_rfl) (by kernel_rfl) (by intro _ _ _ h; exact h) HeldS (by rfl) (fun wz hz => ?_) ?_
      rotate_left
      · first | (go_simp; done) | (go_simp; with_reducible rfl)
      simp only [Act.put, List.setIfInBounds_toArray, List.set_cons_succ, List.set_cons_zero]
      refine Rg.wpD_do 6 (by kernel_rfl) (by simp only [List.getElem?_toArray, List.getElem?_cons_succ, List.getElem?_cons_zero]; rfl) (fun K hK => ?_)
      go_simp
      go_at_call 70
      refine Calls.mono hi ?_
      clear hi
      rintro r X ⟨rfl, bX⟩
      have HSX : Hid (Step E γ W γ X) := HST.out.trans (HST.out.inv.step bX)
      refine hK _ _ (fun h => absurd h (by decide)) ?_
      clear hK K HeldS
      refine Rg.wpD_pure 7 (v := ?_) (by simp only [List.getElem?_toArray, List.getElem?_cons_succ, List.getElem?_cons_zero]; rfl) (by kernel_rfl) (by kernel_rfl) (by intro _ _ _ h; exact h) (by rfl) (fun wz => ?_) ?_
      rotate_left
      · first | (go_simp; done) | (go_simp; with_reducible rfl)
      simp only [Act.put, List.setIfInBounds_toArray, List.set_cons_succ, List.set_cons_zero]
      refine Rg.wpD_done (by kernel_rfl) ?_
      go_wp2
      go_ret
      exact ⟨rfl, γ, HSX.out⟩

end Go.Proofs.Ytgjfapdnobhkcab.Mt
