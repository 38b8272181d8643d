/- The document's own Style (P1601), at every style above and all values. -/
import Derived.Test.YtacdgfjmmomkpaaDoorCpOfB
import Derived.Test.YtacdgfjmmomkpaaDoorCpRefA
import Derived.Test.YtacdgfjmmomkpaaDoorCpRefB
import Derived.Test.YtacdgfjmmomkpaaDoorCpRefC
import Derived.Test.YtacdgfjmmomkpaaDoorCpRefD
import Derived.Test.YtacdgfjmmomkpaaDoorCpRefE
import Derived.Test.YtacdgfjmmomkpaaDoorRgn
namespace Go.Proofs.YtacdgfjmmomkpaaDoor.Cp
open Go Go.RowKit Vl Nm

theorem comp_zero (k n up em em' : Int) : compV 0 k n up em = compV 0 k n up em' := by
  simp [compV, ownV, keyV, lenV, pctV, numV, colV]
theorem refOne_any {p : Nat} (hp : p < 8) (k n u : Nat → Int) (em : Int) (he : 2 ≤ p → em = ofV k n u 1) (w : World) : Calls Tryd.prog 14 #[.int .i64 p, .agg #[.int .i64 (k p), .int .i64 (n p)], .agg #[.int .i64 (u 0), .int .i64 (u 1), .int .i64 (u 2), .int .i64 (u 3), .int .i64 (u 4), .int .i64 (u 5), .int .i64 (u 6), .int .i64 (u 7)], .int .i64 em] w fun e w' => e = .returned (.int .i64 (ofV k n u p)) ∧ Below w.heap.size w w' := by
  have h1 : ofV k n u 1 = compV 1 (k 1) (n 1) (u 1) (u 1) := rfl
  rcases (by omega : p = 0 ∨ p = 1 ∨ 2 ≤ p) with rfl | rfl | h
  · have := refOne_0 (k 0) (n 0) u em w
    rw [comp_zero _ _ _ em (ofV k n u 1)] at this
    exact this
  · exact refOne_1 (k 1) (n 1) u em w
  · obtain rfl := he h
    have hp1 : ofV k n u p = compV p (k p) (n p) (u p) (ofV k n u 1) := by
      rw [h1]
      unfold ofV
      rw [if_neg (by omega)]
    rw [hp1]
    obtain rfl | rfl | rfl | rfl | rfl | rfl : p = 2 ∨ p = 3 ∨ p = 4 ∨ p = 5 ∨ p = 6 ∨ p = 7 := by omega
    · exact refOne_2 _ _ u _ w
    · exact refOne_3 _ _ u _ w
    · exact refOne_4 _ _ u _ w
    · exact refOne_5 _ _ u _ w
    · exact refOne_6 _ _ u _ w
    · exact refOne_7 _ _ u _ w
/-- How far a style is reckoned: those up to m. -/
def uptoV (f : Nat → Int) (m i : Nat) : Int := if i < m then f i else 0

set_option maxRecDepth 100000 in
set_option maxHeartbeats 1000000 in
theorem refStyle_any (v : Value) (k n u : Nat → Int) (w : World) (hv : ParAt w v u) :
    Calls Tryd.prog 10 #[v, vls k n] w fun e w' => e = .returned (sty (ofV k n u)) ∧ Below w.heap.size w w' := by
  have HC : Hid (∀ (X : World) (p : Nat) (q : Int) (em : Int), p < 8 → q = p → (2 ≤ p → em = ofV k n u 1) → Calls Tryd.prog 14 #[.int .i64 q, .agg #[.int .i64 (k p), .int .i64 (n p)], .agg #[.int .i64 (u 0), .int .i64 (u 1), .int .i64 (u 2), .int .i64 (u 3), .int .i64 (u 4), .int .i64 (u 5), .int .i64 (u 6), .int .i64 (u 7)], .int .i64 em] X fun e w' => e = .returned (.int .i64 (ofV k n u p)) ∧ Below X.heap.size X w') := fun X p q em hp hq he => by subst hq; exact refOne_any hp k n u em he X
  have HR : Hid (∀ X, Calls Tryd.prog 12 #[] X fun e w' => e = .returned (sty rootV) ∧ Below X.heap.size X w') := fun X => refRoot_any X
  obtain ⟨V, hV⟩ : ∃ V, ofV k n u = V := ⟨_, rfl⟩
  rw [hV] at HC ⊢
  clear hV
  have b0 : Below w.heap.size w ((w.alloc (.cells (valL k n).toArray 26)).alloc (.cells #[.int .i64 0, .int .i64 0, .int .i64 0, .int .i64 0, .int .i64 0, .int .i64 0, .int .i64 0, .int .i64 0] 23)) := ((Below.refl _ w).alloc (Nat.le_refl _) _).alloc (by rw [World.size_alloc]; omega) _
  have kA : ValAt ((w.alloc (.cells (valL k n).toArray 26)).alloc (.cells #[.int .i64 0, .int .i64 0, .int .i64 0, .int .i64 0, .int .i64 0, .int .i64 0, .int .i64 0, .int .i64 0] 23)) w.heap.size k n := Blk.kept (ValAt.new w k n) (World.grownBy_alloc _ _ none) (by simp)
  have kR : StyAt ((w.alloc (.cells (valL k n).toArray 26)).alloc (.cells #[.int .i64 0, .int .i64 0, .int .i64 0, .int .i64 0, .int .i64 0, .int .i64 0, .int .i64 0, .int .i64 0] 23)) (w.heap.size + 1) (fun _ => 0) := by
    have := StyAt.new (w.alloc (.cells (valL k n).toArray 26)) (fun _ => 0)
    rwa [World.size_alloc] at this
  simp only [valL] at b0 kA kR
  go_enter Tryd.func10, Tryd.ntmps10
  go_upto_region 1 with fail
  generalize ((w.alloc _).alloc _ : World) = W at *
  have hr := HR.out W
  clear HR
  simp only [sty] at hr
  have hlt := kR.lt
  go_wp2_with fail
  refine hr.mono ?_
  clear hr
  rintro e w1 ⟨rfl, b1⟩
  have b2 : Below w1.heap.size w1 (w1.alloc (.cells #[.int .i64 (rootV 0), .int .i64 (rootV 1), .int .i64 (rootV 2), .int .i64 (rootV 3), .int .i64 (rootV 4), .int .i64 (rootV 5), .int .i64 (rootV 6), .int .i64 (rootV 7)] 23)) := (Below.refl _ _).alloc (Nat.le_refl _) _
  have kC : StyAt (w1.alloc (.cells #[.int .i64 (rootV 0), .int .i64 (rootV 1), .int .i64 (rootV 2), .int .i64 (rootV 3), .int .i64 (rootV 4), .int .i64 (rootV 5), .int .i64 (rootV 6), .int .i64 (rootV 7)] 23)) w1.heap.size rootV := StyAt.new w1 rootV
  have b3 := b1.trans (b2.mono b1.size)
  replace kA := kA.below b3 (by omega)
  replace kR := kR.next b3
  have bw := below_next b0 b3
  have hs1 := b1.size
  clear b0 b1 b2 b3
  go_upto_region 2 with fail
  generalize w1.alloc _ = W1 at *
  have hCs := kC.lt
  have hAC : w.heap.size + 1 < w1.heap.size := by omega
  generalize w1.heap.size = C at *
  clear hlt hs1
  rcases hv with ⟨rfl, hu⟩ | ⟨pb, po, rfl, hpb, hsrc⟩
  case' inl =>
    obtain ⟨W2, rfl⟩ : ∃ W2, W2 = W1 := ⟨_, rfl⟩
    replace kC : StyAt W2 C u := by rw [hu]; exact kC
    clear hu
    go_upto_region 4 with fail
  case' inr =>
    obtain ⟨p0, p1, p2, p3, p4, p5, p6, p7⟩ := (hsrc.below bw hpb).cells
    obtain ⟨f0, f1, f2, f3, f4, f5, f6, f7⟩ := kC.thaw
    obtain ⟨d0, d1, d2, d3, d4, d5, d6, d7⟩ := kC.cells
    have g := grown_set8 W1 C u
    have kA2 : ValAt (set8 W1 C u) w.heap.size k n := Blk.kept kA g (by simp; omega)
    have kR2 : StyAt (set8 W1 C u) (w.heap.size + 1) (fun _ => 0) := Blk.kept kR g (by simp; omega)
    have kC2 := kC.set8 u
    have bw2 := below_grown bw g bw.size (by omega)
    have hCs2 := kC2.lt
    clear g
    go_upto_region 4 with fail
    change Code.wp _ _ _ _ (set8 W1 C u)
    clear d0 d1 d2 d3 d4 d5 d6 d7 f0 f1 f2 f3 f4 f5 f6 f7 p0 p1 p2 p3 p4 p5 p6 p7 hsrc
    replace kA := kA2
    replace kR := kR2
    replace kC := kC2
    replace bw := bw2
    replace hCs := hCs2
    clear kA2 kR2 kC2 bw2 hCs2
    generalize set8 W1 C u = W2 at *
    clear hpb
  all_goals
    have b4 : Below W2.heap.size W2 (W2.alloc (.cells #[.int .i64 0, .int .i64 0, .int .i64 0, .int .i64 0, .int .i64 0, .int .i64 0, .int .i64 0, .int .i64 0] 23)) := (Below.refl _ _).alloc (Nat.le_refl _) _
    have kD : StyAt (W2.alloc (.cells #[.int .i64 0, .int .i64 0, .int .i64 0, .int .i64 0, .int .i64 0, .int .i64 0, .int .i64 0, .int .i64 0] 23)) W2.heap.size (fun _ => 0) := StyAt.new W2 (fun _ => 0)
    replace kA := kA.below b4 (by omega)
    replace kR := kR.next b4
    replace kC := kC.next b4
    replace bw := below_next bw b4
    clear b4
    go_upto_region 5 with fail
    generalize W2.alloc _ = W3 at *
    generalize W2.heap.size = D at *
    have kD2 : StyAt W3 D (uptoV V 0) := kD
    clear kD
    go_wp2
    go_loopw [7] (fun i wr => ∃ p : Nat, i = .int .i64 p ∧ p ≤ 8 ∧ ValAt wr w.heap.size k n ∧ StyAt wr (w.heap.size + 1) (fun _ => 0) ∧ StyAt wr C u ∧ StyAt wr D (uptoV V p) ∧ Below w.heap.size w wr) (fun i _ => 8 - (intOf i).toNat)
    case atStart => exact ⟨0, rfl, by omega, kA, kR, kC, kD2, bw⟩
    case round =>
      clear kA kR kC kD2 bw
      obtain ⟨p, rfl, hp, hA, hR, hC, hD, hb⟩ := hrel
      by_cases hlt : p < 8
      · have hki : (p : Int) < 8 := by omega
        go_upto_region 8 with fail
        have q0 : Below wr.heap.size wr wr.drew := below_drew (Below.refl _ _)
        replace hA := hA.below q0 (by have := hA.lt; omega)
        replace hR := hR.next q0
        replace hC := hC.next q0
        replace hD := hD.next q0
        replace hb := below_next hb q0
        clear q0
        have hcp := HC.out wr.drew p p (uptoV V p 1) hlt rfl (fun h => if_pos (by omega))
        have HeldS : wr.drew.cell? ⟨w.heap.size, p * 2, none⟩ = some (.int .i64 (k p)) ∧ wr.drew.cell? ⟨w.heap.size, p * 2 + 1, none⟩ = some (.int .i64 (n p)) ∧ wr.drew.cell? ⟨C, 0, none⟩ = some (.int .i64 (u 0)) ∧ wr.drew.cell? ⟨C, 1, none⟩ = some (.int .i64 (u 1)) ∧ wr.drew.cell? ⟨C, 2, none⟩ = some (.int .i64 (u 2)) ∧ wr.drew.cell? ⟨C, 3, none⟩ = some (.int .i64 (u 3)) ∧ wr.drew.cell? ⟨C, 4, none⟩ = some (.int .i64 (u 4)) ∧ wr.drew.cell? ⟨C, 5, none⟩ = some (.int .i64 (u 5)) ∧ wr.drew.cell? ⟨C, 6, none⟩ = some (.int .i64 (u 6)) ∧ wr.drew.cell? ⟨C, 7, none⟩ = some (.int .i64 (u 7)) ∧ wr.drew.cell? ⟨D, 1, none⟩ = some (.int .i64 (uptoV V p 1)) := by
          obtain ⟨c0, c1, c2, c3, c4, c5, c6, c7⟩ := hC.cells
          exact ⟨(hA.cell hlt).1, (hA.cell hlt).2, c0, c1, c2, c3, c4, c5, c6, c7, (hD.cell (p := 1) (by decide)).1⟩
        refine Rg.wpD_begin [1, 2, 3, 4, 5, 6, 7] (fun X => X.cell? ⟨w.heap.size, p * 2, none⟩ = some (.int .i64 (k p)) ∧ X.cell? ⟨w.heap.size, p * 2 + 1, none⟩ = some (.int .i64 (n p)) ∧ X.cell? ⟨C, 0, none⟩ = some (.int .i64 (u 0)) ∧ X.cell? ⟨C, 1, none⟩ = some (.int .i64 (u 1)) ∧ X.cell? ⟨C, 2, none⟩ = some (.int .i64 (u 2)) ∧ X.cell? ⟨C, 3, none⟩ = some (.int .i64 (u 3)) ∧ X.cell? ⟨C, 4, none⟩ = some (.int .i64 (u 4)) ∧ X.cell? ⟨C, 5, none⟩ = some (.int .i64 (u 5)) ∧ X.cell? ⟨C, 6, none⟩ = some (.int .i64 (u 6)) ∧ X.cell? ⟨C, 7, none⟩ = some (.int .i64 (u 7)) ∧ X.cell? ⟨D, 1, none⟩ = some (.int .i64 (uptoV V p 1))) (by kernel_rfl) ?_
        refine Rg.wpD_pure 0 (v := ?_) (by simp only [List.getElem?_toArray, List.getElem?_cons_zero]; rfl) (by kernel_rfl) (by kernel_rfl) (by intro _ _ _ h; exact h) (by rfl) (fun wz => ?_) ?_
        rotate_left
        · first | (go_simp; done) | (go_simp; with_reducible rfl)
        simp only [Act.put, List.setIfInBounds_toArray, List.set_cons_succ, List.set_cons_zero]
        refine Rg.wpD_load 1 (v := ?_) (by simp only [List.getElem?_toArray, List.getElem?_cons_succ, List.getElem?_cons_zero]; rfl) (by kernel_rfl) (by kernel_rfl) (by intro _ _ _ h; exact h) HeldS (by rfl) (fun wz hz => ?_) ?_
        rotate_left
        · first | (go_simp; done) | (go_simp; with_reducible rfl)
        simp only [Act.put, List.setIfInBounds_toArray, List.set_cons_succ, List.set_cons_zero]
        refine Rg.wpD_load 2 (v := ?_) (by simp only [List.getElem?_toArray, List.getElem?_cons_succ, List.getElem?_cons_zero]; rfl) (by kernel_rfl) (by kernel_rfl) (by intro _ _ _ h; exact h) HeldS (by rfl) (fun wz hz => ?_) ?_
        rotate_left
        · first | (go_simp; done) | (go_simp; with_reducible rfl)
        simp only [Act.put, List.setIfInBounds_toArray, List.set_cons_succ, List.set_cons_zero]
        refine Rg.wpD_load 3 (v := ?_) (by simp only [List.getElem?_toArray, List.getElem?_cons_succ, List.getElem?_cons_zero]; rfl) (by kernel_rfl) (by kernel_rfl) (by intro _ _ _ h; exact h) HeldS (by rfl) (fun wz hz => ?_) ?_
        rotate_left
        · first | (go_simp; done) | (go_simp; with_reducible rfl)
        simp only [Act.put, List.setIfInBounds_toArray, List.set_cons_succ, List.set_cons_zero]
        refine Rg.wpD_load 4 (v := ?_) (by simp only [List.getElem?_toArray, List.getElem?_cons_succ, List.getElem?_cons_zero]; rfl) (by kernel_rfl) (by kernel_rfl) (by intro _ _ _ h; exact h) HeldS (by rfl) (fun wz hz => ?_) ?_
        rotate_left
        · first | (go_simp; done) | (go_simp; with_reducible rfl)
        simp only [Act.put, List.setIfInBounds_toArray, List.set_cons_succ, List.set_cons_zero]
        refine Rg.wpD_load 5 (v := ?_) (by simp only [List.getElem?_toArray, List.getElem?_cons_succ, List.getElem?_cons_zero]; rfl) (by kernel_rfl) (by kernel_rfl) (by intro _ _ _ h; exact h) HeldS (by rfl) (fun wz hz => ?_) ?_
        rotate_left
        · first | (go_simp; done) | (go_simp; with_reducible rfl)
        simp only [Act.put, List.setIfInBounds_toArray, List.set_cons_succ, List.set_cons_zero]
        refine Rg.wpD_load 6 (v := ?_) (by simp only [List.getElem?_toArray, List.getElem?_cons_succ, List.getElem?_cons_zero]; rfl) (by kernel_rfl) (by kernel_rfl) (by intro _ _ _ h; exact h) HeldS (by rfl) (fun wz hz => ?_) ?_
        rotate_left
        · first | (go_simp; done) | (go_simp; with_reducible rfl)
        simp only [Act.put, List.setIfInBounds_toArray, List.set_cons_succ, List.set_cons_zero]
        refine Rg.wpD_load 7 (v := ?_) (by simp only [List.getElem?_toArray, List.getElem?_cons_succ, List.getElem?_cons_zero]; rfl) (by kernel_rfl) (by kernel_rfl) (by intro _ _ _ h; exact h) HeldS (by rfl) (fun wz hz => ?_) ?_
        rotate_left
        · first | (go_simp; done) | (go_simp; with_reducible rfl)
        simp only [Act.put, List.setIfInBounds_toArray, List.set_cons_succ, List.set_cons_zero]
        refine Rg.wpD_do 8 (by kernel_rfl) (by simp only [List.getElem?_toArray, List.getElem?_cons_succ, List.getElem?_cons_zero]; rfl) (fun K hK => ?_)
        go_simp
        go_at_call 14
        refine Calls.mono hcp ?_
        clear hcp HeldS
        rintro e X ⟨rfl, b6⟩
        refine hK _ _ (fun h => absurd h (by decide)) ?_
        clear hK K
        replace hA := hA.below b6 (by have := hA.lt; omega)
        replace hD := hD.next b6
        replace hR := hR.next b6
        replace hC := hC.next b6
        replace hb := below_next hb b6
        clear b6
        have hs := hD.lt
        obtain ⟨q1, q2⟩ := hD.cell hlt
        have hD2 := (hD.put hlt (V p)).ext (s' := uptoV V (p + 1)) (fun i _ => by
          unfold uptoV putV
          by_cases e : i = p
          · subst e; simp
          · show (if i < p + 1 then V i else 0) = if i = p then V p else if i < p then V i else 0
            rw [if_neg e]
            by_cases e1 : i < p
            · rw [if_pos e1, if_pos (by omega)]
            · rw [if_neg e1, if_neg (by omega)])
        have g := grown_set X D p (.int .i64 (V p))
        have hA2 : ValAt (X.setCell ⟨D, p, none⟩ (.int .i64 (V p))) w.heap.size k n := Blk.kept hA g (by simp; omega)
        have hR2 := hR.set (by omega : w.heap.size + 1 ≠ D) p (.int .i64 (V p))
        have hC2 := hC.set (by omega : C ≠ D) p (.int .i64 (V p))
        have hb2 := below_grown hb g hb.size (by omega)
        clear hD hR hC hb g
        refine Rg.wpD_pure 9 (v := ?_) (by simp only [List.getElem?_toArray, List.getElem?_cons_succ, List.getElem?_cons_zero]; rfl) (by kernel_rfl) (by kernel_rfl) (by intro _ _ _ h; exact h) (by rfl) (fun wz => ?_) ?_
        rotate_left
        · first | (go_simp; done) | (go_simp; with_reducible rfl)
        simp only [Act.put, List.setIfInBounds_toArray, List.set_cons_succ, List.set_cons_zero]
        refine Rg.wpD_do 10 (by kernel_rfl) (by simp only [List.getElem?_toArray, List.getElem?_cons_succ, List.getElem?_cons_zero]; rfl) (fun K hK => ?_)
        go_simp
        refine hK _ _ (fun h => absurd h (by decide)) ?_
        clear hK K
        refine Rg.wpD_done (by kernel_rfl) ?_
        go_wp2
        exact ⟨⟨p + 1, by go_num, by omega, hA2, hR2, hC2, hD2, hb2⟩, by simp [intOf]; omega⟩
      · have hki : ¬ (p : Int) < 8 := by omega
        obtain rfl : p = 8 := by omega
        replace hD : StyAt wr D V := hD.ext (fun i hi => (if_pos hi).symm)
        obtain ⟨c0, c1, c2, c3, c4, c5, c6, c7⟩ := hD.cells
        obtain ⟨d0, d1, d2, d3, d4, d5, d6, d7⟩ := hR.cells
        obtain ⟨f0, f1, f2, f3, f4, f5, f6, f7⟩ := hR.thaw
        have hz := below_grown hb (grown_set8 wr (w.heap.size + 1) V) (by have := hR.lt; omega) (by omega)
        have hl := load_sty (hR.set8 V)
        clear hD hC hA HC
        go_wp2
        refine bodyPost_ret (results_struct rfl _ _ (w.heap.size + 1) _ rfl hl) rfl ?_
        exact ⟨rfl, hz⟩

end Go.Proofs.YtacdgfjmmomkpaaDoor.Cp
