/- For every style above, every property and every value: the law tapestrierlaw16.ComputeKinds returns true and leaves its arguments as they were; no condition (its card: the table of properties read off the program's text). -/
import Derived.Test.YtacdgfjmmomkpaaDoorCpKinds
namespace Go.Proofs.YtacdgfjmmomkpaaDoor
open Go Go.ChangeShapes Go.WideShapes Go.ChangeAt Go.RowKit Vl Cp

set_option maxRecDepth 100000 in
set_option maxHeartbeats 1000000 in
theorem computeKinds_walk (w : World) (hP : PropsAt w.heap.size w) (s : Nat → Int) (prop : Int) (_wp : (Lit.int .i64 prop).wf = true) (z : Int × Int) :
    Calls Tryd.prog 7 #[sty s, .int .i64 prop, .agg #[.int .i64 z.1, .int .i64 z.2]] w fun e w' => e = .returned (.bool true) ∧ Below w.heap.size w w' := by
  obtain ⟨k, n⟩ := z
  simp only
  have HA : Hid (∀ X, Below w.heap.size w X → Calls Tryd.prog 8 #[] X fun e w' => e = .returned (.bool true) ∧ Below X.heap.size X w') := fun X hb => alive_any X (hP.next hb)
  have HO : Hid (∀ (v : Value) (k n u : Nat → Int) (X : World), Below w.heap.size w X → ParAt X v u → Calls Tryd.prog 9 #[v, vls k n] X fun e w' => e = .returned (sty (ofV k n u)) ∧ Below X.heap.size X w') := fun v k n u X hb hv => of_any v k n u X (hP.next hb) hv
  clear hP
  have b0 : Below w.heap.size w ((w.alloc (.cells #[.int .i64 (s 0), .int .i64 (s 1), .int .i64 (s 2), .int .i64 (s 3), .int .i64 (s 4), .int .i64 (s 5), .int .i64 (s 6), .int .i64 (s 7)] 23)).alloc (.cells #[.int .i64 k, .int .i64 n] 25)) := ((Below.refl _ w).alloc (Nat.le_refl _) _).alloc (by rw [World.size_alloc]; omega) _
  have kU : StyAt ((w.alloc (.cells #[.int .i64 (s 0), .int .i64 (s 1), .int .i64 (s 2), .int .i64 (s 3), .int .i64 (s 4), .int .i64 (s 5), .int .i64 (s 6), .int .i64 (s 7)] 23)).alloc (.cells #[.int .i64 k, .int .i64 n] 25)) w.heap.size s := Blk.kept (StyAt.new w s) (World.grownBy_alloc _ _ none) (by simp)
  have kX : Blk ((w.alloc (.cells #[.int .i64 (s 0), .int .i64 (s 1), .int .i64 (s 2), .int .i64 (s 3), .int .i64 (s 4), .int .i64 (s 5), .int .i64 (s 6), .int .i64 (s 7)] 23)).alloc (.cells #[.int .i64 k, .int .i64 n] 25)) (w.heap.size + 1) 25 [.int .i64 k, .int .i64 n] := by
    have h := Blk.new (w.alloc (.cells (styL s).toArray 23)) 25 [.int .i64 k, .int .i64 n]
    rwa [World.size_alloc] at h
  go_enter Tryd.func7, Tryd.ntmps7
  go_upto_region 1 with fail
  generalize ((w.alloc _).alloc _ : World) = W at *
  have hc := HA.out W b0
  clear HA
  go_wp2_with fail
  refine hc.mono ?_
  clear hc
  rintro e w1 ⟨rfl, b1⟩
  replace kU := kU.next b1
  replace kX := kX.below b1 kX.lt
  have bw := below_next b0 b1
  clear b0 b1
  have hXs := kX.lt
  by_cases p0 : prop < 0
  · clear HO kU kX
    go_wp2
    go_ret
    exact ⟨rfl, bw⟩
  by_cases p1 : 7 < prop
  · clear HO kU kX
    go_wp2
    go_ret
    exact ⟨rfl, bw⟩
  obtain ⟨p, rfl⟩ : ∃ p : Nat, prop = p := ⟨prop.toNat, by omega⟩
  have hp : p < 8 := by omega
  go_upto_region 4 with fail
  clear p0 p1
  have hb1 := build1
  have hb2 := build2
  have hb3 := build3
  have hb4 := build4
  have hbS := buildS
  go_upto_region 5 with fail
  clear hb1 hb2 hb3 hb4 hbS
  change Code.wp _ _ _ _ (kw9 w1)
  obtain ⟨G, L, kH⟩ := has_at w1 hp
  have hL4 : (L : Int) ≤ 4 := by
    have h := kH.2.1
    have h4 : (hasL p).length ≤ 4 := by
      obtain rfl | rfl | rfl | rfl | rfl | rfl | rfl | rfl : p = 0 ∨ p = 1 ∨ p = 2 ∨ p = 3 ∨ p = 4 ∨ p = 5 ∨ p = 6 ∨ p = 7 := by omega
      all_goals decide
    omega
  have bk := below_kw w1
  replace kU := kU.next bk
  replace kX := kX.below bk kX.lt
  replace bw := below_next bw bk
  clear bk
  generalize kw9 w1 = W1 at *
  generalize w1.heap.size + 1 + 1 + 1 + 1 + 1 + 1 + 1 + 1 = Hb at *
  have hki : (p : Int) < 8 := by omega
  go_wp2
  go_loopw [9] (fun i wr => ∃ j : Nat, i = .int .i64 j ∧ j ≤ L ∧ Hid (∀ q, q < j → (hasL p)[q]? ≠ some k) ∧ StyAt wr w.heap.size s ∧ Blk wr (w.heap.size + 1) 25 [.int .i64 k, .int .i64 n] ∧ HasAt wr Hb p G L ∧ Below w.heap.size w wr) (fun i _ => L - (intOf i).toNat)
  case atStart => exact ⟨0, rfl, by omega, fun q hq => by omega, kU, kX, kH, bw⟩
  case round =>
    clear kU kX kH bw
    obtain ⟨j, rfl, hj, HN, kU, kX, kH, bw⟩ := hrel
    have h1 := kH.1
    by_cases hlt : j < L
    · have hji : (j : Int) < (L : Int) := by omega
      obtain ⟨x, hx, hgx⟩ := kH.2.2.2.2 j hlt
      obtain ⟨⟨x0, x1⟩, _⟩ := blk2 kX
      go_upto_region 8 with fail
      have q0 : Below wr.heap.size wr wr.drew := below_drew (Below.refl _ _)
      replace kU := kU.next q0
      replace kX := kX.below q0 kX.lt
      replace bw := below_next bw q0
      have HeldS : wr.drew.cell? ⟨w.heap.size + 1, 0, none⟩ = some (.int .i64 k) ∧ wr.drew.cell? ⟨Hb, p, none⟩ = some (.slice (some ⟨G, 0, none⟩) L L) ∧ wr.drew.cell? ⟨G, j, none⟩ = some (.int .i64 x) := ⟨x0, h1, hgx⟩
      replace kH := kH.next q0
      clear q0 h1 x0 x1 hgx
      refine Rg.wpD_begin [0, 1, 2, 3, 4, 5, 6, 7, 8] (fun X => X.cell? ⟨w.heap.size + 1, 0, none⟩ = some (.int .i64 k) ∧ X.cell? ⟨Hb, p, none⟩ = some (.slice (some ⟨G, 0, none⟩) L L) ∧ X.cell? ⟨G, j, none⟩ = some (.int .i64 x)) (by kernel_rfl) ?_
      refine Rg.wpD_load 0 (v := ?_) (by simp only [List.getElem?_toArray, List.getElem?_cons_zero]; rfl) (by kernel_rfl) (by kernel_rfl) (by intro _ _ _ h; exact h) HeldS (by rfl) (fun wz hz => ?_) ?_
      rotate_left
      · first | (go_simp; done) | (go_simp; with_reducible rfl)
      simp only [Act.put, List.setIfInBounds_toArray, List.set_cons_succ, List.set_cons_zero]
      refine Rg.wpD_load 1 (v := ?_) (by simp only [List.getElem?_toArray, List.getElem?_cons_succ, List.getElem?_cons_zero]; rfl) (by kernel_rfl) (by kernel_rfl) (by intro _ _ _ h; exact h) HeldS (by rfl) (fun wz hz => ?_) ?_
      rotate_left
      · first | (go_simp; done) | (go_simp; with_reducible rfl)
      simp only [Act.put, List.setIfInBounds_toArray, List.set_cons_succ, List.set_cons_zero]
      refine Rg.wpD_load 2 (v := ?_) (by simp only [List.getElem?_toArray, List.getElem?_cons_succ, List.getElem?_cons_zero]; rfl) (by kernel_rfl) (by kernel_rfl) (by intro _ _ _ h; exact h) HeldS (by rfl) (fun wz hz => ?_) ?_
      rotate_left
      · first | (go_simp; done) | (go_simp; with_reducible rfl)
      simp only [Act.put, List.setIfInBounds_toArray, List.set_cons_succ, List.set_cons_zero]
      refine Rg.wpD_load 3 (v := ?_) (by simp only [List.getElem?_toArray, List.getElem?_cons_succ, List.getElem?_cons_zero]; rfl) (by kernel_rfl) (by kernel_rfl) (by intro _ _ _ h; exact h) HeldS (by rfl) (fun wz hz => ?_) ?_
      rotate_left
      · first | (go_simp; done) | (go_simp; with_reducible rfl)
      simp only [Act.put, List.setIfInBounds_toArray, List.set_cons_succ, List.set_cons_zero]
      refine Rg.wpD_load 4 (v := ?_) (by simp only [List.getElem?_toArray, List.getElem?_cons_succ, List.getElem?_cons_zero]; rfl) (by kernel_rfl) (by kernel_rfl) (by intro _ _ _ h; exact h) HeldS (by rfl) (fun wz hz => ?_) ?_
      rotate_left
      · first | (go_simp; done) | (go_simp; with_reducible rfl)
      simp only [Act.put, List.setIfInBounds_toArray, List.set_cons_succ, List.set_cons_zero]
      refine Rg.wpD_load 5 (v := ?_) (by simp only [List.getElem?_toArray, List.getElem?_cons_succ, List.getElem?_cons_zero]; rfl) (by kernel_rfl) (by kernel_rfl) (by intro _ _ _ h; exact h) HeldS (by rfl) (fun wz hz => ?_) ?_
      rotate_left
      · first | (go_simp; done) | (go_simp; with_reducible rfl)
      simp only [Act.put, List.setIfInBounds_toArray, List.set_cons_succ, List.set_cons_zero]
      refine Rg.wpD_load 6 (v := ?_) (by simp only [List.getElem?_toArray, List.getElem?_cons_succ, List.getElem?_cons_zero]; rfl) (by kernel_rfl) (by kernel_rfl) (by intro _ _ _ h; exact h) HeldS (by rfl) (fun wz hz => ?_) ?_
      rotate_left
      · first | (go_simp; done) | (go_simp; with_reducible rfl)
      simp only [Act.put, List.setIfInBounds_toArray, List.set_cons_succ, List.set_cons_zero]
      refine Rg.wpD_load 7 (v := ?_) (by simp only [List.getElem?_toArray, List.getElem?_cons_succ, List.getElem?_cons_zero]; rfl) (by kernel_rfl) (by kernel_rfl) (by intro _ _ _ h; exact h) HeldS (by rfl) (fun wz hz => ?_) ?_
      rotate_left
      · first | (go_simp; done) | (go_simp; with_reducible rfl)
      simp only [Act.put, List.setIfInBounds_toArray, List.set_cons_succ, List.set_cons_zero]
      refine Rg.wpD_load 8 (v := ?_) (by simp only [List.getElem?_toArray, List.getElem?_cons_succ, List.getElem?_cons_zero]; rfl) (by kernel_rfl) (by kernel_rfl) (by intro _ _ _ h; exact h) HeldS (by rfl) (fun wz hz => ?_) ?_
      rotate_left
      · first | (go_simp; done) | (go_simp; with_reducible rfl)
      simp only [Act.put, List.setIfInBounds_toArray, List.set_cons_succ, List.set_cons_zero]
      clear HeldS
      refine Rg.wpD_pure 9 (v := ?_) (by simp only [List.getElem?_toArray, List.getElem?_cons_succ, List.getElem?_cons_zero]; rfl) (by kernel_rfl) (by kernel_rfl) (by intro _ _ _ h; exact h) (by rfl) (fun wz => ?_) ?_
      rotate_left
      · first | (go_simp; done) | (go_simp; with_reducible rfl)
      simp only [Act.put, List.setIfInBounds_toArray, List.set_cons_succ, List.set_cons_zero]
      refine Rg.wpD_done (by kernel_rfl) ?_
      by_cases hkx : k = x
      · subst hkx
        clear kU kX kH HN HO
        go_wp2
        go_ret
        exact ⟨rfl, bw⟩
      · have hkb : (k == x) = false := by simpa using hkx
        have HN2 : ∀ q, q < j + 1 → (hasL p)[q]? ≠ some k := fun q hq => by
          by_cases e : q = j
          · subst e
            rw [hx]
            intro h
            exact hkx (Option.some.inj h).symm
          · exact HN.out q (by omega)
        clear HN hkx hx
        go_wp2
        exact ⟨⟨j + 1, by go_num, by omega, HN2, kU, kX, kH, bw⟩, by simp [intOf]; omega⟩
    · have hji : ¬ (j : Int) < (L : Int) := by omega
      obtain rfl : j = L := by omega
      have hk : Hid (k ∉ hasL p) := fun hm => by
        obtain ⟨q, hq, e⟩ := List.mem_iff_getElem.1 hm
        exact HN.out q (by rw [kH.2.1]; exact hq) (by rw [List.getElem?_eq_getElem hq, e])
      clear HN hlt
      obtain ⟨⟨x0, x1⟩, _⟩ := blk2 kX
      by_cases k7 : k = 7
      · subst k7
        clear hk kU kX kH HO
        go_wp2
        go_ret
        exact ⟨rfl, bw⟩
      by_cases k8 : k = 8
      · subst k8
        clear hk kU kX kH HO k7
        go_wp2
        go_ret
        exact ⟨rfl, bw⟩
      have e7 : (k == 7) = false := by simpa using k7
      have e8 : (k == 8) = false := by simpa using k8
      have HV : Hid _ := kinds_plain hp hk.out k7 k8 n s
      clear k7 k8 hk
      go_upto_region 12 with fail
      clear h1 hji kH x0 x1 e7 e8 hL4
      have hBw := bw.size
      have b3 : Below wr.heap.size wr (wr.alloc (.cells #[.int .i64 0, .int .i64 0, .int .i64 0, .int .i64 0, .int .i64 0, .int .i64 0, .int .i64 0, .int .i64 0, .int .i64 0, .int .i64 0, .int .i64 0, .int .i64 0, .int .i64 0, .int .i64 0, .int .i64 0, .int .i64 0] 26)) := (Below.refl _ _).alloc (Nat.le_refl _) _
      have kV : ValAt (wr.alloc (.cells #[.int .i64 0, .int .i64 0, .int .i64 0, .int .i64 0, .int .i64 0, .int .i64 0, .int .i64 0, .int .i64 0, .int .i64 0, .int .i64 0, .int .i64 0, .int .i64 0, .int .i64 0, .int .i64 0, .int .i64 0, .int .i64 0] 26)) wr.heap.size (fun _ => 0) (fun _ => 0) := ValAt.new wr (fun _ => 0) (fun _ => 0)
      have lU := kU.lt
      have lX := kX.lt
      replace kU := kU.next b3
      replace kX := kX.below b3 kX.lt
      replace bw := below_next bw b3
      clear b3
      go_upto_region 13 with fail
      generalize wr.alloc _ = W4 at *
      generalize wr.heap.size = B at *
      have lB := kV.lt
      obtain ⟨V, hV⟩ : ∃ V, ofV (fun _ => 0) (fun _ => 0) s = V := ⟨_, rfl⟩
      rw [hV] at HV
      have kX4 : Blk W4 (w.heap.size + 1) 25 [.int .i64 k, .int .i64 n] := kX
      clear kX
      have hc : Calls Tryd.prog 9 #[.pointer (some ⟨w.heap.size, 0, none⟩), vls (fun _ => 0) (fun _ => 0)] W4 fun e w' => e = .returned (sty V) ∧ Below W4.heap.size W4 w' := by
        rw [← hV]
        exact HO.out _ _ _ s W4 bw kU.par
      obtain ⟨c0, c1, c2, c3, c4, c5, c6, c7, c8, c9, c10, c11, c12, c13, c14, c15⟩ := kV.cells
      go_wp2_with fail
      refine hc.mono ?_
      clear hc c0 c1 c2 c3 c4 c5 c6 c7 c8 c9 c10 c11 c12 c13 c14 c15
      rintro e w5 ⟨rfl, b2⟩
      have b3 : Below w5.heap.size w5 (w5.alloc (.cells (styL V).toArray 23)) := (Below.refl _ _).alloc (Nat.le_refl _) _
      have kS := StyAt.new w5 V
      simp only [styL] at kS b3
      have lx4 := kX4.lt
      replace kX4 := kX4.below b2 lx4
      have lx5 := kX4.lt
      replace kX4 := kX4.below b3 lx5
      clear lx4 lx5
      replace kU := kU.next b2
      have lkUS := kU.lt
      replace kU := kU.next b3
      replace kV := kV.next b2
      have lkVS := kV.lt
      replace kV := kV.next b3
      replace bw := below_next (below_next bw b2) b3
      clear b2 b3
      go_upto_region 14 with fail
      generalize w5.alloc _ = W5 at *
      generalize w5.heap.size = S at *
      clear hV
      obtain ⟨⟨x0, x1⟩, _⟩ := blk2 kX4
      clear kX4
      obtain ⟨v1, v2⟩ := kV.cell hp
      have f2 := kV.thaw (p * 2)
      have f3 := kV.thaw (p * 2 + 1)
      have kVN := kV.put2 hp k n
      have kUN := kU.set2 (by omega : w.heap.size ≠ B) (p * 2) (p * 2 + 1) (.int .i64 k) (.int .i64 n)
      have kSN := kS.set2 (by omega : S ≠ B) (p * 2) (p * 2 + 1) (.int .i64 k) (.int .i64 n)
      have bwN := below_set2 bw (by omega : w.heap.size ≤ B) (p * 2) (p * 2 + 1) (.int .i64 k) (.int .i64 n)
      clear kV kU kS bw
      go_upto_region 15 with fail
      clear v1 v2 f2 f3 x0 x1
      generalize (W5.setCell _ _).setCell _ _ = W6 at *
      have kV := kVN
      have kU := kUN
      have kS := kSN
      have bw := bwN
      clear kVN kUN kSN bwN
      have q0 : Below W6.heap.size W6 W6.drew := below_drew (Below.refl _ _)
      replace kV := kV.next q0
      replace kS := kS.next q0
      replace kU := kU.next q0
      replace bw := below_next bw q0
      clear q0
      generalize putV (fun _ => 0) p k = kc at *
      generalize putV (fun _ => 0) p n = nc at *
      have hc : Calls Tryd.prog 9 #[.pointer (some ⟨w.heap.size, 0, none⟩), vls kc nc] W6.drew fun e w' => e = .returned (sty V) ∧ Below W6.drew.heap.size W6.drew w' := by
        rw [← HV.out]
        exact HO.out _ _ _ s _ bw kU.par
      have HeldS : ValAt W6.drew B kc nc ∧ StyAt W6.drew S V := ⟨kV, kS⟩
      clear HO HV kU
      refine Rg.wpD_begin [0, 1, 2] (fun X => ValAt X B kc nc ∧ StyAt X S V) (by kernel_rfl) ?_
      refine Rg.wpD_load 0 (v := ?_) (by simp only [List.getElem?_toArray, List.getElem?_cons_zero]; rfl) (by kernel_rfl) (by kernel_rfl) (by intro _ _ _ h; exact h) HeldS (by rfl) (fun wz hz => ?_) ?_
      rotate_left
      · have hcv := hz.1.cells
        first | (go_simp; done) | (go_simp; with_reducible rfl)
      simp only [Act.put, List.setIfInBounds_toArray, List.set_cons_succ, List.set_cons_zero]
      refine Rg.wpD_load 2 (v := ?_) (by simp only [List.getElem?_toArray, List.getElem?_cons_succ, List.getElem?_cons_zero]; rfl) (by kernel_rfl) (by kernel_rfl) (by intro _ _ _ h; exact h) HeldS (by rfl) (fun wz hz => ?_) ?_
      rotate_left
      · have hcv := hz.2.cells
        first | (go_simp; done) | (go_simp; with_reducible rfl)
      simp only [Act.put, List.setIfInBounds_toArray, List.set_cons_succ, List.set_cons_zero]
      clear HeldS
      refine Rg.wpD_do 1 (by kernel_rfl) (by simp only [List.getElem?_toArray, List.getElem?_cons_succ, List.getElem?_cons_zero]; rfl) (fun K hK => ?_)
      go_simp
      go_at_call 9
      refine Calls.mono hc ?_
      clear hc
      rintro e X ⟨rfl, b6⟩
      replace bw := below_next bw b6
      refine hK _ _ (fun _ => ⟨kV.next b6, kS.next b6⟩) ?_
      clear hK K kV kS b6
      have hq := eq_sty V
      refine Rg.wpD_pure 3 (v := ?_) (by simp only [List.getElem?_toArray, List.getElem?_cons_succ, List.getElem?_cons_zero]; rfl) (by kernel_rfl) (by kernel_rfl) (by intro _ _ _ h; exact h) (by rfl) (fun wz => ?_) ?_
      rotate_left
      · first | (go_simp; done) | (go_simp; with_reducible rfl)
      simp only [Act.put, List.setIfInBounds_toArray, List.set_cons_succ, List.set_cons_zero]
      clear hq
      refine Rg.wpD_do 4 (by kernel_rfl) (by simp only [List.getElem?_toArray, List.getElem?_cons_succ, List.getElem?_cons_zero]; rfl) (fun K hK => ?_)
      go_simp
      refine hK _ _ (fun h => absurd h (by decide)) ?_
      clear hK K
      refine Rg.wpD_done (by kernel_rfl) ?_
      go_wp2
      go_ret
      exact ⟨rfl, bw⟩

theorem computeKinds_met (os : Os) : laidMet Tryd.prog Rows.computeKindsRow.laid ((laidIn (World.holding Tryd.prog os ⟨#[], #[], []⟩)).forCall (fun _ _ => 0) ⟨#[], #[.agg #[.int .i64 0, .int .i64 0, .int .i64 0, .int .i64 0, .int .i64 0, .int .i64 0, .int .i64 0, .int .i64 0], .int .i64 0, .agg #[.int .i64 0, .int .i64 0]], []⟩).memory :=
  laidMet_of_run' 8 (by kernel_rfl) (by kernel_rfl)
theorem computeKinds_reads (os : Os) {H : Type} (enc : TypeId × Value → H) : ∃ places, DataW.whole enc Tryd.prog ((laidIn (World.holding Tryd.prog os ⟨#[], #[], []⟩)).forCall (fun _ _ => 0) ⟨#[], #[.agg #[.int .i64 0, .int .i64 0, .int .i64 0, .int .i64 0, .int .i64 0, .int .i64 0, .int .i64 0, .int .i64 0], .int .i64 0, .agg #[.int .i64 0, .int .i64 0]], []⟩).memory Tryd.f7.params.toList Rows.computeKindsSpec.vars false (#[.agg #[.int .i64 0, .int .i64 0, .int .i64 0, .int .i64 0, .int .i64 0, .int .i64 0, .int .i64 0, .int .i64 0], .int .i64 0, .agg #[.int .i64 0, .int .i64 0]] : Array Value).toList 8 = some ([.agg [.lit (.int .i64 0), .lit (.int .i64 0), .lit (.int .i64 0), .lit (.int .i64 0), .lit (.int .i64 0), .lit (.int .i64 0), .lit (.int .i64 0), .lit (.int .i64 0)], .lit (.int .i64 0), .agg [.lit (.int .i64 0), .lit (.int .i64 0)]], [], places) :=
  ⟨[], by kernel_rfl⟩

set_option maxRecDepth 100000 in
theorem computeKinds_lifted (os : Os) (started : os.Started) (H : Type) (enc : TypeId × Value → H) (F : Stop.Interp) :
    ReturnsInHanded {} Tryd.checked os 7 .any ((OpenSpec.ofChange Rows.computeKindsSpec).preRow enc Tryd.prog Tryd.f7 Rows.computeKindsRow.domain false Rows.computeKindsRow.laid) (((OpenSpec.ofChange Rows.computeKindsSpec).at F).post enc Tryd.prog Tryd.f7 false true false false) := by
  obtain ⟨places, hx⟩ := computeKinds_reads os enc
  refine returnsInHanded_of_row (C := Tryd.checked) (s := OpenSpec.ofChange Rows.computeKindsSpec) ownNone started (by kernel_rfl) Tryd.func7
    (witness_row_at (enc := enc) (C := Tryd.checked) false (laidIn (World.holding Tryd.prog os ⟨#[], #[], []⟩)) #[.agg #[.int .i64 0, .int .i64 0, .int .i64 0, .int .i64 0, .int .i64 0, .int .i64 0, .int .i64 0, .int .i64 0], .int .i64 0, .agg #[.int .i64 0, .int .i64 0]] rfl (by kernel_rfl) (by kernel_rfl) (by kernel_rfl)
      (OpenSpec.preRow_of_cond 8 hx (by kernel_rfl) (fun k hk => by cases hk) (by kernel_rfl) (computeKinds_met os))) ?_
  intro W base args ds gs before hval hW _ _ _ hL hS _
  have hW' := hW
  obtain ⟨p, q, hA0, hV, rfl, hfz, hnd⟩ := hW
  have hA : DataW.TrodAll enc Tryd.prog W 0 (fun _ => true) true Tryd.f7.params.toList args.toList ds p := hA0
  rw [Tryd.params7] at hA hval
  obtain ⟨v0, vs0, d0, ds0, p0, q0, hargs, rfl, rfl, h0, r0⟩ := trodAll_cons hA
  obtain ⟨v1, vs1, d1, ds1, p1, q1, rfl, rfl, rfl, h1, r1⟩ := trodAll_cons r0
  obtain ⟨v2, vs2, d2, ds2, p2, q2, rfl, rfl, rfl, h2, r2⟩ := trodAll_cons r1
  obtain ⟨rfl, rfl, rfl⟩ := trodAll_nil r2
  obtain rfl : args = #[v0, v1, v2] := by cases args; simp_all
  obtain ⟨rfl, rfl⟩ := trodVars_none hV
  have k0 := h0
  have lt0 : ∀ x ∈ p0, x.block < W.heap.size := by obtain ⟨m, hm⟩ := k0; exact DataW.trod_lt m _ _ _ hm
  obtain ⟨z0, hz0⟩ := style_of_reads k0 (hval 0 23 v0 rfl rfl)
  subst hz0
  obtain ⟨a1, rfl, rfl, rfl, w1⟩ := open_int Tryd.underlying3 (hval 1 3 v1 rfl rfl) h1
  have k2 := h2
  have lt2 : ∀ x ∈ p2, x.block < W.heap.size := by obtain ⟨m, hm⟩ := k2; exact DataW.trod_lt m _ _ _ hm
  obtain ⟨z2, hz2⟩ := value_of_reads k2 (hval 2 25 v2 rfl rfl)
  subst hz2
  clear hA0
  refine (computeKinds_walk W (tabs_of_laid hL hS) z0 a1 w1 z2).mono fun e W' ⟨he, bel⟩ => ?_
  subst he
  exact ⟨_, rfl, _, _, _, [], _, [], hW', trodAll_mk1 (shut_bool Tryd.underlying4 _), (trodAll_cons_mk (Below.trod laidOut (by kernel_rfl) (of_decide_eq_true (by kernel_rfl)) k0 bel lt0) (trodAll_cons_mk (shut_int Tryd.underlying3 w1) (trodAll_cons_mk (Below.trod laidOut (by kernel_rfl) (of_decide_eq_true (by kernel_rfl)) k2 bel lt2) trodAll_mk0))), rfl, bel.frame _, fun h => by cases h⟩

theorem computeKinds_said : Rows.ComputeKindsSaid :=
  OpenClaim.holds_of_cond 7 Tryd.f7 rfl rfl rfl rfl rfl rfl rfl ⟨rfl, rfl, rfl, rfl, rfl⟩ rfl rfl rfl rfl rfl (by kernel_rfl) Tryd.func7 (by kernel_rfl)
    (of_decide_eq_true (by kernel_rfl)) (by unfold Func.isWrapper; first | (rw [if_pos (by decide +kernel)]; kernel_rfl) | (rw [if_neg (by decide +kernel)]; exact ⟨rfl, rfl⟩))
    (fun os started H enc _ F => by rw [OpenClaim.pre_eq_preRow]; exact computeKinds_lifted os started H enc F)

theorem computeKinds_plain (f : FuncId) (fn : Func) (hf : Tryd.pinned.checked.prog.funcNamed "tapestrier/tapestrierlaw16.ComputeKinds" = some f) (hfn : Tryd.pinned.checked.prog.funcs[f]? = some fn) :
    false = Tryd.pinned.checked.prog.looks [] ∧ ∀ (j : Nat) t, fn.params[j]? = some t → Tryd.pinned.checked.prog.wantsStandIn t = false := by
  obtain rfl : f = 7 := Option.some.inj ((show Tryd.prog.funcNamed "tapestrier/tapestrierlaw16.ComputeKinds" = some 7 by kernel_rfl).symm.trans hf) |>.symm
  obtain rfl : fn = Tryd.f7 := (Option.some.inj (Tryd.func7.symm.trans hfn)).symm
  refine ⟨by kernel_rfl, fun j t ht => ?_⟩
  rw [Tryd.params7] at ht
  have hm : t ∈ [23, 3, 25] := by simpa using Array.mem_of_getElem? ht
  have hall : ([23, 3, 25].all fun u => !Tryd.prog.wantsStandIn u) = true := by kernel_rfl
  exact (show Tryd.prog.wantsStandIn t = false by simpa using List.all_eq_true.1 hall t hm)

theorem computeKinds_card : Rows.ComputeKindsCardSaid :=
  Claim7.holds_tied_plain_at .later [] _ _ _ _ computeKinds_said (fun _ h => by cases h) (by kernel_rfl) (fun _ h => by cases h) computeKinds_row_tie rfl ⟨rfl, rfl⟩ (by kernel_rfl) rfl computeKinds_plain (by kernel_rfl)
#print axioms computeKinds_card

end Go.Proofs.YtacdgfjmmomkpaaDoor
