/- For every style above, all values of two elements and every property: the law tapestrierlaw16.ComputeApart returns true and leaves its arguments as they were; no condition (its card: the table of properties read off the program's text). -/
import Derived.Test.YtacdgfjmmomkpaaDoorCpAlive
namespace Go.Proofs.YtacdgfjmmomkpaaDoor
open Go Go.ChangeShapes Go.WideShapes Go.ChangeAt Go.RowKit Vl Cp

theorem apart_plain (ka na kb nb s : Nat → Int) (p : Nat) : ofV ka na s p = ofV (putV (putV kb p (ka p)) 1 (ka 1)) (putV (putV nb p (na p)) 1 (na 1)) s p ∧ ofV ka na s 1 = ofV (putV (putV kb p (ka p)) 1 (ka 1)) (putV (putV nb p (na p)) 1 (na 1)) s 1 := by
  have a1 : putV (putV kb p (ka p)) 1 (ka 1) 1 = ka 1 := if_pos rfl
  have b1 : putV (putV nb p (na p)) 1 (na 1) 1 = na 1 := if_pos rfl
  have ap : putV (putV kb p (ka p)) 1 (ka 1) p = ka p := by
    unfold putV
    by_cases e : p = 1
    · subst e; simp
    · simp [e]
  have bp : putV (putV nb p (na p)) 1 (na 1) p = na p := by
    unfold putV
    by_cases e : p = 1
    · subst e; simp
    · simp [e]
  constructor
  · unfold ofV
    rw [a1, b1, ap, bp]
  · unfold ofV
    rw [a1, b1]

set_option maxRecDepth 100000 in
set_option maxHeartbeats 1000000 in
theorem computeApart_walk (w : World) (hP : PropsAt w.heap.size w) (s : Nat → Int) (za zb : (Nat → Int) × (Nat → Int)) (prop : Int) (_wp : (Lit.int .i64 prop).wf = true) :
    Calls Tryd.prog 6 #[sty s, vls za.1 za.2, vls zb.1 zb.2, .int .i64 prop] w fun e w' => e = .returned (.bool true) ∧ Below w.heap.size w w' := by
  obtain ⟨ka, na⟩ := za
  obtain ⟨kb, nb⟩ := zb
  simp only
  have HA : Hid (∀ X, Below w.heap.size w X → Calls Tryd.prog 8 #[] X fun e w' => e = .returned (.bool true) ∧ Below X.heap.size X w') := fun X hb => alive_any X (hP.next hb)
  have HO : Hid (∀ (v : Value) (k n u : Nat → Int) (X : World), Below w.heap.size w X → ParAt X v u → Calls Tryd.prog 9 #[v, vls k n] X fun e w' => e = .returned (sty (ofV k n u)) ∧ Below X.heap.size X w') := fun v k n u X hb hv => of_any v k n u X (hP.next hb) hv
  clear hP
  have b0 : Below w.heap.size w (((w.alloc (.cells #[.int .i64 (s 0), .int .i64 (s 1), .int .i64 (s 2), .int .i64 (s 3), .int .i64 (s 4), .int .i64 (s 5), .int .i64 (s 6), .int .i64 (s 7)] 23)).alloc (.cells #[.int .i64 (ka 0), .int .i64 (na 0), .int .i64 (ka 1), .int .i64 (na 1), .int .i64 (ka 2), .int .i64 (na 2), .int .i64 (ka 3), .int .i64 (na 3), .int .i64 (ka 4), .int .i64 (na 4), .int .i64 (ka 5), .int .i64 (na 5), .int .i64 (ka 6), .int .i64 (na 6), .int .i64 (ka 7), .int .i64 (na 7)] 26)).alloc (.cells #[.int .i64 (kb 0), .int .i64 (nb 0), .int .i64 (kb 1), .int .i64 (nb 1), .int .i64 (kb 2), .int .i64 (nb 2), .int .i64 (kb 3), .int .i64 (nb 3), .int .i64 (kb 4), .int .i64 (nb 4), .int .i64 (kb 5), .int .i64 (nb 5), .int .i64 (kb 6), .int .i64 (nb 6), .int .i64 (kb 7), .int .i64 (nb 7)] 26)) := (((Below.refl _ w).alloc (Nat.le_refl _) _).alloc (by rw [World.size_alloc]; omega) _).alloc (by rw [World.size_alloc, World.size_alloc]; omega) _
  have kU : StyAt (((w.alloc (.cells #[.int .i64 (s 0), .int .i64 (s 1), .int .i64 (s 2), .int .i64 (s 3), .int .i64 (s 4), .int .i64 (s 5), .int .i64 (s 6), .int .i64 (s 7)] 23)).alloc (.cells #[.int .i64 (ka 0), .int .i64 (na 0), .int .i64 (ka 1), .int .i64 (na 1), .int .i64 (ka 2), .int .i64 (na 2), .int .i64 (ka 3), .int .i64 (na 3), .int .i64 (ka 4), .int .i64 (na 4), .int .i64 (ka 5), .int .i64 (na 5), .int .i64 (ka 6), .int .i64 (na 6), .int .i64 (ka 7), .int .i64 (na 7)] 26)).alloc (.cells #[.int .i64 (kb 0), .int .i64 (nb 0), .int .i64 (kb 1), .int .i64 (nb 1), .int .i64 (kb 2), .int .i64 (nb 2), .int .i64 (kb 3), .int .i64 (nb 3), .int .i64 (kb 4), .int .i64 (nb 4), .int .i64 (kb 5), .int .i64 (nb 5), .int .i64 (kb 6), .int .i64 (nb 6), .int .i64 (kb 7), .int .i64 (nb 7)] 26)) w.heap.size s := Blk.kept (Blk.kept (StyAt.new w s) (World.grownBy_alloc _ _ none) (by simp)) (World.grownBy_alloc _ _ none) (by simp)
  have kA : ValAt (((w.alloc (.cells #[.int .i64 (s 0), .int .i64 (s 1), .int .i64 (s 2), .int .i64 (s 3), .int .i64 (s 4), .int .i64 (s 5), .int .i64 (s 6), .int .i64 (s 7)] 23)).alloc (.cells #[.int .i64 (ka 0), .int .i64 (na 0), .int .i64 (ka 1), .int .i64 (na 1), .int .i64 (ka 2), .int .i64 (na 2), .int .i64 (ka 3), .int .i64 (na 3), .int .i64 (ka 4), .int .i64 (na 4), .int .i64 (ka 5), .int .i64 (na 5), .int .i64 (ka 6), .int .i64 (na 6), .int .i64 (ka 7), .int .i64 (na 7)] 26)).alloc (.cells #[.int .i64 (kb 0), .int .i64 (nb 0), .int .i64 (kb 1), .int .i64 (nb 1), .int .i64 (kb 2), .int .i64 (nb 2), .int .i64 (kb 3), .int .i64 (nb 3), .int .i64 (kb 4), .int .i64 (nb 4), .int .i64 (kb 5), .int .i64 (nb 5), .int .i64 (kb 6), .int .i64 (nb 6), .int .i64 (kb 7), .int .i64 (nb 7)] 26)) (w.heap.size + 1) ka na := by
    have h := ValAt.new (w.alloc (.cells (styL s).toArray 23)) ka na
    rw [World.size_alloc] at h
    exact Blk.kept h (World.grownBy_alloc _ _ none) (by simp)
  have kB : ValAt (((w.alloc (.cells #[.int .i64 (s 0), .int .i64 (s 1), .int .i64 (s 2), .int .i64 (s 3), .int .i64 (s 4), .int .i64 (s 5), .int .i64 (s 6), .int .i64 (s 7)] 23)).alloc (.cells #[.int .i64 (ka 0), .int .i64 (na 0), .int .i64 (ka 1), .int .i64 (na 1), .int .i64 (ka 2), .int .i64 (na 2), .int .i64 (ka 3), .int .i64 (na 3), .int .i64 (ka 4), .int .i64 (na 4), .int .i64 (ka 5), .int .i64 (na 5), .int .i64 (ka 6), .int .i64 (na 6), .int .i64 (ka 7), .int .i64 (na 7)] 26)).alloc (.cells #[.int .i64 (kb 0), .int .i64 (nb 0), .int .i64 (kb 1), .int .i64 (nb 1), .int .i64 (kb 2), .int .i64 (nb 2), .int .i64 (kb 3), .int .i64 (nb 3), .int .i64 (kb 4), .int .i64 (nb 4), .int .i64 (kb 5), .int .i64 (nb 5), .int .i64 (kb 6), .int .i64 (nb 6), .int .i64 (kb 7), .int .i64 (nb 7)] 26)) (w.heap.size + 2) kb nb := by
    have h := ValAt.new ((w.alloc (.cells #[.int .i64 (s 0), .int .i64 (s 1), .int .i64 (s 2), .int .i64 (s 3), .int .i64 (s 4), .int .i64 (s 5), .int .i64 (s 6), .int .i64 (s 7)] 23)).alloc (.cells #[.int .i64 (ka 0), .int .i64 (na 0), .int .i64 (ka 1), .int .i64 (na 1), .int .i64 (ka 2), .int .i64 (na 2), .int .i64 (ka 3), .int .i64 (na 3), .int .i64 (ka 4), .int .i64 (na 4), .int .i64 (ka 5), .int .i64 (na 5), .int .i64 (ka 6), .int .i64 (na 6), .int .i64 (ka 7), .int .i64 (na 7)] 26)) kb nb
    rw [World.size_alloc, World.size_alloc] at h
    exact h
  go_enter Tryd.func6, Tryd.ntmps6
  go_upto_region 1 with fail
  generalize ((w.alloc _).alloc _ : World).alloc _ = W at *
  have hc := HA.out W b0
  clear HA
  go_wp2_with fail
  refine hc.mono ?_
  clear hc
  rintro e w1 ⟨rfl, b1⟩
  replace kU := kU.next b1
  replace kA := kA.next b1
  replace kB := kB.next b1
  have bw := below_next b0 b1
  clear b0 b1
  have hBs := kB.lt
  by_cases p0 : prop < 0
  · clear HO kU kA kB
    go_wp2
    go_ret
    exact ⟨rfl, bw⟩
  by_cases p1 : 7 < prop
  · clear HO kU kA kB
    go_wp2
    go_ret
    exact ⟨rfl, bw⟩
  obtain ⟨p, rfl⟩ : ∃ p : Nat, prop = p := ⟨prop.toNat, by omega⟩
  have hp : p < 8 := by omega
  go_upto_region 4 with fail
  clear p0 p1
  have b3 : Below w1.heap.size w1 (w1.alloc (.cells #[.int .i64 (kb 0), .int .i64 (nb 0), .int .i64 (kb 1), .int .i64 (nb 1), .int .i64 (kb 2), .int .i64 (nb 2), .int .i64 (kb 3), .int .i64 (nb 3), .int .i64 (kb 4), .int .i64 (nb 4), .int .i64 (kb 5), .int .i64 (nb 5), .int .i64 (kb 6), .int .i64 (nb 6), .int .i64 (kb 7), .int .i64 (nb 7)] 26)) := (Below.refl _ _).alloc (Nat.le_refl _) _
  have kV : ValAt (w1.alloc (.cells #[.int .i64 (kb 0), .int .i64 (nb 0), .int .i64 (kb 1), .int .i64 (nb 1), .int .i64 (kb 2), .int .i64 (nb 2), .int .i64 (kb 3), .int .i64 (nb 3), .int .i64 (kb 4), .int .i64 (nb 4), .int .i64 (kb 5), .int .i64 (nb 5), .int .i64 (kb 6), .int .i64 (nb 6), .int .i64 (kb 7), .int .i64 (nb 7)] 26)) w1.heap.size kb nb := ValAt.new w1 kb nb
  obtain ⟨c0, c1, c2, c3, c4, c5, c6, c7, c8, c9, c10, c11, c12, c13, c14, c15⟩ := kB.cells
  replace kU := kU.next b3
  replace kA := kA.next b3
  replace bw := below_next bw b3
  clear b3 kB
  go_upto_region 5 with fail
  clear c0 c1 c2 c3 c4 c5 c6 c7 c8 c9 c10 c11 c12 c13 c14 c15
  generalize w1.alloc _ = W1 at *
  generalize w1.heap.size = B at *
  have hki : (p : Int) < 8 := by omega
  obtain ⟨a1, a2⟩ := kA.cell hp
  obtain ⟨v1, v2⟩ := kV.cell hp
  have f2 := kV.thaw (p * 2)
  have f3 := kV.thaw (p * 2 + 1)
  have kVN := kV.put2 hp (ka p) (na p)
  have kUN := kU.set2 (by omega : w.heap.size ≠ B) (p * 2) (p * 2 + 1) (.int .i64 (ka p)) (.int .i64 (na p))
  have kAN := kA.set2 (by omega : w.heap.size + 1 ≠ B) (p * 2) (p * 2 + 1) (.int .i64 (ka p)) (.int .i64 (na p))
  have bwN := below_set2 bw (by omega : w.heap.size ≤ B) (p * 2) (p * 2 + 1) (.int .i64 (ka p)) (.int .i64 (na p))
  clear kV kU kA bw
  go_upto_region 6 with fail
  clear v1 v2 f2 f3 a1 a2
  generalize (W1.setCell _ _).setCell _ _ = W2 at *
  have kV := kVN
  have kU := kUN
  have kA := kAN
  have bw := bwN
  clear kVN kUN kAN bwN
  obtain ⟨a1, a2⟩ := kA.cell (p := 1) (by decide)
  replace a1 : W2.cell? ⟨w.heap.size + 1, 2, none⟩ = some (.int .i64 (ka 1)) := a1
  replace a2 : W2.cell? ⟨w.heap.size + 1, 3, none⟩ = some (.int .i64 (na 1)) := a2
  obtain ⟨v1, v2⟩ := kV.cell (p := 1) (by decide)
  replace v1 : W2.cell? ⟨B, 2, none⟩ = some (.int .i64 (putV kb p (ka p) 1)) := v1
  replace v2 : W2.cell? ⟨B, 3, none⟩ = some (.int .i64 (putV nb p (na p) 1)) := v2
  have f2 := kV.thaw 2
  have f3 := kV.thaw 3
  have kVN : ValAt ((W2.setCell ⟨B, 2, none⟩ (.int .i64 (ka 1))).setCell ⟨B, 3, none⟩ (.int .i64 (na 1))) B (putV (putV kb p (ka p)) 1 (ka 1)) (putV (putV nb p (na p)) 1 (na 1)) := kV.put2 (p := 1) (by decide) (ka 1) (na 1)
  have kUN : StyAt ((W2.setCell ⟨B, 2, none⟩ (.int .i64 (ka 1))).setCell ⟨B, 3, none⟩ (.int .i64 (na 1))) w.heap.size s := kU.set2 (by omega) _ _ _ _
  have kAN : ValAt ((W2.setCell ⟨B, 2, none⟩ (.int .i64 (ka 1))).setCell ⟨B, 3, none⟩ (.int .i64 (na 1))) (w.heap.size + 1) ka na := kA.set2 (by omega) _ _ _ _
  have bwN : Below w.heap.size w ((W2.setCell ⟨B, 2, none⟩ (.int .i64 (ka 1))).setCell ⟨B, 3, none⟩ (.int .i64 (na 1))) := below_set2 bw (by omega) _ _ _ _
  clear kV kU kA bw
  go_upto_region 7 with fail
  clear v1 v2 f2 f3 a1 a2
  generalize (W2.setCell _ _).setCell _ _ = W3 at *
  have kV := kVN
  have kU := kUN
  have kA := kAN
  have bw := bwN
  clear kVN kUN kAN bwN
  have HV : Hid _ := apart_plain ka na kb nb s p
  obtain ⟨V, hV⟩ : ∃ V, ofV ka na s = V := ⟨_, rfl⟩
  obtain ⟨V2, hV2⟩ : ∃ V, ofV (putV (putV kb p (ka p)) 1 (ka 1)) (putV (putV nb p (na p)) 1 (na 1)) s = V := ⟨_, rfl⟩
  rw [hV, hV2] at HV
  have hc : Calls Tryd.prog 9 #[.pointer (some ⟨w.heap.size, 0, none⟩), vls ka na] W3 fun e w' => e = .returned (sty V) ∧ Below W3.heap.size W3 w' := by
    rw [← hV]
    exact HO.out _ _ _ s W3 bw kU.par
  obtain ⟨c0, c1, c2, c3, c4, c5, c6, c7, c8, c9, c10, c11, c12, c13, c14, c15⟩ := kA.cells
  go_wp2_with fail
  refine hc.mono ?_
  clear hc c0 c1 c2 c3 c4 c5 c6 c7 c8 c9 c10 c11 c12 c13 c14 c15
  rintro e w4 ⟨rfl, b2⟩
  have b3 : Below w4.heap.size w4 (w4.alloc (.cells (styL V).toArray 23)) := (Below.refl _ _).alloc (Nat.le_refl _) _
  have kS := StyAt.new w4 V
  simp only [styL] at kS b3
  replace kU := kU.next b2
  have lkUS := kU.lt
  replace kU := kU.next b3
  replace kV := kV.next b2
  have lkVS := kV.lt
  replace kV := kV.next b3
  replace bw := below_next (below_next bw b2) b3
  clear b2 b3
  go_upto_region 8 with fail
  generalize w4.alloc _ = W4 at *
  generalize w4.heap.size = S at *
  clear hV kA
  generalize (putV (putV kb p (ka p)) 1 (ka 1)) = kc at *
  generalize (putV (putV nb p (na p)) 1 (na 1)) = nc at *
  have hc : Calls Tryd.prog 9 #[.pointer (some ⟨w.heap.size, 0, none⟩), vls kc nc] W4 fun e w' => e = .returned (sty V2) ∧ Below W4.heap.size W4 w' := by
    rw [← hV2]
    exact HO.out _ _ _ s W4 bw kU.par
  obtain ⟨c0, c1, c2, c3, c4, c5, c6, c7, c8, c9, c10, c11, c12, c13, c14, c15⟩ := kV.cells
  go_wp2_with fail
  refine hc.mono ?_
  clear hc c0 c1 c2 c3 c4 c5 c6 c7 c8 c9 c10 c11 c12 c13 c14 c15
  rintro e w5 ⟨rfl, b2⟩
  have b3 : Below w5.heap.size w5 (w5.alloc (.cells (styL V2).toArray 23)) := (Below.refl _ _).alloc (Nat.le_refl _) _
  have kS2 := StyAt.new w5 V2
  simp only [styL] at kS2 b3
  replace kS := kS.next b2
  have lkSS2 := kS.lt
  replace kS := kS.next b3
  replace bw := below_next (below_next bw b2) b3
  clear b2 b3
  go_upto_region 9 with fail
  generalize w5.alloc _ = W5 at *
  generalize w5.heap.size = S2 at *
  clear hV2 HO kU kV
  obtain ⟨e1, e2⟩ := HV.out
  clear HV
  have q0 : Below W5.heap.size W5 W5.drew := below_drew (Below.refl _ _)
  replace kS := kS.next q0
  replace kS2 := kS2.next q0
  replace bw := below_next bw q0
  clear q0
  have HeldS : W5.drew.cell? ⟨S, p, none⟩ = some (.int .i64 (V p)) ∧ W5.drew.cell? ⟨S, 1, none⟩ = some (.int .i64 (V 1)) ∧ W5.drew.cell? ⟨S2, p, none⟩ = some (.int .i64 (V p)) ∧ W5.drew.cell? ⟨S2, 1, none⟩ = some (.int .i64 (V 1)) := by
    refine ⟨(kS.cell hp).1, (kS.cell (p := 1) (by decide)).1, ?_, ?_⟩
    · rw [e1]
      exact (kS2.cell hp).1
    · rw [e2]
      exact (kS2.cell (p := 1) (by decide)).1
  clear kS kS2 e1 e2
  refine Rg.wpD_begin [0, 1, 2, 3, 4, 5, 6, 7, 8, 9, 10, 11, 12, 13] (fun X => X.cell? ⟨S, p, none⟩ = some (.int .i64 (V p)) ∧ X.cell? ⟨S, 1, none⟩ = some (.int .i64 (V 1)) ∧ X.cell? ⟨S2, p, none⟩ = some (.int .i64 (V p)) ∧ X.cell? ⟨S2, 1, none⟩ = some (.int .i64 (V 1))) (by kernel_rfl) ?_
  refine Rg.wpD_load 0 (v := ?_) (by simp only [List.getElem?_toArray, List.getElem?_cons_zero]; rfl) (by kernel_rfl) (by kernel_rfl) (by intro _ _ _ h; exact h) HeldS (by rfl) (fun wz hz => ?_) ?_
  rotate_left
  · first | (go_simp; done) | (go_simp; with_reducible rfl)
  simp only [Act.put, List.setIfInBounds_toArray, List.set_cons_succ, List.set_cons_zero]
  refine Rg.wpD_load 1 (v := ?_) (by simp only [List.getElem?_toArray, List.getElem?_cons_succ, List.getElem?_cons_zero]; rfl) (by kernel_rfl) (by kernel_rfl) (by intro _ _ _ h; exact h) HeldS (by rfl) (fun wz hz => ?_) ?_
  rotate_left
  · first | (go_simp; done) | (go_simp; with_reducible rfl)
  simp only [Act.put, List.setIfInBounds_toArray, List.set_cons_succ, List.set_cons_zero]
  refine Rg.wpD_load 2 (v := ?_) (by simp only [List.getElem?_toArray, List.getElem?_cons_succ, List.getElem?_cons_zero]; rfl) (by kernel_rfl) (by kernel_rfl) (by intro _ _ _ h; exact h) HeldS (by rfl) (fun wz hz => ?_) ?_
  rotate_left
  · first | (go_simp; done) | (go_simp; with_reducible rfl)
  simp only [Act.put, List.setIfInBounds_toArray, List.set_cons_succ, List.set_cons_zero]
  refine Rg.wpD_load 3 (v := ?_) (by simp only [List.getElem?_toArray, List.getElem?_cons_succ, List.getElem?_cons_zero]; rfl) (by kernel_rfl) (by kernel_rfl) (by intro _ _ _ h; exact h) HeldS (by rfl) (fun wz hz => ?_) ?_
  rotate_left
  · first | (go_simp; done) | (go_simp; with_reducible rfl)
  simp only [Act.put, List.setIfInBounds_toArray, List.set_cons_succ, List.set_cons_zero]
  refine Rg.wpD_load 4 (v := ?_) (by simp only [List.getElem?_toArray, List.getElem?_cons_succ, List.getElem?_cons_zero]; rfl) (by kernel_rfl) (by kernel_rfl) (by intro _ _ _ h; exact h) HeldS (by rfl) (fun wz hz => ?_) ?_
  rotate_left
  · first | (go_simp; done) | (go_simp; with_reducible rfl)
  simp only [Act.put, List.setIfInBounds_toArray, List.set_cons_succ, List.set_cons_zero]
  refine Rg.wpD_load 5 (v := ?_) (by simp only [List.getElem?_toArray, List.getElem?_cons_succ, List.getElem?_cons_zero]; rfl) (by kernel_rfl) (by kernel_rfl) (by intro _ _ _ h; exact h) HeldS (by rfl) (fun wz hz => ?_) ?_
  rotate_left
  · first | (go_simp; done) | (go_simp; with_reducible rfl)
  simp only [Act.put, List.setIfInBounds_toArray, List.set_cons_succ, List.set_cons_zero]
  refine Rg.wpD_load 6 (v := ?_) (by simp only [List.getElem?_toArray, List.getElem?_cons_succ, List.getElem?_cons_zero]; rfl) (by kernel_rfl) (by kernel_rfl) (by intro _ _ _ h; exact h) HeldS (by rfl) (fun wz hz => ?_) ?_
  rotate_left
  · first | (go_simp; done) | (go_simp; with_reducible rfl)
  simp only [Act.put, List.setIfInBounds_toArray, List.set_cons_succ, List.set_cons_zero]
  refine Rg.wpD_load 7 (v := ?_) (by simp only [List.getElem?_toArray, List.getElem?_cons_succ, List.getElem?_cons_zero]; rfl) (by kernel_rfl) (by kernel_rfl) (by intro _ _ _ h; exact h) HeldS (by rfl) (fun wz hz => ?_) ?_
  rotate_left
  · first | (go_simp; done) | (go_simp; with_reducible rfl)
  simp only [Act.put, List.setIfInBounds_toArray, List.set_cons_succ, List.set_cons_zero]
  refine Rg.wpD_load 8 (v := ?_) (by simp only [List.getElem?_toArray, List.getElem?_cons_succ, List.getElem?_cons_zero]; rfl) (by kernel_rfl) (by kernel_rfl) (by intro _ _ _ h; exact h) HeldS (by rfl) (fun wz hz => ?_) ?_
  rotate_left
  · first | (go_simp; done) | (go_simp; with_reducible rfl)
  simp only [Act.put, List.setIfInBounds_toArray, List.set_cons_succ, List.set_cons_zero]
  refine Rg.wpD_load 9 (v := ?_) (by simp only [List.getElem?_toArray, List.getElem?_cons_succ, List.getElem?_cons_zero]; rfl) (by kernel_rfl) (by kernel_rfl) (by intro _ _ _ h; exact h) HeldS (by rfl) (fun wz hz => ?_) ?_
  rotate_left
  · first | (go_simp; done) | (go_simp; with_reducible rfl)
  simp only [Act.put, List.setIfInBounds_toArray, List.set_cons_succ, List.set_cons_zero]
  refine Rg.wpD_load 10 (v := ?_) (by simp only [List.getElem?_toArray, List.getElem?_cons_succ, List.getElem?_cons_zero]; rfl) (by kernel_rfl) (by kernel_rfl) (by intro _ _ _ h; exact h) HeldS (by rfl) (fun wz hz => ?_) ?_
  rotate_left
  · first | (go_simp; done) | (go_simp; with_reducible rfl)
  simp only [Act.put, List.setIfInBounds_toArray, List.set_cons_succ, List.set_cons_zero]
  refine Rg.wpD_load 11 (v := ?_) (by simp only [List.getElem?_toArray, List.getElem?_cons_succ, List.getElem?_cons_zero]; rfl) (by kernel_rfl) (by kernel_rfl) (by intro _ _ _ h; exact h) HeldS (by rfl) (fun wz hz => ?_) ?_
  rotate_left
  · first | (go_simp; done) | (go_simp; with_reducible rfl)
  simp only [Act.put, List.setIfInBounds_toArray, List.set_cons_succ, List.set_cons_zero]
  refine Rg.wpD_load 12 (v := ?_) (by simp only [List.getElem?_toArray, List.getElem?_cons_succ, List.getElem?_cons_zero]; rfl) (by kernel_rfl) (by kernel_rfl) (by intro _ _ _ h; exact h) HeldS (by rfl) (fun wz hz => ?_) ?_
  rotate_left
  · first | (go_simp; done) | (go_simp; with_reducible rfl)
  simp only [Act.put, List.setIfInBounds_toArray, List.set_cons_succ, List.set_cons_zero]
  refine Rg.wpD_load 13 (v := ?_) (by simp only [List.getElem?_toArray, List.getElem?_cons_succ, List.getElem?_cons_zero]; rfl) (by kernel_rfl) (by kernel_rfl) (by intro _ _ _ h; exact h) HeldS (by rfl) (fun wz hz => ?_) ?_
  rotate_left
  · first | (go_simp; done) | (go_simp; with_reducible rfl)
  simp only [Act.put, List.setIfInBounds_toArray, List.set_cons_succ, List.set_cons_zero]
  refine Rg.wpD_do 14 (by kernel_rfl) (by simp only [List.getElem?_toArray, List.getElem?_cons_succ, List.getElem?_cons_zero]; rfl) (fun K hK => ?_)
  go_simp
  refine hK _ _ (fun h => absurd h (by decide)) ?_
  clear hK K
  refine Rg.wpD_done (by kernel_rfl) ?_
  go_wp2
  go_ret
  exact ⟨rfl, bw⟩

theorem computeApart_met (os : Os) : laidMet Tryd.prog Rows.computeApartRow.laid ((laidIn (World.holding Tryd.prog os ⟨#[], #[], []⟩)).forCall (fun _ _ => 0) ⟨#[], #[.agg #[.int .i64 0, .int .i64 0, .int .i64 0, .int .i64 0, .int .i64 0, .int .i64 0, .int .i64 0, .int .i64 0], .agg #[.int .i64 0, .int .i64 0, .int .i64 0, .int .i64 0, .int .i64 0, .int .i64 0, .int .i64 0, .int .i64 0, .int .i64 0, .int .i64 0, .int .i64 0, .int .i64 0, .int .i64 0, .int .i64 0, .int .i64 0, .int .i64 0], .agg #[.int .i64 0, .int .i64 0, .int .i64 0, .int .i64 0, .int .i64 0, .int .i64 0, .int .i64 0, .int .i64 0, .int .i64 0, .int .i64 0, .int .i64 0, .int .i64 0, .int .i64 0, .int .i64 0, .int .i64 0, .int .i64 0], .int .i64 0], []⟩).memory :=
  laidMet_of_run' 8 (by kernel_rfl) (by kernel_rfl)
theorem computeApart_reads (os : Os) {H : Type} (enc : TypeId × Value → H) : ∃ places, DataW.whole enc Tryd.prog ((laidIn (World.holding Tryd.prog os ⟨#[], #[], []⟩)).forCall (fun _ _ => 0) ⟨#[], #[.agg #[.int .i64 0, .int .i64 0, .int .i64 0, .int .i64 0, .int .i64 0, .int .i64 0, .int .i64 0, .int .i64 0], .agg #[.int .i64 0, .int .i64 0, .int .i64 0, .int .i64 0, .int .i64 0, .int .i64 0, .int .i64 0, .int .i64 0, .int .i64 0, .int .i64 0, .int .i64 0, .int .i64 0, .int .i64 0, .int .i64 0, .int .i64 0, .int .i64 0], .agg #[.int .i64 0, .int .i64 0, .int .i64 0, .int .i64 0, .int .i64 0, .int .i64 0, .int .i64 0, .int .i64 0, .int .i64 0, .int .i64 0, .int .i64 0, .int .i64 0, .int .i64 0, .int .i64 0, .int .i64 0, .int .i64 0], .int .i64 0], []⟩).memory Tryd.f6.params.toList Rows.computeApartSpec.vars false (#[.agg #[.int .i64 0, .int .i64 0, .int .i64 0, .int .i64 0, .int .i64 0, .int .i64 0, .int .i64 0, .int .i64 0], .agg #[.int .i64 0, .int .i64 0, .int .i64 0, .int .i64 0, .int .i64 0, .int .i64 0, .int .i64 0, .int .i64 0, .int .i64 0, .int .i64 0, .int .i64 0, .int .i64 0, .int .i64 0, .int .i64 0, .int .i64 0, .int .i64 0], .agg #[.int .i64 0, .int .i64 0, .int .i64 0, .int .i64 0, .int .i64 0, .int .i64 0, .int .i64 0, .int .i64 0, .int .i64 0, .int .i64 0, .int .i64 0, .int .i64 0, .int .i64 0, .int .i64 0, .int .i64 0, .int .i64 0], .int .i64 0] : Array Value).toList 8 = some ([.agg [.lit (.int .i64 0), .lit (.int .i64 0), .lit (.int .i64 0), .lit (.int .i64 0), .lit (.int .i64 0), .lit (.int .i64 0), .lit (.int .i64 0), .lit (.int .i64 0)], .agg [.agg [.lit (.int .i64 0), .lit (.int .i64 0)], .agg [.lit (.int .i64 0), .lit (.int .i64 0)], .agg [.lit (.int .i64 0), .lit (.int .i64 0)], .agg [.lit (.int .i64 0), .lit (.int .i64 0)], .agg [.lit (.int .i64 0), .lit (.int .i64 0)], .agg [.lit (.int .i64 0), .lit (.int .i64 0)], .agg [.lit (.int .i64 0), .lit (.int .i64 0)], .agg [.lit (.int .i64 0), .lit (.int .i64 0)]], .agg [.agg [.lit (.int .i64 0), .lit (.int .i64 0)], .agg [.lit (.int .i64 0), .lit (.int .i64 0)], .agg [.lit (.int .i64 0), .lit (.int .i64 0)], .agg [.lit (.int .i64 0), .lit (.int .i64 0)], .agg [.lit (.int .i64 0), .lit (.int .i64 0)], .agg [.lit (.int .i64 0), .lit (.int .i64 0)], .agg [.lit (.int .i64 0), .lit (.int .i64 0)], .agg [.lit (.int .i64 0), .lit (.int .i64 0)]], .lit (.int .i64 0)], [], places) :=
  ⟨[], by kernel_rfl⟩

set_option maxRecDepth 100000 in
theorem computeApart_lifted (os : Os) (started : os.Started) (H : Type) (enc : TypeId × Value → H) (F : Stop.Interp) :
    ReturnsInHanded {} Tryd.checked os 6 .any ((OpenSpec.ofChange Rows.computeApartSpec).preRow enc Tryd.prog Tryd.f6 Rows.computeApartRow.domain false Rows.computeApartRow.laid) (((OpenSpec.ofChange Rows.computeApartSpec).at F).post enc Tryd.prog Tryd.f6 false true false false) := by
  obtain ⟨places, hx⟩ := computeApart_reads os enc
  refine returnsInHanded_of_row (C := Tryd.checked) (s := OpenSpec.ofChange Rows.computeApartSpec) ownNone started (by kernel_rfl) Tryd.func6
    (witness_row_at (enc := enc) (C := Tryd.checked) false (laidIn (World.holding Tryd.prog os ⟨#[], #[], []⟩)) #[.agg #[.int .i64 0, .int .i64 0, .int .i64 0, .int .i64 0, .int .i64 0, .int .i64 0, .int .i64 0, .int .i64 0], .agg #[.int .i64 0, .int .i64 0, .int .i64 0, .int .i64 0, .int .i64 0, .int .i64 0, .int .i64 0, .int .i64 0, .int .i64 0, .int .i64 0, .int .i64 0, .int .i64 0, .int .i64 0, .int .i64 0, .int .i64 0, .int .i64 0], .agg #[.int .i64 0, .int .i64 0, .int .i64 0, .int .i64 0, .int .i64 0, .int .i64 0, .int .i64 0, .int .i64 0, .int .i64 0, .int .i64 0, .int .i64 0, .int .i64 0, .int .i64 0, .int .i64 0, .int .i64 0, .int .i64 0], .int .i64 0] rfl (by kernel_rfl) (by kernel_rfl) (by kernel_rfl)
      (OpenSpec.preRow_of_cond 8 hx (by kernel_rfl) (fun k hk => by cases hk) (by kernel_rfl) (computeApart_met os))) ?_
  intro W base args ds gs before hval hW _ _ _ hL hS _
  have hW' := hW
  obtain ⟨p, q, hA0, hV, rfl, hfz, hnd⟩ := hW
  have hA : DataW.TrodAll enc Tryd.prog W 0 (fun _ => true) true Tryd.f6.params.toList args.toList ds p := hA0
  rw [Tryd.params6] at hA hval
  obtain ⟨v0, vs0, d0, ds0, p0, q0, hargs, rfl, rfl, h0, r0⟩ := trodAll_cons hA
  obtain ⟨v1, vs1, d1, ds1, p1, q1, rfl, rfl, rfl, h1, r1⟩ := trodAll_cons r0
  obtain ⟨v2, vs2, d2, ds2, p2, q2, rfl, rfl, rfl, h2, r2⟩ := trodAll_cons r1
  obtain ⟨v3, vs3, d3, ds3, p3, q3, rfl, rfl, rfl, h3, r3⟩ := trodAll_cons r2
  obtain ⟨rfl, rfl, rfl⟩ := trodAll_nil r3
  obtain rfl : args = #[v0, v1, v2, v3] := by cases args; simp_all
  obtain ⟨rfl, rfl⟩ := trodVars_none hV
  have k0 := h0
  have lt0 : ∀ x ∈ p0, x.block < W.heap.size := by obtain ⟨m, hm⟩ := k0; exact DataW.trod_lt m _ _ _ hm
  obtain ⟨z0, hz0⟩ := style_of_reads k0 (hval 0 23 v0 rfl rfl)
  subst hz0
  have k1 := h1
  have lt1 : ∀ x ∈ p1, x.block < W.heap.size := by obtain ⟨m, hm⟩ := k1; exact DataW.trod_lt m _ _ _ hm
  obtain ⟨z1, hz1⟩ := vals_of_reads k1 (hval 1 26 v1 rfl rfl)
  subst hz1
  have k2 := h2
  have lt2 : ∀ x ∈ p2, x.block < W.heap.size := by obtain ⟨m, hm⟩ := k2; exact DataW.trod_lt m _ _ _ hm
  obtain ⟨z2, hz2⟩ := vals_of_reads k2 (hval 2 26 v2 rfl rfl)
  subst hz2
  obtain ⟨a3, rfl, rfl, rfl, w3⟩ := open_int Tryd.underlying3 (hval 3 3 v3 rfl rfl) h3
  clear hA0
  refine (computeApart_walk W (tabs_of_laid hL hS) z0 z1 z2 a3 w3).mono fun e W' ⟨he, bel⟩ => ?_
  subst he
  exact ⟨_, rfl, _, _, _, [], _, [], hW', trodAll_mk1 (shut_bool Tryd.underlying4 _), (trodAll_cons_mk (Below.trod laidOut (by kernel_rfl) (of_decide_eq_true (by kernel_rfl)) k0 bel lt0) (trodAll_cons_mk (Below.trod laidOut (by kernel_rfl) (of_decide_eq_true (by kernel_rfl)) k1 bel lt1) (trodAll_cons_mk (Below.trod laidOut (by kernel_rfl) (of_decide_eq_true (by kernel_rfl)) k2 bel lt2) (trodAll_cons_mk (shut_int Tryd.underlying3 w3) trodAll_mk0)))), rfl, bel.frame _, fun h => by cases h⟩

theorem computeApart_said : Rows.ComputeApartSaid :=
  OpenClaim.holds_of_cond 6 Tryd.f6 rfl rfl rfl rfl rfl rfl rfl ⟨rfl, rfl, rfl, rfl, rfl⟩ rfl rfl rfl rfl rfl (by kernel_rfl) Tryd.func6 (by kernel_rfl)
    (of_decide_eq_true (by kernel_rfl)) (by unfold Func.isWrapper; first | (rw [if_pos (by decide +kernel)]; kernel_rfl) | (rw [if_neg (by decide +kernel)]; exact ⟨rfl, rfl⟩))
    (fun os started H enc _ F => by rw [OpenClaim.pre_eq_preRow]; exact computeApart_lifted os started H enc F)

theorem computeApart_plain (f : FuncId) (fn : Func) (hf : Tryd.pinned.checked.prog.funcNamed "tapestrier/tapestrierlaw16.ComputeApart" = some f) (hfn : Tryd.pinned.checked.prog.funcs[f]? = some fn) :
    false = Tryd.pinned.checked.prog.looks [] ∧ ∀ (j : Nat) t, fn.params[j]? = some t → Tryd.pinned.checked.prog.wantsStandIn t = false := by
  obtain rfl : f = 6 := Option.some.inj ((show Tryd.prog.funcNamed "tapestrier/tapestrierlaw16.ComputeApart" = some 6 by kernel_rfl).symm.trans hf) |>.symm
  obtain rfl : fn = Tryd.f6 := (Option.some.inj (Tryd.func6.symm.trans hfn)).symm
  refine ⟨by kernel_rfl, fun j t ht => ?_⟩
  rw [Tryd.params6] at ht
  have hm : t ∈ [23, 26, 3] := by simpa using Array.mem_of_getElem? ht
  have hall : ([23, 26, 3].all fun u => !Tryd.prog.wantsStandIn u) = true := by kernel_rfl
  exact (show Tryd.prog.wantsStandIn t = false by simpa using List.all_eq_true.1 hall t hm)

theorem computeApart_card : Rows.ComputeApartCardSaid :=
  Claim7.holds_tied_plain_at .later [] _ _ _ _ computeApart_said (fun _ h => by cases h) (by kernel_rfl) (fun _ h => by cases h) computeApart_row_tie rfl ⟨rfl, rfl⟩ (by kernel_rfl) rfl computeApart_plain (by kernel_rfl)
#print axioms computeApart_card

end Go.Proofs.YtacdgfjmmomkpaaDoor
