/- For every style above (or none) and all values: the law tapestrierlaw16.ComputeOf returns true and leaves its arguments as they were; no condition (its card: the table of properties read off the program's text). -/
import Derived.Test.YtacdgfjmmomkpaaDoorCpAlive
namespace Go.Proofs.YtacdgfjmmomkpaaDoor
open Go Go.ChangeShapes Go.WideShapes Go.ChangeAt Go.RowKit Vl Cp

set_option maxRecDepth 100000 in
set_option maxHeartbeats 1000000 in
theorem computeOf_walk (w : World) (hP : PropsAt w.heap.size w) (s : Nat → Int) (b : Bool) (z : (Nat → Int) × (Nat → Int)) :
    Calls Tryd.prog 3 #[sty s, .bool b, vls z.1 z.2] w fun e w' => e = .returned (.bool true) ∧ Below w.heap.size w w' := by
  obtain ⟨k, n⟩ := z
  simp only
  have HA : Hid (∀ X, Below w.heap.size w X → Calls Tryd.prog 8 #[] X fun e w' => e = .returned (.bool true) ∧ Below X.heap.size X w') := fun X hb => alive_any X (hP.next hb)
  have HR : Hid (∀ X, Below w.heap.size w X → Calls Tryd.prog 11 #[] X fun e w' => e = .returned (sty rootV) ∧ Below X.heap.size X w') := fun X hb => root_any X (hP.next hb)
  have HF : Hid (∀ X, Calls Tryd.prog 12 #[] X fun e w' => e = .returned (sty rootV) ∧ Below X.heap.size X w') := fun X => refRoot_any X
  have HO : Hid (∀ (v : Value) (u : Nat → Int) (X : World), Below w.heap.size w X → ParAt X v u → Calls Tryd.prog 9 #[v, vls k n] X fun e w' => e = .returned (sty (ofV k n u)) ∧ Below X.heap.size X w') := fun v u X hb hv => of_any v k n u X (hP.next hb) hv
  have HS : Hid (∀ (v : Value) (u : Nat → Int) (X : World), ParAt X v u → Calls Tryd.prog 10 #[v, vls k n] X fun e w' => e = .returned (sty (ofV k n u)) ∧ Below X.heap.size X w') := fun v u X hv => refStyle_any v k n u X hv
  clear hP
  have b0 : Below w.heap.size w ((w.alloc (.cells (styL s).toArray 23)).alloc (.cells (valL k n).toArray 26)) := ((Below.refl _ w).alloc (Nat.le_refl _) _).alloc (by rw [World.size_alloc]; omega) _
  have kP : StyAt ((w.alloc (.cells (styL s).toArray 23)).alloc (.cells (valL k n).toArray 26)) w.heap.size s := Blk.kept (StyAt.new w s) (World.grownBy_alloc _ _ none) (by simp)
  have kV : ValAt ((w.alloc (.cells (styL s).toArray 23)).alloc (.cells (valL k n).toArray 26)) (w.heap.size + 1) k n := by
    have := ValAt.new (w.alloc (.cells (styL s).toArray 23)) k n
    rwa [World.size_alloc] at this
  simp only [styL, valL] at b0 kP kV
  go_enter Tryd.func3, Tryd.ntmps3
  go_upto_region 1 with fail
  generalize ((w.alloc _).alloc _ : World) = W at *
  have hc := HA.out W b0
  clear HA
  go_wp2_with fail
  refine hc.mono ?_
  clear hc
  rintro e w1 ⟨rfl, b1⟩
  replace kP := kP.next b1
  replace kV := kV.next b1
  have bw := below_next b0 b1
  clear b0 b1
  have hA := kV.lt
  obtain ⟨u, hu⟩ : ∃ u : Nat → Int, u = if b then s else rootV := ⟨_, rfl⟩
  obtain ⟨V, hV⟩ : ∃ V, ofV k n u = V := ⟨_, rfl⟩
  obtain ⟨pv, hpv⟩ : ∃ pv : Value, pv = if b then .pointer (some ⟨w.heap.size, 0, none⟩) else .pointer none := ⟨_, rfl⟩
  have HPA : Hid (∀ X, StyAt X w.heap.size s → ParAt X pv u) := fun X h => by
    cases b
    · exact .inl ⟨hpv, hu⟩
    · rw [hpv, hu]
      exact h.par
  cases b
  case' false =>
    rw [if_neg (by decide)] at hpv
    subst hpv
  case' true =>
    rw [if_pos rfl] at hpv
    subst hpv
  all_goals
    go_upto_region 5 with fail
    clear hu
    have b2 : Below w1.heap.size w1 (w1.alloc (.cells #[.int .i64 (s 0), .int .i64 (s 1), .int .i64 (s 2), .int .i64 (s 3), .int .i64 (s 4), .int .i64 (s 5), .int .i64 (s 6), .int .i64 (s 7)] 23)) := (Below.refl _ _).alloc (Nat.le_refl _) _
    have kO : StyAt (w1.alloc (.cells #[.int .i64 (s 0), .int .i64 (s 1), .int .i64 (s 2), .int .i64 (s 3), .int .i64 (s 4), .int .i64 (s 5), .int .i64 (s 6), .int .i64 (s 7)] 23)) w1.heap.size s := StyAt.new w1 s
    obtain ⟨p0, p1, p2, p3, p4, p5, p6, p7⟩ := kP.cells
    have kP2 := kP.next b2
    replace kV := kV.next b2
    replace bw := below_next bw b2
    clear b2 kP
    go_upto_region 6 with fail
    clear p0 p1 p2 p3 p4 p5 p6 p7
    generalize w1.alloc _ = W1 at *
    generalize w1.heap.size = O at *
    have hc := HO.out _ u W1 bw (HPA.out W1 kP2)
    rw [hV] at hc
    obtain ⟨c0, c1, c2, c3, c4, c5, c6, c7, c8, c9, c10, c11, c12, c13, c14, c15⟩ := kV.cells
    clear HO hA
    go_wp2_with fail
    refine hc.mono ?_
    clear hc c0 c1 c2 c3 c4 c5 c6 c7 c8 c9 c10 c11 c12 c13 c14 c15
    rintro e w2 ⟨rfl, b2⟩
    have b3 : Below w2.heap.size w2 (w2.alloc (.cells (styL V).toArray 23)) := (Below.refl _ _).alloc (Nat.le_refl _) _
    have kS := StyAt.new w2 V
    simp only [styL] at kS b3
    replace kP2 := (kP2.next b2).next b3
    replace kV := (kV.next b2).next b3
    replace kO := (kO.next b2).next b3
    replace bw := below_next (below_next bw b2) b3
    clear b2 b3
    go_upto_region 7 with fail
    generalize w2.alloc _ = W2 at *
    generalize w2.heap.size = S at *
    have q0 : Below W2.heap.size W2 W2.drew := below_drew (Below.refl _ _)
    replace kP2 := kP2.next q0
    replace kV := kV.next q0
    replace kO := kO.next q0
    replace kS := kS.next q0
    replace bw := below_next bw q0
    clear q0
    have hc := HS.out _ u W2.drew (HPA.out W2.drew kP2)
    rw [hV] at hc
    clear HPA HS
    have HeldS : StyAt W2.drew S V ∧ ValAt W2.drew (w.heap.size + 1) k n ∧ StyAt W2.drew w.heap.size s ∧ StyAt W2.drew O s := ⟨kS, kV, kP2, kO⟩
    refine Rg.wpD_begin [2, 3, 4, 5, 14, 15] (fun X => StyAt X S V ∧ ValAt X (w.heap.size + 1) k n ∧ StyAt X w.heap.size s ∧ StyAt X O s) (by kernel_rfl) ?_
    refine Rg.wpD_pure 0 (v := ?_) (by simp only [List.getElem?_toArray, List.getElem?_cons_zero]; rfl) (by kernel_rfl) (by kernel_rfl) (by intro _ _ _ h; exact h) (by rfl) (fun wz => ?_) ?_
    rotate_left
    · first | (go_simp; done) | (go_simp; with_reducible rfl)
    simp only [Act.put, List.setIfInBounds_toArray, List.set_cons_succ, List.set_cons_zero]
    refine Rg.wpD_pure 1 (v := ?_) (by simp only [List.getElem?_toArray, List.getElem?_cons_succ, List.getElem?_cons_zero]; rfl) (by kernel_rfl) (by kernel_rfl) (by intro _ _ _ h; exact h) (by rfl) (fun wz => ?_) ?_
    rotate_left
    · first | (go_simp; done) | (go_simp; with_reducible rfl)
    simp only [Act.put, List.setIfInBounds_toArray, List.set_cons_succ, List.set_cons_zero]
    refine Rg.wpD_load 2 (v := ?_) (by simp only [List.getElem?_toArray, List.getElem?_cons_succ, List.getElem?_cons_zero]; rfl) (by kernel_rfl) (by kernel_rfl) (by intro _ _ _ h; exact h) HeldS (by rfl) (fun wz hz => ?_) ?_
    rotate_left
    · have hcv := hz.1.cells
      first | (go_simp; done) | (go_simp; with_reducible rfl)
    simp only [Act.put, List.setIfInBounds_toArray, List.set_cons_succ, List.set_cons_zero]
    refine Rg.wpD_load 3 (v := ?_) (by simp only [List.getElem?_toArray, List.getElem?_cons_succ, List.getElem?_cons_zero]; rfl) (by kernel_rfl) (by kernel_rfl) (by intro _ _ _ h; exact h) HeldS (by rfl) (fun wz hz => ?_) ?_
    rotate_left
    · first | (go_simp; done) | (go_simp; with_reducible rfl)
    simp only [Act.put, List.setIfInBounds_toArray, List.set_cons_succ, List.set_cons_zero]
    refine Rg.wpD_load 4 (v := ?_) (by simp only [List.getElem?_toArray, List.getElem?_cons_succ, List.getElem?_cons_zero]; rfl) (by kernel_rfl) (by kernel_rfl) (by intro _ _ _ h; exact h) HeldS (by rfl) (fun wz hz => ?_) ?_
    rotate_left
    · have hcv := hz.2.1.cells
      first | (go_simp; done) | (go_simp; with_reducible rfl)
    simp only [Act.put, List.setIfInBounds_toArray, List.set_cons_succ, List.set_cons_zero]
    refine Rg.wpD_do 5 (by kernel_rfl) (by simp only [List.getElem?_toArray, List.getElem?_cons_succ, List.getElem?_cons_zero]; rfl) (fun K hK => ?_)
    go_simp
    go_at_call 10
    refine Calls.mono hc ?_
    clear hc HeldS
    rintro e X ⟨rfl, b6⟩
    replace kS := kS.next b6
    replace kV := kV.next b6
    replace kP2 := kP2.next b6
    replace kO := kO.next b6
    replace bw := below_next bw b6
    clear b6
    refine hK _ _ (fun _ => ⟨kS, kV, kP2, kO⟩) ?_
    clear hK K
    have hq := eq_sty V
    refine Rg.wpD_pure 6 (v := ?_) (by simp only [List.getElem?_toArray, List.getElem?_cons_succ, List.getElem?_cons_zero]; rfl) (by kernel_rfl) (by kernel_rfl) (by intro _ _ _ h; exact h) (by rfl) (fun wz => ?_) ?_
    rotate_left
    · first | (go_simp; done) | (go_simp; with_reducible rfl)
    simp only [Act.put, List.setIfInBounds_toArray, List.set_cons_succ, List.set_cons_zero]
    clear hq
    refine Rg.wpD_pure 7 (v := ?_) (by simp only [List.getElem?_toArray, List.getElem?_cons_succ, List.getElem?_cons_zero]; rfl) (by kernel_rfl) (by kernel_rfl) (by intro _ _ _ h; exact h) (by rfl) (fun wz => ?_) ?_
    rotate_left
    · first | (go_simp; done) | (go_simp; with_reducible rfl)
    simp only [Act.put, List.setIfInBounds_toArray, List.set_cons_succ, List.set_cons_zero]
    refine Rg.wpD_pure 8 (v := ?_) (by simp only [List.getElem?_toArray, List.getElem?_cons_succ, List.getElem?_cons_zero]; rfl) (by kernel_rfl) (by kernel_rfl) (by intro _ _ _ h; exact h) (by rfl) (fun wz => ?_) ?_
    rotate_left
    · first | (go_simp; done) | (go_simp; with_reducible rfl)
    simp only [Act.put, List.setIfInBounds_toArray, List.set_cons_succ, List.set_cons_zero]
    have hc := HR.out X bw
    clear HR
    refine Rg.wpD_do 9 (by kernel_rfl) (by simp only [List.getElem?_toArray, List.getElem?_cons_succ, List.getElem?_cons_zero]; rfl) (fun K hK => ?_)
    go_simp
    go_at_call 11
    refine Calls.mono hc ?_
    clear hc
    rintro e X2 ⟨rfl, b7⟩
    refine hK _ _ (fun h => absurd h (by decide)) ?_
    clear hK K
    replace kS := kS.next b7
    replace kV := kV.next b7
    replace kP2 := kP2.next b7
    replace kO := kO.next b7
    replace bw := below_next bw b7
    clear b7
    have hc := HF.out X2
    clear HF
    refine Rg.wpD_do 10 (by kernel_rfl) (by simp only [List.getElem?_toArray, List.getElem?_cons_succ, List.getElem?_cons_zero]; rfl) (fun K hK => ?_)
    go_simp
    go_at_call 12
    refine Calls.mono hc ?_
    clear hc
    rintro e X3 ⟨rfl, b7⟩
    refine hK _ _ (fun h => absurd h (by decide)) ?_
    clear hK K
    replace kS := kS.next b7
    replace kV := kV.next b7
    replace kP2 := kP2.next b7
    replace kO := kO.next b7
    replace bw := below_next bw b7
    clear b7
    have hq := eq_sty rootV
    refine Rg.wpD_pure 11 (v := ?_) (by simp only [List.getElem?_toArray, List.getElem?_cons_succ, List.getElem?_cons_zero]; rfl) (by kernel_rfl) (by kernel_rfl) (by intro _ _ _ h; exact h) (by rfl) (fun wz => ?_) ?_
    rotate_left
    · first | (go_simp; done) | (go_simp; with_reducible rfl)
    simp only [Act.put, List.setIfInBounds_toArray, List.set_cons_succ, List.set_cons_zero]
    clear hq
    refine Rg.wpD_pure 12 (v := ?_) (by simp only [List.getElem?_toArray, List.getElem?_cons_succ, List.getElem?_cons_zero]; rfl) (by kernel_rfl) (by kernel_rfl) (by intro _ _ _ h; exact h) (by rfl) (fun wz => ?_) ?_
    rotate_left
    · first | (go_simp; done) | (go_simp; with_reducible rfl)
    simp only [Act.put, List.setIfInBounds_toArray, List.set_cons_succ, List.set_cons_zero]
    refine Rg.wpD_pure 13 (v := ?_) (by simp only [List.getElem?_toArray, List.getElem?_cons_succ, List.getElem?_cons_zero]; rfl) (by kernel_rfl) (by kernel_rfl) (by intro _ _ _ h; exact h) (by rfl) (fun wz => ?_) ?_
    rotate_left
    · first | (go_simp; done) | (go_simp; with_reducible rfl)
    simp only [Act.put, List.setIfInBounds_toArray, List.set_cons_succ, List.set_cons_zero]
    have HeldS : StyAt X3 S V ∧ ValAt X3 (w.heap.size + 1) k n ∧ StyAt X3 w.heap.size s ∧ StyAt X3 O s := ⟨kS, kV, kP2, kO⟩
    clear kS kV kP2 kO hV
    refine Rg.wpD_load 14 (v := ?_) (by simp only [List.getElem?_toArray, List.getElem?_cons_succ, List.getElem?_cons_zero]; rfl) (by kernel_rfl) (by kernel_rfl) (by intro _ _ _ h; exact h) HeldS (by rfl) (fun wz hz => ?_) ?_
    rotate_left
    · have hcv := hz.2.2.1.cells
      first | (go_simp; done) | (go_simp; with_reducible rfl)
    simp only [Act.put, List.setIfInBounds_toArray, List.set_cons_succ, List.set_cons_zero]
    refine Rg.wpD_load 15 (v := ?_) (by simp only [List.getElem?_toArray, List.getElem?_cons_succ, List.getElem?_cons_zero]; rfl) (by kernel_rfl) (by kernel_rfl) (by intro _ _ _ h; exact h) HeldS (by rfl) (fun wz hz => ?_) ?_
    rotate_left
    · have hcv := hz.2.2.2.cells
      first | (go_simp; done) | (go_simp; with_reducible rfl)
    simp only [Act.put, List.setIfInBounds_toArray, List.set_cons_succ, List.set_cons_zero]
    clear HeldS
    have hq := eq_sty s
    refine Rg.wpD_pure 16 (v := ?_) (by simp only [List.getElem?_toArray, List.getElem?_cons_succ, List.getElem?_cons_zero]; rfl) (by kernel_rfl) (by kernel_rfl) (by intro _ _ _ h; exact h) (by rfl) (fun wz => ?_) ?_
    rotate_left
    · first | (go_simp; done) | (go_simp; with_reducible rfl)
    simp only [Act.put, List.setIfInBounds_toArray, List.set_cons_succ, List.set_cons_zero]
    clear hq
    refine Rg.wpD_pure 17 (v := ?_) (by simp only [List.getElem?_toArray, List.getElem?_cons_succ, List.getElem?_cons_zero]; rfl) (by kernel_rfl) (by kernel_rfl) (by intro _ _ _ h; exact h) (by rfl) (fun wz => ?_) ?_
    rotate_left
    · first | (go_simp; done) | (go_simp; with_reducible rfl)
    simp only [Act.put, List.setIfInBounds_toArray, List.set_cons_succ, List.set_cons_zero]
    refine Rg.wpD_pure 18 (v := ?_) (by simp only [List.getElem?_toArray, List.getElem?_cons_succ, List.getElem?_cons_zero]; rfl) (by kernel_rfl) (by kernel_rfl) (by intro _ _ _ h; exact h) (by rfl) (fun wz => ?_) ?_
    rotate_left
    · first | (go_simp; done) | (go_simp; with_reducible rfl)
    simp only [Act.put, List.setIfInBounds_toArray, List.set_cons_succ, List.set_cons_zero]
    refine Rg.wpD_done (by kernel_rfl) ?_
    go_wp2
    go_ret
    exact ⟨rfl, bw⟩

theorem computeOf_met (os : Os) : laidMet Tryd.prog Rows.computeOfRow.laid ((laidIn (World.holding Tryd.prog os ⟨#[], #[], []⟩)).forCall (fun _ _ => 0) ⟨#[], #[.agg #[.int .i64 0, .int .i64 0, .int .i64 0, .int .i64 0, .int .i64 0, .int .i64 0, .int .i64 0, .int .i64 0], .bool false, .agg #[.int .i64 0, .int .i64 0, .int .i64 0, .int .i64 0, .int .i64 0, .int .i64 0, .int .i64 0, .int .i64 0, .int .i64 0, .int .i64 0, .int .i64 0, .int .i64 0, .int .i64 0, .int .i64 0, .int .i64 0, .int .i64 0]], []⟩).memory :=
  laidMet_of_run' 8 (by kernel_rfl) (by kernel_rfl)
theorem computeOf_reads (os : Os) {H : Type} (enc : TypeId × Value → H) : ∃ places, DataW.whole enc Tryd.prog ((laidIn (World.holding Tryd.prog os ⟨#[], #[], []⟩)).forCall (fun _ _ => 0) ⟨#[], #[.agg #[.int .i64 0, .int .i64 0, .int .i64 0, .int .i64 0, .int .i64 0, .int .i64 0, .int .i64 0, .int .i64 0], .bool false, .agg #[.int .i64 0, .int .i64 0, .int .i64 0, .int .i64 0, .int .i64 0, .int .i64 0, .int .i64 0, .int .i64 0, .int .i64 0, .int .i64 0, .int .i64 0, .int .i64 0, .int .i64 0, .int .i64 0, .int .i64 0, .int .i64 0]], []⟩).memory Tryd.f3.params.toList Rows.computeOfSpec.vars false (#[.agg #[.int .i64 0, .int .i64 0, .int .i64 0, .int .i64 0, .int .i64 0, .int .i64 0, .int .i64 0, .int .i64 0], .bool false, .agg #[.int .i64 0, .int .i64 0, .int .i64 0, .int .i64 0, .int .i64 0, .int .i64 0, .int .i64 0, .int .i64 0, .int .i64 0, .int .i64 0, .int .i64 0, .int .i64 0, .int .i64 0, .int .i64 0, .int .i64 0, .int .i64 0]] : Array Value).toList 8 = some ([.agg [.lit (.int .i64 0), .lit (.int .i64 0), .lit (.int .i64 0), .lit (.int .i64 0), .lit (.int .i64 0), .lit (.int .i64 0), .lit (.int .i64 0), .lit (.int .i64 0)], .lit (.bool false), .agg [.agg [.lit (.int .i64 0), .lit (.int .i64 0)], .agg [.lit (.int .i64 0), .lit (.int .i64 0)], .agg [.lit (.int .i64 0), .lit (.int .i64 0)], .agg [.lit (.int .i64 0), .lit (.int .i64 0)], .agg [.lit (.int .i64 0), .lit (.int .i64 0)], .agg [.lit (.int .i64 0), .lit (.int .i64 0)], .agg [.lit (.int .i64 0), .lit (.int .i64 0)], .agg [.lit (.int .i64 0), .lit (.int .i64 0)]]], [], places) :=
  ⟨[], by kernel_rfl⟩

set_option maxRecDepth 100000 in
theorem computeOf_lifted (os : Os) (started : os.Started) (H : Type) (enc : TypeId × Value → H) (F : Stop.Interp) :
    ReturnsInHanded {} Tryd.checked os 3 .any ((OpenSpec.ofChange Rows.computeOfSpec).preRow enc Tryd.prog Tryd.f3 Rows.computeOfRow.domain false Rows.computeOfRow.laid) (((OpenSpec.ofChange Rows.computeOfSpec).at F).post enc Tryd.prog Tryd.f3 false true false false) := by
  obtain ⟨places, hx⟩ := computeOf_reads os enc
  refine returnsInHanded_of_row (C := Tryd.checked) (s := OpenSpec.ofChange Rows.computeOfSpec) ownNone started (by kernel_rfl) Tryd.func3
    (witness_row_at (enc := enc) (C := Tryd.checked) false (laidIn (World.holding Tryd.prog os ⟨#[], #[], []⟩)) #[.agg #[.int .i64 0, .int .i64 0, .int .i64 0, .int .i64 0, .int .i64 0, .int .i64 0, .int .i64 0, .int .i64 0], .bool false, .agg #[.int .i64 0, .int .i64 0, .int .i64 0, .int .i64 0, .int .i64 0, .int .i64 0, .int .i64 0, .int .i64 0, .int .i64 0, .int .i64 0, .int .i64 0, .int .i64 0, .int .i64 0, .int .i64 0, .int .i64 0, .int .i64 0]] rfl (by kernel_rfl) (by kernel_rfl) (by kernel_rfl)
      (OpenSpec.preRow_of_cond 8 hx (by kernel_rfl) (fun k hk => by cases hk) (by kernel_rfl) (computeOf_met os))) ?_
  intro W base args ds gs before hval hW _ _ _ hL hS _
  have hW' := hW
  obtain ⟨p, q, hA0, hV, rfl, hfz, hnd⟩ := hW
  have hA : DataW.TrodAll enc Tryd.prog W 0 (fun _ => true) true Tryd.f3.params.toList args.toList ds p := hA0
  rw [Tryd.params3] at hA hval
  obtain ⟨v0, vs0, d0, ds0, p0, q0, hargs, rfl, rfl, h0, r0⟩ := trodAll_cons hA
  obtain ⟨v1, vs1, d1, ds1, p1, q1, rfl, rfl, rfl, h1, r1⟩ := trodAll_cons r0
  obtain ⟨v2, vs2, d2, ds2, p2, q2, rfl, rfl, rfl, h2, r2⟩ := trodAll_cons r1
  obtain ⟨rfl, rfl, rfl⟩ := trodAll_nil r2
  obtain rfl : args = #[v0, v1, v2] := by cases args; simp_all
  obtain ⟨rfl, rfl⟩ := trodVars_none hV
  have k0 := h0
  have lt0 : ∀ x ∈ p0, x.block < W.heap.size := by obtain ⟨m, hm⟩ := k0; exact DataW.trod_lt m _ _ _ hm
  obtain ⟨z0, hz0⟩ := style_of_reads k0 (hval 0 23 v0 rfl rfl)
  subst hz0
  obtain ⟨a1, rfl, rfl, rfl⟩ := open_bool Tryd.underlying4 (hval 1 4 v1 rfl rfl) h1
  have k2 := h2
  have lt2 : ∀ x ∈ p2, x.block < W.heap.size := by obtain ⟨m, hm⟩ := k2; exact DataW.trod_lt m _ _ _ hm
  obtain ⟨z2, hz2⟩ := vals_of_reads k2 (hval 2 26 v2 rfl rfl)
  subst hz2
  clear hA0
  refine (computeOf_walk W (tabs_of_laid hL hS) z0 a1 z2).mono fun e W' ⟨he, bel⟩ => ?_
  subst he
  exact ⟨_, rfl, _, _, _, [], _, [], hW', trodAll_mk1 (shut_bool Tryd.underlying4 _), (trodAll_cons_mk (Below.trod laidOut (by kernel_rfl) (of_decide_eq_true (by kernel_rfl)) k0 bel lt0) (trodAll_cons_mk (shut_bool Tryd.underlying4 _) (trodAll_cons_mk (Below.trod laidOut (by kernel_rfl) (of_decide_eq_true (by kernel_rfl)) k2 bel lt2) trodAll_mk0))), rfl, bel.frame _, fun h => by cases h⟩

theorem computeOf_said : Rows.ComputeOfSaid :=
  OpenClaim.holds_of_cond 3 Tryd.f3 rfl rfl rfl rfl rfl rfl rfl ⟨rfl, rfl, rfl, rfl, rfl⟩ rfl rfl rfl rfl rfl (by kernel_rfl) Tryd.func3 (by kernel_rfl)
    (of_decide_eq_true (by kernel_rfl)) (by unfold Func.isWrapper; first | (rw [if_pos (by decide +kernel)]; kernel_rfl) | (rw [if_neg (by decide +kernel)]; exact ⟨rfl, rfl⟩))
    (fun os started H enc _ F => by rw [OpenClaim.pre_eq_preRow]; exact computeOf_lifted os started H enc F)

theorem computeOf_plain (f : FuncId) (fn : Func) (hf : Tryd.pinned.checked.prog.funcNamed "tapestrier/tapestrierlaw16.ComputeOf" = some f) (hfn : Tryd.pinned.checked.prog.funcs[f]? = some fn) :
    false = Tryd.pinned.checked.prog.looks [] ∧ ∀ (j : Nat) t, fn.params[j]? = some t → Tryd.pinned.checked.prog.wantsStandIn t = false := by
  obtain rfl : f = 3 := Option.some.inj ((show Tryd.prog.funcNamed "tapestrier/tapestrierlaw16.ComputeOf" = some 3 by kernel_rfl).symm.trans hf) |>.symm
  obtain rfl : fn = Tryd.f3 := (Option.some.inj (Tryd.func3.symm.trans hfn)).symm
  refine ⟨by kernel_rfl, fun j t ht => ?_⟩
  rw [Tryd.params3] at ht
  have hm : t ∈ [23, 4, 26] := by simpa using Array.mem_of_getElem? ht
  have hall : ([23, 4, 26].all fun u => !Tryd.prog.wantsStandIn u) = true := by kernel_rfl
  exact (show Tryd.prog.wantsStandIn t = false by simpa using List.all_eq_true.1 hall t hm)

theorem computeOf_card : Rows.ComputeOfCardSaid :=
  Claim7.holds_tied_plain_at .later [] _ _ _ _ computeOf_said (fun _ h => by cases h) (by kernel_rfl) (fun _ h => by cases h) computeOf_row_tie rfl ⟨rfl, rfl⟩ (by kernel_rfl) rfl computeOf_plain (by kernel_rfl)
#print axioms computeOf_card

end Go.Proofs.YtacdgfjmmomkpaaDoor
