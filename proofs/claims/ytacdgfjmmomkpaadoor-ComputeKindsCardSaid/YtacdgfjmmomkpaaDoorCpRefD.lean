/- The document's own one (P1601), properties [5]. -/
import Derived.Test.YtacdgfjmmomkpaaDoorCpRefN
namespace Go.Proofs.YtacdgfjmmomkpaaDoor.Cp
open Go Go.RowKit Vl Nm

set_option maxRecDepth 100000 in
set_option maxHeartbeats 1000000 in
theorem refOne_5_7 (n : Int) (s : Nat → Int) (size : Int) (w : World) : Calls Tryd.prog 14 #[.int .i64 5, .agg #[.int .i64 7, .int .i64 n], .agg #[.int .i64 (s 0), .int .i64 (s 1), .int .i64 (s 2), .int .i64 (s 3), .int .i64 (s 4), .int .i64 (s 5), .int .i64 (s 6), .int .i64 (s 7)], .int .i64 size] w fun e w' => e = .returned (.int .i64 (s 5)) ∧ Below w.heap.size w w' := by
  have b0 : Below w.heap.size w ((w.alloc (.cells #[.int .i64 7, .int .i64 n] 25)).alloc (.cells #[.int .i64 (s 0), .int .i64 (s 1), .int .i64 (s 2), .int .i64 (s 3), .int .i64 (s 4), .int .i64 (s 5), .int .i64 (s 6), .int .i64 (s 7)] 23)) := ((Below.refl _ w).alloc (Nat.le_refl _) _).alloc (by rw [World.size_alloc]; omega) _
  have kV : Blk ((w.alloc (.cells #[.int .i64 7, .int .i64 n] 25)).alloc (.cells #[.int .i64 (s 0), .int .i64 (s 1), .int .i64 (s 2), .int .i64 (s 3), .int .i64 (s 4), .int .i64 (s 5), .int .i64 (s 6), .int .i64 (s 7)] 23)) w.heap.size 25 [.int .i64 7, .int .i64 n] := (Blk.new w 25 [.int .i64 7, .int .i64 n]).kept (World.grownBy_alloc _ _ none) (by simp)
  have kS : StyAt ((w.alloc (.cells #[.int .i64 7, .int .i64 n] 25)).alloc (.cells #[.int .i64 (s 0), .int .i64 (s 1), .int .i64 (s 2), .int .i64 (s 3), .int .i64 (s 4), .int .i64 (s 5), .int .i64 (s 6), .int .i64 (s 7)] 23)) (w.heap.size + 1) s := by
    have := Blk.new (w.alloc (.cells #[.int .i64 7, .int .i64 n] 25)) 23 (styL s)
    rwa [World.size_alloc] at this
  have c1 := capI_ge n
  have c2 := capI_le n
  have hc := refCapC n
  go_enter Tryd.func14, Tryd.ntmps14
  go_upto_region 1 with fail
  generalize ((w.alloc (.cells #[.int .i64 7, .int .i64 n] 25)).alloc (.cells #[.int .i64 (s 0), .int .i64 (s 1), .int .i64 (s 2), .int .i64 (s 3), .int .i64 (s 4), .int .i64 (s 5), .int .i64 (s 6), .int .i64 (s 7)] 23)) = W at *
  obtain ⟨⟨t0, t1⟩, _⟩ := blk2 kV
  have cp := (kS.cell (p := 5) (by decide)).1
  clear kV kS
  go_wp2_with fail
  refine (hc W).mono ?_
  clear hc
  rintro e w1 ⟨rfl, rfl⟩
  go_wp2
  go_ret
  exact ⟨rfl, b0⟩

set_option maxRecDepth 100000 in
set_option maxHeartbeats 1000000 in
theorem refOne_5_8 (n : Int) (s : Nat → Int) (size : Int) (w : World) : Calls Tryd.prog 14 #[.int .i64 5, .agg #[.int .i64 8, .int .i64 n], .agg #[.int .i64 (s 0), .int .i64 (s 1), .int .i64 (s 2), .int .i64 (s 3), .int .i64 (s 4), .int .i64 (s 5), .int .i64 (s 6), .int .i64 (s 7)], .int .i64 size] w fun e w' => e = .returned (.int .i64 (0)) ∧ Below w.heap.size w w' := by
  have b0 : Below w.heap.size w ((w.alloc (.cells #[.int .i64 8, .int .i64 n] 25)).alloc (.cells #[.int .i64 (s 0), .int .i64 (s 1), .int .i64 (s 2), .int .i64 (s 3), .int .i64 (s 4), .int .i64 (s 5), .int .i64 (s 6), .int .i64 (s 7)] 23)) := ((Below.refl _ w).alloc (Nat.le_refl _) _).alloc (by rw [World.size_alloc]; omega) _
  have kV : Blk ((w.alloc (.cells #[.int .i64 8, .int .i64 n] 25)).alloc (.cells #[.int .i64 (s 0), .int .i64 (s 1), .int .i64 (s 2), .int .i64 (s 3), .int .i64 (s 4), .int .i64 (s 5), .int .i64 (s 6), .int .i64 (s 7)] 23)) w.heap.size 25 [.int .i64 8, .int .i64 n] := (Blk.new w 25 [.int .i64 8, .int .i64 n]).kept (World.grownBy_alloc _ _ none) (by simp)
  have kS : StyAt ((w.alloc (.cells #[.int .i64 8, .int .i64 n] 25)).alloc (.cells #[.int .i64 (s 0), .int .i64 (s 1), .int .i64 (s 2), .int .i64 (s 3), .int .i64 (s 4), .int .i64 (s 5), .int .i64 (s 6), .int .i64 (s 7)] 23)) (w.heap.size + 1) s := by
    have := Blk.new (w.alloc (.cells #[.int .i64 8, .int .i64 n] 25)) 23 (styL s)
    rwa [World.size_alloc] at this
  have c1 := capI_ge n
  have c2 := capI_le n
  have hc := refCapC n
  have hit : ∀ X, Calls Tryd.prog 16 #[.int .i64 5] X fun e w' => e = .returned (.int .i64 (0)) ∧ w' = X := fun X => refInitial_any 5 X
  go_enter Tryd.func14, Tryd.ntmps14
  go_upto_region 1 with fail
  generalize ((w.alloc (.cells #[.int .i64 8, .int .i64 n] 25)).alloc (.cells #[.int .i64 (s 0), .int .i64 (s 1), .int .i64 (s 2), .int .i64 (s 3), .int .i64 (s 4), .int .i64 (s 5), .int .i64 (s 6), .int .i64 (s 7)] 23)) = W at *
  obtain ⟨⟨t0, t1⟩, _⟩ := blk2 kV
  have cp := (kS.cell (p := 5) (by decide)).1
  clear kV kS
  go_wp2_with fail
  refine (hc W).mono ?_
  clear hc
  rintro e w1 ⟨rfl, rfl⟩
  go_wp2_with fail
  refine (hit _).mono ?_
  clear hit
  rintro e w2 ⟨rfl, rfl⟩
  go_wp2
  go_ret
  exact ⟨rfl, b0⟩

set_option maxRecDepth 100000 in
set_option maxHeartbeats 1000000 in
theorem refOne_5_2 (n : Int) (s : Nat → Int) (size : Int) (w : World) : Calls Tryd.prog 14 #[.int .i64 5, .agg #[.int .i64 2, .int .i64 n], .agg #[.int .i64 (s 0), .int .i64 (s 1), .int .i64 (s 2), .int .i64 (s 3), .int .i64 (s 4), .int .i64 (s 5), .int .i64 (s 6), .int .i64 (s 7)], .int .i64 size] w fun e w' => e = .returned (.int .i64 (capI n)) ∧ Below w.heap.size w w' := by
  have b0 : Below w.heap.size w ((w.alloc (.cells #[.int .i64 2, .int .i64 n] 25)).alloc (.cells #[.int .i64 (s 0), .int .i64 (s 1), .int .i64 (s 2), .int .i64 (s 3), .int .i64 (s 4), .int .i64 (s 5), .int .i64 (s 6), .int .i64 (s 7)] 23)) := ((Below.refl _ w).alloc (Nat.le_refl _) _).alloc (by rw [World.size_alloc]; omega) _
  have kV : Blk ((w.alloc (.cells #[.int .i64 2, .int .i64 n] 25)).alloc (.cells #[.int .i64 (s 0), .int .i64 (s 1), .int .i64 (s 2), .int .i64 (s 3), .int .i64 (s 4), .int .i64 (s 5), .int .i64 (s 6), .int .i64 (s 7)] 23)) w.heap.size 25 [.int .i64 2, .int .i64 n] := (Blk.new w 25 [.int .i64 2, .int .i64 n]).kept (World.grownBy_alloc _ _ none) (by simp)
  have kS : StyAt ((w.alloc (.cells #[.int .i64 2, .int .i64 n] 25)).alloc (.cells #[.int .i64 (s 0), .int .i64 (s 1), .int .i64 (s 2), .int .i64 (s 3), .int .i64 (s 4), .int .i64 (s 5), .int .i64 (s 6), .int .i64 (s 7)] 23)) (w.heap.size + 1) s := by
    have := Blk.new (w.alloc (.cells #[.int .i64 2, .int .i64 n] 25)) 23 (styL s)
    rwa [World.size_alloc] at this
  have c1 := capI_ge n
  have c2 := capI_le n
  have hc := refCapC n
  go_enter Tryd.func14, Tryd.ntmps14
  go_upto_region 1 with fail
  generalize ((w.alloc (.cells #[.int .i64 2, .int .i64 n] 25)).alloc (.cells #[.int .i64 (s 0), .int .i64 (s 1), .int .i64 (s 2), .int .i64 (s 3), .int .i64 (s 4), .int .i64 (s 5), .int .i64 (s 6), .int .i64 (s 7)] 23)) = W at *
  obtain ⟨⟨t0, t1⟩, _⟩ := blk2 kV
  have cp := (kS.cell (p := 5) (by decide)).1
  clear kV kS
  go_wp2_with fail
  refine (hc W).mono ?_
  clear hc
  rintro e w1 ⟨rfl, rfl⟩
  go_wp2
  go_ret
  exact ⟨rfl, b0⟩

set_option maxRecDepth 100000 in
set_option maxHeartbeats 1000000 in
theorem refOne_5_3 (n : Int) (s : Nat → Int) (size : Int) (w : World) : Calls Tryd.prog 14 #[.int .i64 5, .agg #[.int .i64 3, .int .i64 n], .agg #[.int .i64 (s 0), .int .i64 (s 1), .int .i64 (s 2), .int .i64 (s 3), .int .i64 (s 4), .int .i64 (s 5), .int .i64 (s 6), .int .i64 (s 7)], .int .i64 size] w fun e w' => e = .returned (.int .i64 (timesV (size) (capI n))) ∧ Below w.heap.size w w' := by
  have b0 : Below w.heap.size w ((w.alloc (.cells #[.int .i64 3, .int .i64 n] 25)).alloc (.cells #[.int .i64 (s 0), .int .i64 (s 1), .int .i64 (s 2), .int .i64 (s 3), .int .i64 (s 4), .int .i64 (s 5), .int .i64 (s 6), .int .i64 (s 7)] 23)) := ((Below.refl _ w).alloc (Nat.le_refl _) _).alloc (by rw [World.size_alloc]; omega) _
  have kV : Blk ((w.alloc (.cells #[.int .i64 3, .int .i64 n] 25)).alloc (.cells #[.int .i64 (s 0), .int .i64 (s 1), .int .i64 (s 2), .int .i64 (s 3), .int .i64 (s 4), .int .i64 (s 5), .int .i64 (s 6), .int .i64 (s 7)] 23)) w.heap.size 25 [.int .i64 3, .int .i64 n] := (Blk.new w 25 [.int .i64 3, .int .i64 n]).kept (World.grownBy_alloc _ _ none) (by simp)
  have kS : StyAt ((w.alloc (.cells #[.int .i64 3, .int .i64 n] 25)).alloc (.cells #[.int .i64 (s 0), .int .i64 (s 1), .int .i64 (s 2), .int .i64 (s 3), .int .i64 (s 4), .int .i64 (s 5), .int .i64 (s 6), .int .i64 (s 7)] 23)) (w.heap.size + 1) s := by
    have := Blk.new (w.alloc (.cells #[.int .i64 3, .int .i64 n] 25)) 23 (styL s)
    rwa [World.size_alloc] at this
  have c1 := capI_ge n
  have c2 := capI_le n
  have hc := refCapC n
  have hq1 := timesV_ge (size) (capI n)
  have hq2 := timesV_le (size) (capI n)
  have ht : ∀ X, Calls Tryd.prog 21 #[.int .i64 (size), .int .i64 (capI n)] X fun e w' => e = .returned (.int .i64 (timesV (size) (capI n))) ∧ w' = X := fun X => refTimesC (size) (capI n) X
  go_enter Tryd.func14, Tryd.ntmps14
  go_upto_region 1 with fail
  generalize ((w.alloc (.cells #[.int .i64 3, .int .i64 n] 25)).alloc (.cells #[.int .i64 (s 0), .int .i64 (s 1), .int .i64 (s 2), .int .i64 (s 3), .int .i64 (s 4), .int .i64 (s 5), .int .i64 (s 6), .int .i64 (s 7)] 23)) = W at *
  obtain ⟨⟨t0, t1⟩, _⟩ := blk2 kV
  have cp := (kS.cell (p := 5) (by decide)).1
  clear kV kS
  go_wp2_with fail
  refine (hc W).mono ?_
  clear hc
  rintro e w1 ⟨rfl, rfl⟩
  go_wp2_with fail
  refine (ht _).mono ?_
  clear ht
  rintro e w2 ⟨rfl, rfl⟩
  go_wp2
  go_ret
  exact ⟨rfl, b0⟩

set_option maxRecDepth 100000 in
set_option maxHeartbeats 1000000 in
theorem refOne_5_4 (n : Int) (s : Nat → Int) (size : Int) (w : World) : Calls Tryd.prog 14 #[.int .i64 5, .agg #[.int .i64 4, .int .i64 n], .agg #[.int .i64 (s 0), .int .i64 (s 1), .int .i64 (s 2), .int .i64 (s 3), .int .i64 (s 4), .int .i64 (s 5), .int .i64 (s 6), .int .i64 (s 7)], .int .i64 size] w fun e w' => e = .returned (.int .i64 (1099511627776 + capI n)) ∧ Below w.heap.size w w' := by
  have b0 : Below w.heap.size w ((w.alloc (.cells #[.int .i64 4, .int .i64 n] 25)).alloc (.cells #[.int .i64 (s 0), .int .i64 (s 1), .int .i64 (s 2), .int .i64 (s 3), .int .i64 (s 4), .int .i64 (s 5), .int .i64 (s 6), .int .i64 (s 7)] 23)) := ((Below.refl _ w).alloc (Nat.le_refl _) _).alloc (by rw [World.size_alloc]; omega) _
  have kV : Blk ((w.alloc (.cells #[.int .i64 4, .int .i64 n] 25)).alloc (.cells #[.int .i64 (s 0), .int .i64 (s 1), .int .i64 (s 2), .int .i64 (s 3), .int .i64 (s 4), .int .i64 (s 5), .int .i64 (s 6), .int .i64 (s 7)] 23)) w.heap.size 25 [.int .i64 4, .int .i64 n] := (Blk.new w 25 [.int .i64 4, .int .i64 n]).kept (World.grownBy_alloc _ _ none) (by simp)
  have kS : StyAt ((w.alloc (.cells #[.int .i64 4, .int .i64 n] 25)).alloc (.cells #[.int .i64 (s 0), .int .i64 (s 1), .int .i64 (s 2), .int .i64 (s 3), .int .i64 (s 4), .int .i64 (s 5), .int .i64 (s 6), .int .i64 (s 7)] 23)) (w.heap.size + 1) s := by
    have := Blk.new (w.alloc (.cells #[.int .i64 4, .int .i64 n] 25)) 23 (styL s)
    rwa [World.size_alloc] at this
  have c1 := capI_ge n
  have c2 := capI_le n
  have hc := refCapC n
  go_enter Tryd.func14, Tryd.ntmps14
  go_upto_region 1 with fail
  generalize ((w.alloc (.cells #[.int .i64 4, .int .i64 n] 25)).alloc (.cells #[.int .i64 (s 0), .int .i64 (s 1), .int .i64 (s 2), .int .i64 (s 3), .int .i64 (s 4), .int .i64 (s 5), .int .i64 (s 6), .int .i64 (s 7)] 23)) = W at *
  obtain ⟨⟨t0, t1⟩, _⟩ := blk2 kV
  have cp := (kS.cell (p := 5) (by decide)).1
  clear kV kS
  go_wp2_with fail
  refine (hc W).mono ?_
  clear hc
  rintro e w1 ⟨rfl, rfl⟩
  go_wp2
  go_ret
  exact ⟨rfl, b0⟩

set_option maxRecDepth 100000 in
set_option maxHeartbeats 1000000 in
theorem refOne_5_n (k n : Int) (s : Nat → Int) (size : Int) (k7 : (k == 7) = false) (k8 : (k == 8) = false) (k2 : (k == 2) = false) (k3 : (k == 3) = false) (k4 : (k == 4) = false) (w : World) : Calls Tryd.prog 14 #[.int .i64 5, .agg #[.int .i64 k, .int .i64 n], .agg #[.int .i64 (s 0), .int .i64 (s 1), .int .i64 (s 2), .int .i64 (s 3), .int .i64 (s 4), .int .i64 (s 5), .int .i64 (s 6), .int .i64 (s 7)], .int .i64 size] w fun e w' => e = .returned (.int .i64 (0)) ∧ Below w.heap.size w w' := by
  have b0 : Below w.heap.size w ((w.alloc (.cells #[.int .i64 k, .int .i64 n] 25)).alloc (.cells #[.int .i64 (s 0), .int .i64 (s 1), .int .i64 (s 2), .int .i64 (s 3), .int .i64 (s 4), .int .i64 (s 5), .int .i64 (s 6), .int .i64 (s 7)] 23)) := ((Below.refl _ w).alloc (Nat.le_refl _) _).alloc (by rw [World.size_alloc]; omega) _
  have kV : Blk ((w.alloc (.cells #[.int .i64 k, .int .i64 n] 25)).alloc (.cells #[.int .i64 (s 0), .int .i64 (s 1), .int .i64 (s 2), .int .i64 (s 3), .int .i64 (s 4), .int .i64 (s 5), .int .i64 (s 6), .int .i64 (s 7)] 23)) w.heap.size 25 [.int .i64 k, .int .i64 n] := (Blk.new w 25 [.int .i64 k, .int .i64 n]).kept (World.grownBy_alloc _ _ none) (by simp)
  have kS : StyAt ((w.alloc (.cells #[.int .i64 k, .int .i64 n] 25)).alloc (.cells #[.int .i64 (s 0), .int .i64 (s 1), .int .i64 (s 2), .int .i64 (s 3), .int .i64 (s 4), .int .i64 (s 5), .int .i64 (s 6), .int .i64 (s 7)] 23)) (w.heap.size + 1) s := by
    have := Blk.new (w.alloc (.cells #[.int .i64 k, .int .i64 n] 25)) 23 (styL s)
    rwa [World.size_alloc] at this
  have c1 := capI_ge n
  have c2 := capI_le n
  have hc := refCapC n
  have hin : ∀ X, Calls Tryd.prog 22 #[.int .i64 5] X fun e w' => e = .returned (.bool false) ∧ w' = X := fun X => refInherits_any 5 X
  have hit : ∀ X, Calls Tryd.prog 16 #[.int .i64 5] X fun e w' => e = .returned (.int .i64 (0)) ∧ w' = X := fun X => refInitial_any 5 X
  go_enter Tryd.func14, Tryd.ntmps14
  go_upto_region 1 with fail
  generalize ((w.alloc (.cells #[.int .i64 k, .int .i64 n] 25)).alloc (.cells #[.int .i64 (s 0), .int .i64 (s 1), .int .i64 (s 2), .int .i64 (s 3), .int .i64 (s 4), .int .i64 (s 5), .int .i64 (s 6), .int .i64 (s 7)] 23)) = W at *
  obtain ⟨⟨t0, t1⟩, _⟩ := blk2 kV
  have cp := (kS.cell (p := 5) (by decide)).1
  clear kV kS
  go_wp2_with fail
  refine (hc W).mono ?_
  clear hc
  rintro e w1 ⟨rfl, rfl⟩
  go_wp2_with fail
  refine (hin _).mono ?_
  clear hin
  rintro e w2 ⟨rfl, rfl⟩
  go_wp2_with fail
  refine (hit _).mono ?_
  clear hit
  rintro e w3 ⟨rfl, rfl⟩
  go_wp2
  go_ret
  exact ⟨rfl, b0⟩

set_option maxHeartbeats 400000 in
theorem refOne_5 (k n : Int) (s : Nat → Int) (size : Int) (w : World) : Calls Tryd.prog 14 #[.int .i64 5, .agg #[.int .i64 k, .int .i64 n], .agg #[.int .i64 (s 0), .int .i64 (s 1), .int .i64 (s 2), .int .i64 (s 3), .int .i64 (s 4), .int .i64 (s 5), .int .i64 (s 6), .int .i64 (s 7)], .int .i64 size] w fun e w' => e = .returned (.int .i64 (compV 5 k n (s 5) (size))) ∧ Below w.heap.size w w' := by
  by_cases k7 : k = 7
  · subst k7
    rw [show compV 5 7 n (s 5) (size) = s 5 from by simp [compV]]
    exact refOne_5_7 n s size w
  by_cases k8 : k = 8
  · subst k8
    rw [show compV 5 8 n (s 5) (size) = 0 from by simp [compV, ini_5]]
    exact refOne_5_8 n s size w
  by_cases k2 : k = 2
  · subst k2
    rw [show compV 5 2 n (s 5) (size) = capI n from by simp [compV, ownV, lenV]]
    exact refOne_5_2 n s size w
  by_cases k3 : k = 3
  · subst k3
    rw [show compV 5 3 n (s 5) (size) = timesV (size) (capI n) from by simp [compV, ownV, lenV]]
    exact refOne_5_3 n s size w
  by_cases k4 : k = 4
  · subst k4
    rw [show compV 5 4 n (s 5) (size) = 1099511627776 + capI n from by simp [compV, ownV, pctV]]
    exact refOne_5_4 n s size w
  have hn : (ownV 5 k (capI n) (size)).2 = false := by
    unfold ownV keyV lenV pctV numV colV
    repeat' split
    all_goals first | rfl | omega
  rw [show compV 5 k n (s 5) (size) = 0 from by
    unfold compV
    rw [if_neg k7, if_neg k8, hn]
    simp [inh_5, ini_5]]
  exact refOne_5_n k n s size (by simpa using k7) (by simpa using k8) (by simpa using k2) (by simpa using k3) (by simpa using k4) w


end Go.Proofs.YtacdgfjmmomkpaaDoor.Cp
