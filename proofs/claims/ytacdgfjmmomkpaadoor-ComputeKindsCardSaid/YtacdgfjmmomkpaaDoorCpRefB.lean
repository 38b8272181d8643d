/- The document's own one (P1601), properties [2, 3]. -/
import Derived.Test.YtacdgfjmmomkpaaDoorCpRefN
namespace Go.Proofs.YtacdgfjmmomkpaaDoor.Cp
open Go Go.RowKit Vl Nm

set_option maxRecDepth 100000 in
set_option maxHeartbeats 1000000 in
theorem refOne_2_7 (n : Int) (s : Nat → Int) (size : Int) (w : World) : Calls Tryd.prog 14 #[.int .i64 2, .agg #[.int .i64 7, .int .i64 n], .agg #[.int .i64 (s 0), .int .i64 (s 1), .int .i64 (s 2), .int .i64 (s 3), .int .i64 (s 4), .int .i64 (s 5), .int .i64 (s 6), .int .i64 (s 7)], .int .i64 size] w fun e w' => e = .returned (.int .i64 (s 2)) ∧ Below w.heap.size w w' := by
  have b0 : Below w.heap.size w ((w.alloc (.cells #[.int .i64 7, .int .i64 n] 25)).alloc (.cells #[.int .i64 (s 0), .int .i64 (s 1), .int .i64 (s 2), .int .i64 (s 3), .int .i64 (s 4), .int .i64 (s 5), .int .i64 (s 6), .int .i64 (s 7)] 23)) := ((Below.refl _ w).alloc (Nat.le_refl _) _).alloc (by rw [World.size_alloc]; omega) _
  have kV : Blk ((w.alloc (.cells #[.int .i64 7, .int .i64 n] 25)).alloc (.cells #[.int .i64 (s 0), .int .i64 (s 1), .int .i64 (s 2), .int .i64 (s 3), .int .i64 (s 4), .int .i64 (s 5), .int .i64 (s 6), .int .i64 (s 7)] 23)) w.heap.size 25 [.int .i64 7, .int .i64 n] := (Blk.new w 25 [.int .i64 7, .int .i64 n]).kept (World.grownBy_alloc _ _ none) (by simp)
  have kS : StyAt ((w.alloc (.cells #[.int .i64 7, .int .i64 n] 25)).alloc (.cells #[.int .i64 (s 0), .int .i64 (s 1), .int .i64 (s 2), .int .i64 (s 3), .int .i64 (s 4), .int .i64 (s 5), .int .i64 (s 6), .int .i64 (s 7)] 23)) (w.heap.size + 1) s := by
    have := Blk.new (w.alloc (.cells #[.int .i64 7, .int .i64 n] 25)) 23 (styL s)
    rwa [World.size_alloc] at this
  have c1 := capI_ge n
  have c2 := capI_le n
  have hc := refCapC n
  go_enter Tryd.func14, Tryd.ntmps14
  go_upto_region 1 with fail
  generalize ((w.alloc (.cells #[.int .i64 7, .int .i64 n] 25)).alloc (.cells #[.int .i64 (s 0), .int .i64 (s 1), .int .i64 (s 2), .int .i64 (s 3), .int .i64 (s 4), .int .i64 (s 5), .int .i64 (s 6), .int .i64 (s 7)] 23)) = W at *
  obtain ⟨⟨t0, t1⟩, _⟩ := blk2 kV
  have cp := (kS.cell (p := 2) (by decide)).1
  clear kV kS
  go_wp2_with fail
  refine (hc W).mono ?_
  clear hc
  rintro e w1 ⟨rfl, rfl⟩
  go_wp2
  go_ret
  exact ⟨rfl, b0⟩

set_option maxRecDepth 100000 in
set_option maxHeartbeats 1000000 in
theorem refOne_2_8 (n : Int) (s : Nat → Int) (size : Int) (w : World) : Calls Tryd.prog 14 #[.int .i64 2, .agg #[.int .i64 8, .int .i64 n], .agg #[.int .i64 (s 0), .int .i64 (s 1), .int .i64 (s 2), .int .i64 (s 3), .int .i64 (s 4), .int .i64 (s 5), .int .i64 (s 6), .int .i64 (s 7)], .int .i64 size] w fun e w' => e = .returned (.int .i64 (0)) ∧ Below w.heap.size w w' := by
  have b0 : Below w.heap.size w ((w.alloc (.cells #[.int .i64 8, .int .i64 n] 25)).alloc (.cells #[.int .i64 (s 0), .int .i64 (s 1), .int .i64 (s 2), .int .i64 (s 3), .int .i64 (s 4), .int .i64 (s 5), .int .i64 (s 6), .int .i64 (s 7)] 23)) := ((Below.refl _ w).alloc (Nat.le_refl _) _).alloc (by rw [World.size_alloc]; omega) _
  have kV : Blk ((w.alloc (.cells #[.int .i64 8, .int .i64 n] 25)).alloc (.cells #[.int .i64 (s 0), .int .i64 (s 1), .int .i64 (s 2), .int .i64 (s 3), .int .i64 (s 4), .int .i64 (s 5), .int .i64 (s 6), .int .i64 (s 7)] 23)) w.heap.size 25 [.int .i64 8, .int .i64 n] := (Blk.new w 25 [.int .i64 8, .int .i64 n]).kept (World.grownBy_alloc _ _ none) (by simp)
  have kS : StyAt ((w.alloc (.cells #[.int .i64 8, .int .i64 n] 25)).alloc (.cells #[.int .i64 (s 0), .int .i64 (s 1), .int .i64 (s 2), .int .i64 (s 3), .int .i64 (s 4), .int .i64 (s 5), .int .i64 (s 6), .int .i64 (s 7)] 23)) (w.heap.size + 1) s := by
    have := Blk.new (w.alloc (.cells #[.int .i64 8, .int .i64 n] 25)) 23 (styL s)
    rwa [World.size_alloc] at this
  have c1 := capI_ge n
  have c2 := capI_le n
  have hc := refCapC n
  have hit : ∀ X, Calls Tryd.prog 16 #[.int .i64 2] X fun e w' => e = .returned (.int .i64 (0)) ∧ w' = X := fun X => refInitial_any 2 X
  go_enter Tryd.func14, Tryd.ntmps14
  go_upto_region 1 with fail
  generalize ((w.alloc (.cells #[.int .i64 8, .int .i64 n] 25)).alloc (.cells #[.int .i64 (s 0), .int .i64 (s 1), .int .i64 (s 2), .int .i64 (s 3), .int .i64 (s 4), .int .i64 (s 5), .int .i64 (s 6), .int .i64 (s 7)] 23)) = W at *
  obtain ⟨⟨t0, t1⟩, _⟩ := blk2 kV
  have cp := (kS.cell (p := 2) (by decide)).1
  clear kV kS
  go_wp2_with fail
  refine (hc W).mono ?_
  clear hc
  rintro e w1 ⟨rfl, rfl⟩
  go_wp2_with fail
  refine (hit _).mono ?_
  clear hit
  rintro e w2 ⟨rfl, rfl⟩
  go_wp2
  go_ret
  exact ⟨rfl, b0⟩

set_option maxRecDepth 100000 in
set_option maxHeartbeats 1000000 in
theorem refOne_2_1 (n : Int) (s : Nat → Int) (size : Int) (w : World) : Calls Tryd.prog 14 #[.int .i64 2, .agg #[.int .i64 1, .int .i64 n], .agg #[.int .i64 (s 0), .int .i64 (s 1), .int .i64 (s 2), .int .i64 (s 3), .int .i64 (s 4), .int .i64 (s 5), .int .i64 (s 6), .int .i64 (s 7)], .int .i64 size] w fun e w' => e = .returned (.int .i64 (capI n)) ∧ Below w.heap.size w w' := by
  have b0 : Below w.heap.size w ((w.alloc (.cells #[.int .i64 1, .int .i64 n] 25)).alloc (.cells #[.int .i64 (s 0), .int .i64 (s 1), .int .i64 (s 2), .int .i64 (s 3), .int .i64 (s 4), .int .i64 (s 5), .int .i64 (s 6), .int .i64 (s 7)] 23)) := ((Below.refl _ w).alloc (Nat.le_refl _) _).alloc (by rw [World.size_alloc]; omega) _
  have kV : Blk ((w.alloc (.cells #[.int .i64 1, .int .i64 n] 25)).alloc (.cells #[.int .i64 (s 0), .int .i64 (s 1), .int .i64 (s 2), .int .i64 (s 3), .int .i64 (s 4), .int .i64 (s 5), .int .i64 (s 6), .int .i64 (s 7)] 23)) w.heap.size 25 [.int .i64 1, .int .i64 n] := (Blk.new w 25 [.int .i64 1, .int .i64 n]).kept (World.grownBy_alloc _ _ none) (by simp)
  have kS : StyAt ((w.alloc (.cells #[.int .i64 1, .int .i64 n] 25)).alloc (.cells #[.int .i64 (s 0), .int .i64 (s 1), .int .i64 (s 2), .int .i64 (s 3), .int .i64 (s 4), .int .i64 (s 5), .int .i64 (s 6), .int .i64 (s 7)] 23)) (w.heap.size + 1) s := by
    have := Blk.new (w.alloc (.cells #[.int .i64 1, .int .i64 n] 25)) 23 (styL s)
    rwa [World.size_alloc] at this
  have c1 := capI_ge n
  have c2 := capI_le n
  have hc := refCapC n
  go_enter Tryd.func14, Tryd.ntmps14
  go_upto_region 1 with fail
  generalize ((w.alloc (.cells #[.int .i64 1, .int .i64 n] 25)).alloc (.cells #[.int .i64 (s 0), .int .i64 (s 1), .int .i64 (s 2), .int .i64 (s 3), .int .i64 (s 4), .int .i64 (s 5), .int .i64 (s 6), .int .i64 (s 7)] 23)) = W at *
  obtain ⟨⟨t0, t1⟩, _⟩ := blk2 kV
  have cp := (kS.cell (p := 2) (by decide)).1
  clear kV kS
  go_wp2_with fail
  refine (hc W).mono ?_
  clear hc
  rintro e w1 ⟨rfl, rfl⟩
  go_wp2
  go_ret
  exact ⟨rfl, b0⟩

set_option maxRecDepth 100000 in
set_option maxHeartbeats 1000000 in
theorem refOne_2_n (k n : Int) (s : Nat → Int) (size : Int) (k7 : (k == 7) = false) (k8 : (k == 8) = false) (k1 : (k == 1) = false) (w : World) : Calls Tryd.prog 14 #[.int .i64 2, .agg #[.int .i64 k, .int .i64 n], .agg #[.int .i64 (s 0), .int .i64 (s 1), .int .i64 (s 2), .int .i64 (s 3), .int .i64 (s 4), .int .i64 (s 5), .int .i64 (s 6), .int .i64 (s 7)], .int .i64 size] w fun e w' => e = .returned (.int .i64 (s 2)) ∧ Below w.heap.size w w' := by
  have b0 : Below w.heap.size w ((w.alloc (.cells #[.int .i64 k, .int .i64 n] 25)).alloc (.cells #[.int .i64 (s 0), .int .i64 (s 1), .int .i64 (s 2), .int .i64 (s 3), .int .i64 (s 4), .int .i64 (s 5), .int .i64 (s 6), .int .i64 (s 7)] 23)) := ((Below.refl _ w).alloc (Nat.le_refl _) _).alloc (by rw [World.size_alloc]; omega) _
  have kV : Blk ((w.alloc (.cells #[.int .i64 k, .int .i64 n] 25)).alloc (.cells #[.int .i64 (s 0), .int .i64 (s 1), .int .i64 (s 2), .int .i64 (s 3), .int .i64 (s 4), .int .i64 (s 5), .int .i64 (s 6), .int .i64 (s 7)] 23)) w.heap.size 25 [.int .i64 k, .int .i64 n] := (Blk.new w 25 [.int .i64 k, .int .i64 n]).kept (World.grownBy_alloc _ _ none) (by simp)
  have kS : StyAt ((w.alloc (.cells #[.int .i64 k, .int .i64 n] 25)).alloc (.cells #[.int .i64 (s 0), .int .i64 (s 1), .int .i64 (s 2), .int .i64 (s 3), .int .i64 (s 4), .int .i64 (s 5), .int .i64 (s 6), .int .i64 (s 7)] 23)) (w.heap.size + 1) s := by
    have := Blk.new (w.alloc (.cells #[.int .i64 k, .int .i64 n] 25)) 23 (styL s)
    rwa [World.size_alloc] at this
  have c1 := capI_ge n
  have c2 := capI_le n
  have hc := refCapC n
  have hin : ∀ X, Calls Tryd.prog 22 #[.int .i64 2] X fun e w' => e = .returned (.bool true) ∧ w' = X := fun X => refInherits_any 2 X
  go_enter Tryd.func14, Tryd.ntmps14
  go_upto_region 1 with fail
  generalize ((w.alloc (.cells #[.int .i64 k, .int .i64 n] 25)).alloc (.cells #[.int .i64 (s 0), .int .i64 (s 1), .int .i64 (s 2), .int .i64 (s 3), .int .i64 (s 4), .int .i64 (s 5), .int .i64 (s 6), .int .i64 (s 7)] 23)) = W at *
  obtain ⟨⟨t0, t1⟩, _⟩ := blk2 kV
  have cp := (kS.cell (p := 2) (by decide)).1
  clear kV kS
  go_wp2_with fail
  refine (hc W).mono ?_
  clear hc
  rintro e w1 ⟨rfl, rfl⟩
  go_wp2_with fail
  refine (hin _).mono ?_
  clear hin
  rintro e w2 ⟨rfl, rfl⟩
  go_wp2
  go_ret
  exact ⟨rfl, b0⟩

set_option maxHeartbeats 400000 in
theorem refOne_2 (k n : Int) (s : Nat → Int) (size : Int) (w : World) : Calls Tryd.prog 14 #[.int .i64 2, .agg #[.int .i64 k, .int .i64 n], .agg #[.int .i64 (s 0), .int .i64 (s 1), .int .i64 (s 2), .int .i64 (s 3), .int .i64 (s 4), .int .i64 (s 5), .int .i64 (s 6), .int .i64 (s 7)], .int .i64 size] w fun e w' => e = .returned (.int .i64 (compV 2 k n (s 2) (size))) ∧ Below w.heap.size w w' := by
  by_cases k7 : k = 7
  · subst k7
    rw [show compV 2 7 n (s 2) (size) = s 2 from by simp [compV]]
    exact refOne_2_7 n s size w
  by_cases k8 : k = 8
  · subst k8
    rw [show compV 2 8 n (s 2) (size) = 0 from by simp [compV, ini_2]]
    exact refOne_2_8 n s size w
  by_cases k1 : k = 1
  · subst k1
    rw [show compV 2 1 n (s 2) (size) = capI n from by simp [compV, ownV, keyV]]
    exact refOne_2_1 n s size w
  have hn : (ownV 2 k (capI n) (size)).2 = false := by
    unfold ownV keyV lenV pctV numV colV
    repeat' split
    all_goals first | rfl | omega
  rw [show compV 2 k n (s 2) (size) = s 2 from by
    unfold compV
    rw [if_neg k7, if_neg k8, hn]
    simp [inh_2]]
  exact refOne_2_n k n s size (by simpa using k7) (by simpa using k8) (by simpa using k1) w

set_option maxRecDepth 100000 in
set_option maxHeartbeats 1000000 in
theorem refOne_3_7 (n : Int) (s : Nat → Int) (size : Int) (w : World) : Calls Tryd.prog 14 #[.int .i64 3, .agg #[.int .i64 7, .int .i64 n], .agg #[.int .i64 (s 0), .int .i64 (s 1), .int .i64 (s 2), .int .i64 (s 3), .int .i64 (s 4), .int .i64 (s 5), .int .i64 (s 6), .int .i64 (s 7)], .int .i64 size] w fun e w' => e = .returned (.int .i64 (s 3)) ∧ Below w.heap.size w w' := by
  have b0 : Below w.heap.size w ((w.alloc (.cells #[.int .i64 7, .int .i64 n] 25)).alloc (.cells #[.int .i64 (s 0), .int .i64 (s 1), .int .i64 (s 2), .int .i64 (s 3), .int .i64 (s 4), .int .i64 (s 5), .int .i64 (s 6), .int .i64 (s 7)] 23)) := ((Below.refl _ w).alloc (Nat.le_refl _) _).alloc (by rw [World.size_alloc]; omega) _
  have kV : Blk ((w.alloc (.cells #[.int .i64 7, .int .i64 n] 25)).alloc (.cells #[.int .i64 (s 0), .int .i64 (s 1), .int .i64 (s 2), .int .i64 (s 3), .int .i64 (s 4), .int .i64 (s 5), .int .i64 (s 6), .int .i64 (s 7)] 23)) w.heap.size 25 [.int .i64 7, .int .i64 n] := (Blk.new w 25 [.int .i64 7, .int .i64 n]).kept (World.grownBy_alloc _ _ none) (by simp)
  have kS : StyAt ((w.alloc (.cells #[.int .i64 7, .int .i64 n] 25)).alloc (.cells #[.int .i64 (s 0), .int .i64 (s 1), .int .i64 (s 2), .int .i64 (s 3), .int .i64 (s 4), .int .i64 (s 5), .int .i64 (s 6), .int .i64 (s 7)] 23)) (w.heap.size + 1) s := by
    have := Blk.new (w.alloc (.cells #[.int .i64 7, .int .i64 n] 25)) 23 (styL s)
    rwa [World.size_alloc] at this
  have c1 := capI_ge n
  have c2 := capI_le n
  have hc := refCapC n
  go_enter Tryd.func14, Tryd.ntmps14
  go_upto_region 1 with fail
  generalize ((w.alloc (.cells #[.int .i64 7, .int .i64 n] 25)).alloc (.cells #[.int .i64 (s 0), .int .i64 (s 1), .int .i64 (s 2), .int .i64 (s 3), .int .i64 (s 4), .int .i64 (s 5), .int .i64 (s 6), .int .i64 (s 7)] 23)) = W at *
  obtain ⟨⟨t0, t1⟩, _⟩ := blk2 kV
  have cp := (kS.cell (p := 3) (by decide)).1
  clear kV kS
  go_wp2_with fail
  refine (hc W).mono ?_
  clear hc
  rintro e w1 ⟨rfl, rfl⟩
  go_wp2
  go_ret
  exact ⟨rfl, b0⟩

set_option maxRecDepth 100000 in
set_option maxHeartbeats 1000000 in
theorem refOne_3_8 (n : Int) (s : Nat → Int) (size : Int) (w : World) : Calls Tryd.prog 14 #[.int .i64 3, .agg #[.int .i64 8, .int .i64 n], .agg #[.int .i64 (s 0), .int .i64 (s 1), .int .i64 (s 2), .int .i64 (s 3), .int .i64 (s 4), .int .i64 (s 5), .int .i64 (s 6), .int .i64 (s 7)], .int .i64 size] w fun e w' => e = .returned (.int .i64 (2)) ∧ Below w.heap.size w w' := by
  have b0 : Below w.heap.size w ((w.alloc (.cells #[.int .i64 8, .int .i64 n] 25)).alloc (.cells #[.int .i64 (s 0), .int .i64 (s 1), .int .i64 (s 2), .int .i64 (s 3), .int .i64 (s 4), .int .i64 (s 5), .int .i64 (s 6), .int .i64 (s 7)] 23)) := ((Below.refl _ w).alloc (Nat.le_refl _) _).alloc (by rw [World.size_alloc]; omega) _
  have kV : Blk ((w.alloc (.cells #[.int .i64 8, .int .i64 n] 25)).alloc (.cells #[.int .i64 (s 0), .int .i64 (s 1), .int .i64 (s 2), .int .i64 (s 3), .int .i64 (s 4), .int .i64 (s 5), .int .i64 (s 6), .int .i64 (s 7)] 23)) w.heap.size 25 [.int .i64 8, .int .i64 n] := (Blk.new w 25 [.int .i64 8, .int .i64 n]).kept (World.grownBy_alloc _ _ none) (by simp)
  have kS : StyAt ((w.alloc (.cells #[.int .i64 8, .int .i64 n] 25)).alloc (.cells #[.int .i64 (s 0), .int .i64 (s 1), .int .i64 (s 2), .int .i64 (s 3), .int .i64 (s 4), .int .i64 (s 5), .int .i64 (s 6), .int .i64 (s 7)] 23)) (w.heap.size + 1) s := by
    have := Blk.new (w.alloc (.cells #[.int .i64 8, .int .i64 n] 25)) 23 (styL s)
    rwa [World.size_alloc] at this
  have c1 := capI_ge n
  have c2 := capI_le n
  have hc := refCapC n
  have hit : ∀ X, Calls Tryd.prog 16 #[.int .i64 3] X fun e w' => e = .returned (.int .i64 (2)) ∧ w' = X := fun X => refInitial_any 3 X
  go_enter Tryd.func14, Tryd.ntmps14
  go_upto_region 1 with fail
  generalize ((w.alloc (.cells #[.int .i64 8, .int .i64 n] 25)).alloc (.cells #[.int .i64 (s 0), .int .i64 (s 1), .int .i64 (s 2), .int .i64 (s 3), .int .i64 (s 4), .int .i64 (s 5), .int .i64 (s 6), .int .i64 (s 7)] 23)) = W at *
  obtain ⟨⟨t0, t1⟩, _⟩ := blk2 kV
  have cp := (kS.cell (p := 3) (by decide)).1
  clear kV kS
  go_wp2_with fail
  refine (hc W).mono ?_
  clear hc
  rintro e w1 ⟨rfl, rfl⟩
  go_wp2_with fail
  refine (hit _).mono ?_
  clear hit
  rintro e w2 ⟨rfl, rfl⟩
  go_wp2
  go_ret
  exact ⟨rfl, b0⟩

set_option maxRecDepth 100000 in
set_option maxHeartbeats 1000000 in
theorem refOne_3_1 (n : Int) (s : Nat → Int) (size : Int) (w : World) : Calls Tryd.prog 14 #[.int .i64 3, .agg #[.int .i64 1, .int .i64 n], .agg #[.int .i64 (s 0), .int .i64 (s 1), .int .i64 (s 2), .int .i64 (s 3), .int .i64 (s 4), .int .i64 (s 5), .int .i64 (s 6), .int .i64 (s 7)], .int .i64 size] w fun e w' => e = .returned (.int .i64 (capI n)) ∧ Below w.heap.size w w' := by
  have b0 : Below w.heap.size w ((w.alloc (.cells #[.int .i64 1, .int .i64 n] 25)).alloc (.cells #[.int .i64 (s 0), .int .i64 (s 1), .int .i64 (s 2), .int .i64 (s 3), .int .i64 (s 4), .int .i64 (s 5), .int .i64 (s 6), .int .i64 (s 7)] 23)) := ((Below.refl _ w).alloc (Nat.le_refl _) _).alloc (by rw [World.size_alloc]; omega) _
  have kV : Blk ((w.alloc (.cells #[.int .i64 1, .int .i64 n] 25)).alloc (.cells #[.int .i64 (s 0), .int .i64 (s 1), .int .i64 (s 2), .int .i64 (s 3), .int .i64 (s 4), .int .i64 (s 5), .int .i64 (s 6), .int .i64 (s 7)] 23)) w.heap.size 25 [.int .i64 1, .int .i64 n] := (Blk.new w 25 [.int .i64 1, .int .i64 n]).kept (World.grownBy_alloc _ _ none) (by simp)
  have kS : StyAt ((w.alloc (.cells #[.int .i64 1, .int .i64 n] 25)).alloc (.cells #[.int .i64 (s 0), .int .i64 (s 1), .int .i64 (s 2), .int .i64 (s 3), .int .i64 (s 4), .int .i64 (s 5), .int .i64 (s 6), .int .i64 (s 7)] 23)) (w.heap.size + 1) s := by
    have := Blk.new (w.alloc (.cells #[.int .i64 1, .int .i64 n] 25)) 23 (styL s)
    rwa [World.size_alloc] at this
  have c1 := capI_ge n
  have c2 := capI_le n
  have hc := refCapC n
  go_enter Tryd.func14, Tryd.ntmps14
  go_upto_region 1 with fail
  generalize ((w.alloc (.cells #[.int .i64 1, .int .i64 n] 25)).alloc (.cells #[.int .i64 (s 0), .int .i64 (s 1), .int .i64 (s 2), .int .i64 (s 3), .int .i64 (s 4), .int .i64 (s 5), .int .i64 (s 6), .int .i64 (s 7)] 23)) = W at *
  obtain ⟨⟨t0, t1⟩, _⟩ := blk2 kV
  have cp := (kS.cell (p := 3) (by decide)).1
  clear kV kS
  go_wp2_with fail
  refine (hc W).mono ?_
  clear hc
  rintro e w1 ⟨rfl, rfl⟩
  go_wp2
  go_ret
  exact ⟨rfl, b0⟩

set_option maxRecDepth 100000 in
set_option maxHeartbeats 1000000 in
theorem refOne_3_n (k n : Int) (s : Nat → Int) (size : Int) (k7 : (k == 7) = false) (k8 : (k == 8) = false) (k1 : (k == 1) = false) (w : World) : Calls Tryd.prog 14 #[.int .i64 3, .agg #[.int .i64 k, .int .i64 n], .agg #[.int .i64 (s 0), .int .i64 (s 1), .int .i64 (s 2), .int .i64 (s 3), .int .i64 (s 4), .int .i64 (s 5), .int .i64 (s 6), .int .i64 (s 7)], .int .i64 size] w fun e w' => e = .returned (.int .i64 (2)) ∧ Below w.heap.size w w' := by
  have b0 : Below w.heap.size w ((w.alloc (.cells #[.int .i64 k, .int .i64 n] 25)).alloc (.cells #[.int .i64 (s 0), .int .i64 (s 1), .int .i64 (s 2), .int .i64 (s 3), .int .i64 (s 4), .int .i64 (s 5), .int .i64 (s 6), .int .i64 (s 7)] 23)) := ((Below.refl _ w).alloc (Nat.le_refl _) _).alloc (by rw [World.size_alloc]; omega) _
  have kV : Blk ((w.alloc (.cells #[.int .i64 k, .int .i64 n] 25)).alloc (.cells #[.int .i64 (s 0), .int .i64 (s 1), .int .i64 (s 2), .int .i64 (s 3), .int .i64 (s 4), .int .i64 (s 5), .int .i64 (s 6), .int .i64 (s 7)] 23)) w.heap.size 25 [.int .i64 k, .int .i64 n] := (Blk.new w 25 [.int .i64 k, .int .i64 n]).kept (World.grownBy_alloc _ _ none) (by simp)
  have kS : StyAt ((w.alloc (.cells #[.int .i64 k, .int .i64 n] 25)).alloc (.cells #[.int .i64 (s 0), .int .i64 (s 1), .int .i64 (s 2), .int .i64 (s 3), .int .i64 (s 4), .int .i64 (s 5), .int .i64 (s 6), .int .i64 (s 7)] 23)) (w.heap.size + 1) s := by
    have := Blk.new (w.alloc (.cells #[.int .i64 k, .int .i64 n] 25)) 23 (styL s)
    rwa [World.size_alloc] at this
  have c1 := capI_ge n
  have c2 := capI_le n
  have hc := refCapC n
  have hin : ∀ X, Calls Tryd.prog 22 #[.int .i64 3] X fun e w' => e = .returned (.bool false) ∧ w' = X := fun X => refInherits_any 3 X
  have hit : ∀ X, Calls Tryd.prog 16 #[.int .i64 3] X fun e w' => e = .returned (.int .i64 (2)) ∧ w' = X := fun X => refInitial_any 3 X
  go_enter Tryd.func14, Tryd.ntmps14
  go_upto_region 1 with fail
  generalize ((w.alloc (.cells #[.int .i64 k, .int .i64 n] 25)).alloc (.cells #[.int .i64 (s 0), .int .i64 (s 1), .int .i64 (s 2), .int .i64 (s 3), .int .i64 (s 4), .int .i64 (s 5), .int .i64 (s 6), .int .i64 (s 7)] 23)) = W at *
  obtain ⟨⟨t0, t1⟩, _⟩ := blk2 kV
  have cp := (kS.cell (p := 3) (by decide)).1
  clear kV kS
  go_wp2_with fail
  refine (hc W).mono ?_
  clear hc
  rintro e w1 ⟨rfl, rfl⟩
  go_wp2_with fail
  refine (hin _).mono ?_
  clear hin
  rintro e w2 ⟨rfl, rfl⟩
  go_wp2_with fail
  refine (hit _).mono ?_
  clear hit
  rintro e w3 ⟨rfl, rfl⟩
  go_wp2
  go_ret
  exact ⟨rfl, b0⟩

set_option maxHeartbeats 400000 in
theorem refOne_3 (k n : Int) (s : Nat → Int) (size : Int) (w : World) : Calls Tryd.prog 14 #[.int .i64 3, .agg #[.int .i64 k, .int .i64 n], .agg #[.int .i64 (s 0), .int .i64 (s 1), .int .i64 (s 2), .int .i64 (s 3), .int .i64 (s 4), .int .i64 (s 5), .int .i64 (s 6), .int .i64 (s 7)], .int .i64 size] w fun e w' => e = .returned (.int .i64 (compV 3 k n (s 3) (size))) ∧ Below w.heap.size w w' := by
  by_cases k7 : k = 7
  · subst k7
    rw [show compV 3 7 n (s 3) (size) = s 3 from by simp [compV]]
    exact refOne_3_7 n s size w
  by_cases k8 : k = 8
  · subst k8
    rw [show compV 3 8 n (s 3) (size) = 2 from by simp [compV, ini_3]]
    exact refOne_3_8 n s size w
  by_cases k1 : k = 1
  · subst k1
    rw [show compV 3 1 n (s 3) (size) = capI n from by simp [compV, ownV, keyV]]
    exact refOne_3_1 n s size w
  have hn : (ownV 3 k (capI n) (size)).2 = false := by
    unfold ownV keyV lenV pctV numV colV
    repeat' split
    all_goals first | rfl | omega
  rw [show compV 3 k n (s 3) (size) = 2 from by
    unfold compV
    rw [if_neg k7, if_neg k8, hn]
    simp [inh_3, ini_3]]
  exact refOne_3_n k n s size (by simpa using k7) (by simpa using k8) (by simpa using k1) w


end Go.Proofs.YtacdgfjmmomkpaaDoor.Cp
