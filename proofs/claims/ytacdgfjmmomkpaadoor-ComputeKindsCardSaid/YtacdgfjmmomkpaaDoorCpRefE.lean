/- The document's own one (P1601), properties [6, 7]. -/
import Derived.Test.YtacdgfjmmomkpaaDoorCpRefN
namespace Go.Proofs.YtacdgfjmmomkpaaDoor.Cp
open Go Go.RowKit Vl Nm

set_option maxRecDepth 100000 in
set_option maxHeartbeats 1000000 in
theorem refOne_6_7 (n : Int) (s : Nat → Int) (size : Int) (w : World) : Calls Tryd.prog 14 #[.int .i64 6, .agg #[.int .i64 7, .int .i64 n], .agg #[.int .i64 (s 0), .int .i64 (s 1), .int .i64 (s 2), .int .i64 (s 3), .int .i64 (s 4), .int .i64 (s 5), .int .i64 (s 6), .int .i64 (s 7)], .int .i64 size] w fun e w' => e = .returned (.int .i64 (s 6)) ∧ Below w.heap.size w w' := by
  have b0 : Below w.heap.size w ((w.alloc (.cells #[.int .i64 7, .int .i64 n] 25)).alloc (.cells #[.int .i64 (s 0), .int .i64 (s 1), .int .i64 (s 2), .int .i64 (s 3), .int .i64 (s 4), .int .i64 (s 5), .int .i64 (s 6), .int .i64 (s 7)] 23)) := ((Below.refl _ w).alloc (Nat.le_refl _) _).alloc (by rw [World.size_alloc]; omega) _
  have kV : Blk ((w.alloc (.cells #[.int .i64 7, .int .i64 n] 25)).alloc (.cells #[.int .i64 (s 0), .int .i64 (s 1), .int .i64 (s 2), .int .i64 (s 3), .int .i64 (s 4), .int .i64 (s 5), .int .i64 (s 6), .int .i64 (s 7)] 23)) w.heap.size 25 [.int .i64 7, .int .i64 n] := (Blk.new w 25 [.int .i64 7, .int .i64 n]).kept (World.grownBy_alloc _ _ none) (by simp)
  have kS : StyAt ((w.alloc (.cells #[.int .i64 7, .int .i64 n] 25)).alloc (.cells #[.int .i64 (s 0), .int .i64 (s 1), .int .i64 (s 2), .int .i64 (s 3), .int .i64 (s 4), .int .i64 (s 5), .int .i64 (s 6), .int .i64 (s 7)] 23)) (w.heap.size + 1) s := by
    have := Blk.new (w.alloc (.cells #[.int .i64 7, .int .i64 n] 25)) 23 (styL s)
    rwa [World.size_alloc] at this
  have c1 := capI_ge n
  have c2 := capI_le n
  have hc := refCapC n
  go_enter Tryd.func14, Tryd.ntmps14
  go_upto_region 1 with fail
  generalize ((w.alloc (.cells #[.int .i64 7, .int .i64 n] 25)).alloc (.cells #[.int .i64 (s 0), .int .i64 (s 1), .int .i64 (s 2), .int .i64 (s 3), .int .i64 (s 4), .int .i64 (s 5), .int .i64 (s 6), .int .i64 (s 7)] 23)) = W at *
  obtain ⟨⟨t0, t1⟩, _⟩ := blk2 kV
  have cp := (kS.cell (p := 6) (by decide)).1
  clear kV kS
  go_wp2_with fail
  refine (hc W).mono ?_
  clear hc
  rintro e w1 ⟨rfl, rfl⟩
  go_wp2
  go_ret
  exact ⟨rfl, b0⟩

set_option maxRecDepth 100000 in
set_option maxHeartbeats 1000000 in
theorem refOne_6_8 (n : Int) (s : Nat → Int) (size : Int) (w : World) : Calls Tryd.prog 14 #[.int .i64 6, .agg #[.int .i64 8, .int .i64 n], .agg #[.int .i64 (s 0), .int .i64 (s 1), .int .i64 (s 2), .int .i64 (s 3), .int .i64 (s 4), .int .i64 (s 5), .int .i64 (s 6), .int .i64 (s 7)], .int .i64 size] w fun e w' => e = .returned (.int .i64 (1000)) ∧ Below w.heap.size w w' := by
  have b0 : Below w.heap.size w ((w.alloc (.cells #[.int .i64 8, .int .i64 n] 25)).alloc (.cells #[.int .i64 (s 0), .int .i64 (s 1), .int .i64 (s 2), .int .i64 (s 3), .int .i64 (s 4), .int .i64 (s 5), .int .i64 (s 6), .int .i64 (s 7)] 23)) := ((Below.refl _ w).alloc (Nat.le_refl _) _).alloc (by rw [World.size_alloc]; omega) _
  have kV : Blk ((w.alloc (.cells #[.int .i64 8, .int .i64 n] 25)).alloc (.cells #[.int .i64 (s 0), .int .i64 (s 1), .int .i64 (s 2), .int .i64 (s 3), .int .i64 (s 4), .int .i64 (s 5), .int .i64 (s 6), .int .i64 (s 7)] 23)) w.heap.size 25 [.int .i64 8, .int .i64 n] := (Blk.new w 25 [.int .i64 8, .int .i64 n]).kept (World.grownBy_alloc _ _ none) (by simp)
  have kS : StyAt ((w.alloc (.cells #[.int .i64 8, .int .i64 n] 25)).alloc (.cells #[.int .i64 (s 0), .int .i64 (s 1), .int .i64 (s 2), .int .i64 (s 3), .int .i64 (s 4), .int .i64 (s 5), .int .i64 (s 6), .int .i64 (s 7)] 23)) (w.heap.size + 1) s := by
    have := Blk.new (w.alloc (.cells #[.int .i64 8, .int .i64 n] 25)) 23 (styL s)
    rwa [World.size_alloc] at this
  have c1 := capI_ge n
  have c2 := capI_le n
  have hc := refCapC n
  have hit : ∀ X, Calls Tryd.prog 16 #[.int .i64 6] X fun e w' => e = .returned (.int .i64 (1000)) ∧ w' = X := fun X => refInitial_any 6 X
  go_enter Tryd.func14, Tryd.ntmps14
  go_upto_region 1 with fail
  generalize ((w.alloc (.cells #[.int .i64 8, .int .i64 n] 25)).alloc (.cells #[.int .i64 (s 0), .int .i64 (s 1), .int .i64 (s 2), .int .i64 (s 3), .int .i64 (s 4), .int .i64 (s 5), .int .i64 (s 6), .int .i64 (s 7)] 23)) = W at *
  obtain ⟨⟨t0, t1⟩, _⟩ := blk2 kV
  have cp := (kS.cell (p := 6) (by decide)).1
  clear kV kS
  go_wp2_with fail
  refine (hc W).mono ?_
  clear hc
  rintro e w1 ⟨rfl, rfl⟩
  go_wp2_with fail
  refine (hit _).mono ?_
  clear hit
  rintro e w2 ⟨rfl, rfl⟩
  go_wp2
  go_ret
  exact ⟨rfl, b0⟩

set_option maxRecDepth 100000 in
set_option maxHeartbeats 1000000 in
theorem refOne_6_5 (n : Int) (s : Nat → Int) (size : Int) (w : World) : Calls Tryd.prog 14 #[.int .i64 6, .agg #[.int .i64 5, .int .i64 n], .agg #[.int .i64 (s 0), .int .i64 (s 1), .int .i64 (s 2), .int .i64 (s 3), .int .i64 (s 4), .int .i64 (s 5), .int .i64 (s 6), .int .i64 (s 7)], .int .i64 size] w fun e w' => e = .returned (.int .i64 (capI n)) ∧ Below w.heap.size w w' := by
  have b0 : Below w.heap.size w ((w.alloc (.cells #[.int .i64 5, .int .i64 n] 25)).alloc (.cells #[.int .i64 (s 0), .int .i64 (s 1), .int .i64 (s 2), .int .i64 (s 3), .int .i64 (s 4), .int .i64 (s 5), .int .i64 (s 6), .int .i64 (s 7)] 23)) := ((Below.refl _ w).alloc (Nat.le_refl _) _).alloc (by rw [World.size_alloc]; omega) _
  have kV : Blk ((w.alloc (.cells #[.int .i64 5, .int .i64 n] 25)).alloc (.cells #[.int .i64 (s 0), .int .i64 (s 1), .int .i64 (s 2), .int .i64 (s 3), .int .i64 (s 4), .int .i64 (s 5), .int .i64 (s 6), .int .i64 (s 7)] 23)) w.heap.size 25 [.int .i64 5, .int .i64 n] := (Blk.new w 25 [.int .i64 5, .int .i64 n]).kept (World.grownBy_alloc _ _ none) (by simp)
  have kS : StyAt ((w.alloc (.cells #[.int .i64 5, .int .i64 n] 25)).alloc (.cells #[.int .i64 (s 0), .int .i64 (s 1), .int .i64 (s 2), .int .i64 (s 3), .int .i64 (s 4), .int .i64 (s 5), .int .i64 (s 6), .int .i64 (s 7)] 23)) (w.heap.size + 1) s := by
    have := Blk.new (w.alloc (.cells #[.int .i64 5, .int .i64 n] 25)) 23 (styL s)
    rwa [World.size_alloc] at this
  have c1 := capI_ge n
  have c2 := capI_le n
  have hc := refCapC n
  go_enter Tryd.func14, Tryd.ntmps14
  go_upto_region 1 with fail
  generalize ((w.alloc (.cells #[.int .i64 5, .int .i64 n] 25)).alloc (.cells #[.int .i64 (s 0), .int .i64 (s 1), .int .i64 (s 2), .int .i64 (s 3), .int .i64 (s 4), .int .i64 (s 5), .int .i64 (s 6), .int .i64 (s 7)] 23)) = W at *
  obtain ⟨⟨t0, t1⟩, _⟩ := blk2 kV
  have cp := (kS.cell (p := 6) (by decide)).1
  clear kV kS
  go_wp2_with fail
  refine (hc W).mono ?_
  clear hc
  rintro e w1 ⟨rfl, rfl⟩
  go_wp2
  go_ret
  exact ⟨rfl, b0⟩

set_option maxRecDepth 100000 in
set_option maxHeartbeats 1000000 in
theorem refOne_6_n (k n : Int) (s : Nat → Int) (size : Int) (k7 : (k == 7) = false) (k8 : (k == 8) = false) (k5 : (k == 5) = false) (w : World) : Calls Tryd.prog 14 #[.int .i64 6, .agg #[.int .i64 k, .int .i64 n], .agg #[.int .i64 (s 0), .int .i64 (s 1), .int .i64 (s 2), .int .i64 (s 3), .int .i64 (s 4), .int .i64 (s 5), .int .i64 (s 6), .int .i64 (s 7)], .int .i64 size] w fun e w' => e = .returned (.int .i64 (1000)) ∧ Below w.heap.size w w' := by
  have b0 : Below w.heap.size w ((w.alloc (.cells #[.int .i64 k, .int .i64 n] 25)).alloc (.cells #[.int .i64 (s 0), .int .i64 (s 1), .int .i64 (s 2), .int .i64 (s 3), .int .i64 (s 4), .int .i64 (s 5), .int .i64 (s 6), .int .i64 (s 7)] 23)) := ((Below.refl _ w).alloc (Nat.le_refl _) _).alloc (by rw [World.size_alloc]; omega) _
  have kV : Blk ((w.alloc (.cells #[.int .i64 k, .int .i64 n] 25)).alloc (.cells #[.int .i64 (s 0), .int .i64 (s 1), .int .i64 (s 2), .int .i64 (s 3), .int .i64 (s 4), .int .i64 (s 5), .int .i64 (s 6), .int .i64 (s 7)] 23)) w.heap.size 25 [.int .i64 k, .int .i64 n] := (Blk.new w 25 [.int .i64 k, .int .i64 n]).kept (World.grownBy_alloc _ _ none) (by simp)
  have kS : StyAt ((w.alloc (.cells #[.int .i64 k, .int .i64 n] 25)).alloc (.cells #[.int .i64 (s 0), .int .i64 (s 1), .int .i64 (s 2), .int .i64 (s 3), .int .i64 (s 4), .int .i64 (s 5), .int .i64 (s 6), .int .i64 (s 7)] 23)) (w.heap.size + 1) s := by
    have := Blk.new (w.alloc (.cells #[.int .i64 k, .int .i64 n] 25)) 23 (styL s)
    rwa [World.size_alloc] at this
  have c1 := capI_ge n
  have c2 := capI_le n
  have hc := refCapC n
  have hin : ∀ X, Calls Tryd.prog 22 #[.int .i64 6] X fun e w' => e = .returned (.bool false) ∧ w' = X := fun X => refInherits_any 6 X
  have hit : ∀ X, Calls Tryd.prog 16 #[.int .i64 6] X fun e w' => e = .returned (.int .i64 (1000)) ∧ w' = X := fun X => refInitial_any 6 X
  go_enter Tryd.func14, Tryd.ntmps14
  go_upto_region 1 with fail
  generalize ((w.alloc (.cells #[.int .i64 k, .int .i64 n] 25)).alloc (.cells #[.int .i64 (s 0), .int .i64 (s 1), .int .i64 (s 2), .int .i64 (s 3), .int .i64 (s 4), .int .i64 (s 5), .int .i64 (s 6), .int .i64 (s 7)] 23)) = W at *
  obtain ⟨⟨t0, t1⟩, _⟩ := blk2 kV
  have cp := (kS.cell (p := 6) (by decide)).1
  clear kV kS
  go_wp2_with fail
  refine (hc W).mono ?_
  clear hc
  rintro e w1 ⟨rfl, rfl⟩
  go_wp2_with fail
  refine (hin _).mono ?_
  clear hin
  rintro e w2 ⟨rfl, rfl⟩
  go_wp2_with fail
  refine (hit _).mono ?_
  clear hit
  rintro e w3 ⟨rfl, rfl⟩
  go_wp2
  go_ret
  exact ⟨rfl, b0⟩

set_option maxHeartbeats 400000 in
theorem refOne_6 (k n : Int) (s : Nat → Int) (size : Int) (w : World) : Calls Tryd.prog 14 #[.int .i64 6, .agg #[.int .i64 k, .int .i64 n], .agg #[.int .i64 (s 0), .int .i64 (s 1), .int .i64 (s 2), .int .i64 (s 3), .int .i64 (s 4), .int .i64 (s 5), .int .i64 (s 6), .int .i64 (s 7)], .int .i64 size] w fun e w' => e = .returned (.int .i64 (compV 6 k n (s 6) (size))) ∧ Below w.heap.size w w' := by
  by_cases k7 : k = 7
  · subst k7
    rw [show compV 6 7 n (s 6) (size) = s 6 from by simp [compV]]
    exact refOne_6_7 n s size w
  by_cases k8 : k = 8
  · subst k8
    rw [show compV 6 8 n (s 6) (size) = 1000 from by simp [compV, ini_6]]
    exact refOne_6_8 n s size w
  by_cases k5 : k = 5
  · subst k5
    rw [show compV 6 5 n (s 6) (size) = capI n from by simp [compV, ownV, numV]]
    exact refOne_6_5 n s size w
  have hn : (ownV 6 k (capI n) (size)).2 = false := by
    unfold ownV keyV lenV pctV numV colV
    repeat' split
    all_goals first | rfl | omega
  rw [show compV 6 k n (s 6) (size) = 1000 from by
    unfold compV
    rw [if_neg k7, if_neg k8, hn]
    simp [inh_6, ini_6]]
  exact refOne_6_n k n s size (by simpa using k7) (by simpa using k8) (by simpa using k5) w

set_option maxRecDepth 100000 in
set_option maxHeartbeats 1000000 in
theorem refOne_7_7 (n : Int) (s : Nat → Int) (size : Int) (w : World) : Calls Tryd.prog 14 #[.int .i64 7, .agg #[.int .i64 7, .int .i64 n], .agg #[.int .i64 (s 0), .int .i64 (s 1), .int .i64 (s 2), .int .i64 (s 3), .int .i64 (s 4), .int .i64 (s 5), .int .i64 (s 6), .int .i64 (s 7)], .int .i64 size] w fun e w' => e = .returned (.int .i64 (s 7)) ∧ Below w.heap.size w w' := by
  have b0 : Below w.heap.size w ((w.alloc (.cells #[.int .i64 7, .int .i64 n] 25)).alloc (.cells #[.int .i64 (s 0), .int .i64 (s 1), .int .i64 (s 2), .int .i64 (s 3), .int .i64 (s 4), .int .i64 (s 5), .int .i64 (s 6), .int .i64 (s 7)] 23)) := ((Below.refl _ w).alloc (Nat.le_refl _) _).alloc (by rw [World.size_alloc]; omega) _
  have kV : Blk ((w.alloc (.cells #[.int .i64 7, .int .i64 n] 25)).alloc (.cells #[.int .i64 (s 0), .int .i64 (s 1), .int .i64 (s 2), .int .i64 (s 3), .int .i64 (s 4), .int .i64 (s 5), .int .i64 (s 6), .int .i64 (s 7)] 23)) w.heap.size 25 [.int .i64 7, .int .i64 n] := (Blk.new w 25 [.int .i64 7, .int .i64 n]).kept (World.grownBy_alloc _ _ none) (by simp)
  have kS : StyAt ((w.alloc (.cells #[.int .i64 7, .int .i64 n] 25)).alloc (.cells #[.int .i64 (s 0), .int .i64 (s 1), .int .i64 (s 2), .int .i64 (s 3), .int .i64 (s 4), .int .i64 (s 5), .int .i64 (s 6), .int .i64 (s 7)] 23)) (w.heap.size + 1) s := by
    have := Blk.new (w.alloc (.cells #[.int .i64 7, .int .i64 n] 25)) 23 (styL s)
    rwa [World.size_alloc] at this
  have c1 := capI_ge n
  have c2 := capI_le n
  have hc := refCapC n
  go_enter Tryd.func14, Tryd.ntmps14
  go_upto_region 1 with fail
  generalize ((w.alloc (.cells #[.int .i64 7, .int .i64 n] 25)).alloc (.cells #[.int .i64 (s 0), .int .i64 (s 1), .int .i64 (s 2), .int .i64 (s 3), .int .i64 (s 4), .int .i64 (s 5), .int .i64 (s 6), .int .i64 (s 7)] 23)) = W at *
  obtain ⟨⟨t0, t1⟩, _⟩ := blk2 kV
  have cp := (kS.cell (p := 7) (by decide)).1
  clear kV kS
  go_wp2_with fail
  refine (hc W).mono ?_
  clear hc
  rintro e w1 ⟨rfl, rfl⟩
  go_wp2
  go_ret
  exact ⟨rfl, b0⟩

set_option maxRecDepth 100000 in
set_option maxHeartbeats 1000000 in
theorem refOne_7_8 (n : Int) (s : Nat → Int) (size : Int) (w : World) : Calls Tryd.prog 14 #[.int .i64 7, .agg #[.int .i64 8, .int .i64 n], .agg #[.int .i64 (s 0), .int .i64 (s 1), .int .i64 (s 2), .int .i64 (s 3), .int .i64 (s 4), .int .i64 (s 5), .int .i64 (s 6), .int .i64 (s 7)], .int .i64 size] w fun e w' => e = .returned (.int .i64 (1099511627776)) ∧ Below w.heap.size w w' := by
  have b0 : Below w.heap.size w ((w.alloc (.cells #[.int .i64 8, .int .i64 n] 25)).alloc (.cells #[.int .i64 (s 0), .int .i64 (s 1), .int .i64 (s 2), .int .i64 (s 3), .int .i64 (s 4), .int .i64 (s 5), .int .i64 (s 6), .int .i64 (s 7)] 23)) := ((Below.refl _ w).alloc (Nat.le_refl _) _).alloc (by rw [World.size_alloc]; omega) _
  have kV : Blk ((w.alloc (.cells #[.int .i64 8, .int .i64 n] 25)).alloc (.cells #[.int .i64 (s 0), .int .i64 (s 1), .int .i64 (s 2), .int .i64 (s 3), .int .i64 (s 4), .int .i64 (s 5), .int .i64 (s 6), .int .i64 (s 7)] 23)) w.heap.size 25 [.int .i64 8, .int .i64 n] := (Blk.new w 25 [.int .i64 8, .int .i64 n]).kept (World.grownBy_alloc _ _ none) (by simp)
  have kS : StyAt ((w.alloc (.cells #[.int .i64 8, .int .i64 n] 25)).alloc (.cells #[.int .i64 (s 0), .int .i64 (s 1), .int .i64 (s 2), .int .i64 (s 3), .int .i64 (s 4), .int .i64 (s 5), .int .i64 (s 6), .int .i64 (s 7)] 23)) (w.heap.size + 1) s := by
    have := Blk.new (w.alloc (.cells #[.int .i64 8, .int .i64 n] 25)) 23 (styL s)
    rwa [World.size_alloc] at this
  have c1 := capI_ge n
  have c2 := capI_le n
  have hc := refCapC n
  have hit : ∀ X, Calls Tryd.prog 16 #[.int .i64 7] X fun e w' => e = .returned (.int .i64 (1099511627776)) ∧ w' = X := fun X => refInitial_any 7 X
  go_enter Tryd.func14, Tryd.ntmps14
  go_upto_region 1 with fail
  generalize ((w.alloc (.cells #[.int .i64 8, .int .i64 n] 25)).alloc (.cells #[.int .i64 (s 0), .int .i64 (s 1), .int .i64 (s 2), .int .i64 (s 3), .int .i64 (s 4), .int .i64 (s 5), .int .i64 (s 6), .int .i64 (s 7)] 23)) = W at *
  obtain ⟨⟨t0, t1⟩, _⟩ := blk2 kV
  have cp := (kS.cell (p := 7) (by decide)).1
  clear kV kS
  go_wp2_with fail
  refine (hc W).mono ?_
  clear hc
  rintro e w1 ⟨rfl, rfl⟩
  go_wp2_with fail
  refine (hit _).mono ?_
  clear hit
  rintro e w2 ⟨rfl, rfl⟩
  go_wp2
  go_ret
  exact ⟨rfl, b0⟩

set_option maxRecDepth 100000 in
set_option maxHeartbeats 1000000 in
theorem refOne_7_1 (n : Int) (s : Nat → Int) (size : Int) (w : World) : Calls Tryd.prog 14 #[.int .i64 7, .agg #[.int .i64 1, .int .i64 n], .agg #[.int .i64 (s 0), .int .i64 (s 1), .int .i64 (s 2), .int .i64 (s 3), .int .i64 (s 4), .int .i64 (s 5), .int .i64 (s 6), .int .i64 (s 7)], .int .i64 size] w fun e w' => e = .returned (.int .i64 (1099511627776)) ∧ Below w.heap.size w w' := by
  have b0 : Below w.heap.size w ((w.alloc (.cells #[.int .i64 1, .int .i64 n] 25)).alloc (.cells #[.int .i64 (s 0), .int .i64 (s 1), .int .i64 (s 2), .int .i64 (s 3), .int .i64 (s 4), .int .i64 (s 5), .int .i64 (s 6), .int .i64 (s 7)] 23)) := ((Below.refl _ w).alloc (Nat.le_refl _) _).alloc (by rw [World.size_alloc]; omega) _
  have kV : Blk ((w.alloc (.cells #[.int .i64 1, .int .i64 n] 25)).alloc (.cells #[.int .i64 (s 0), .int .i64 (s 1), .int .i64 (s 2), .int .i64 (s 3), .int .i64 (s 4), .int .i64 (s 5), .int .i64 (s 6), .int .i64 (s 7)] 23)) w.heap.size 25 [.int .i64 1, .int .i64 n] := (Blk.new w 25 [.int .i64 1, .int .i64 n]).kept (World.grownBy_alloc _ _ none) (by simp)
  have kS : StyAt ((w.alloc (.cells #[.int .i64 1, .int .i64 n] 25)).alloc (.cells #[.int .i64 (s 0), .int .i64 (s 1), .int .i64 (s 2), .int .i64 (s 3), .int .i64 (s 4), .int .i64 (s 5), .int .i64 (s 6), .int .i64 (s 7)] 23)) (w.heap.size + 1) s := by
    have := Blk.new (w.alloc (.cells #[.int .i64 1, .int .i64 n] 25)) 23 (styL s)
    rwa [World.size_alloc] at this
  have c1 := capI_ge n
  have c2 := capI_le n
  have hc := refCapC n
  go_enter Tryd.func14, Tryd.ntmps14
  go_upto_region 1 with fail
  generalize ((w.alloc (.cells #[.int .i64 1, .int .i64 n] 25)).alloc (.cells #[.int .i64 (s 0), .int .i64 (s 1), .int .i64 (s 2), .int .i64 (s 3), .int .i64 (s 4), .int .i64 (s 5), .int .i64 (s 6), .int .i64 (s 7)] 23)) = W at *
  obtain ⟨⟨t0, t1⟩, _⟩ := blk2 kV
  have cp := (kS.cell (p := 7) (by decide)).1
  clear kV kS
  go_wp2_with fail
  refine (hc W).mono ?_
  clear hc
  rintro e w1 ⟨rfl, rfl⟩
  go_wp2
  go_ret
  exact ⟨rfl, b0⟩

set_option maxRecDepth 100000 in
set_option maxHeartbeats 1000000 in
theorem refOne_7_5 (n : Int) (s : Nat → Int) (size : Int) (w : World) : Calls Tryd.prog 14 #[.int .i64 7, .agg #[.int .i64 5, .int .i64 n], .agg #[.int .i64 (s 0), .int .i64 (s 1), .int .i64 (s 2), .int .i64 (s 3), .int .i64 (s 4), .int .i64 (s 5), .int .i64 (s 6), .int .i64 (s 7)], .int .i64 size] w fun e w' => e = .returned (.int .i64 (capI n)) ∧ Below w.heap.size w w' := by
  have b0 : Below w.heap.size w ((w.alloc (.cells #[.int .i64 5, .int .i64 n] 25)).alloc (.cells #[.int .i64 (s 0), .int .i64 (s 1), .int .i64 (s 2), .int .i64 (s 3), .int .i64 (s 4), .int .i64 (s 5), .int .i64 (s 6), .int .i64 (s 7)] 23)) := ((Below.refl _ w).alloc (Nat.le_refl _) _).alloc (by rw [World.size_alloc]; omega) _
  have kV : Blk ((w.alloc (.cells #[.int .i64 5, .int .i64 n] 25)).alloc (.cells #[.int .i64 (s 0), .int .i64 (s 1), .int .i64 (s 2), .int .i64 (s 3), .int .i64 (s 4), .int .i64 (s 5), .int .i64 (s 6), .int .i64 (s 7)] 23)) w.heap.size 25 [.int .i64 5, .int .i64 n] := (Blk.new w 25 [.int .i64 5, .int .i64 n]).kept (World.grownBy_alloc _ _ none) (by simp)
  have kS : StyAt ((w.alloc (.cells #[.int .i64 5, .int .i64 n] 25)).alloc (.cells #[.int .i64 (s 0), .int .i64 (s 1), .int .i64 (s 2), .int .i64 (s 3), .int .i64 (s 4), .int .i64 (s 5), .int .i64 (s 6), .int .i64 (s 7)] 23)) (w.heap.size + 1) s := by
    have := Blk.new (w.alloc (.cells #[.int .i64 5, .int .i64 n] 25)) 23 (styL s)
    rwa [World.size_alloc] at this
  have c1 := capI_ge n
  have c2 := capI_le n
  have hc := refCapC n
  go_enter Tryd.func14, Tryd.ntmps14
  go_upto_region 1 with fail
  generalize ((w.alloc (.cells #[.int .i64 5, .int .i64 n] 25)).alloc (.cells #[.int .i64 (s 0), .int .i64 (s 1), .int .i64 (s 2), .int .i64 (s 3), .int .i64 (s 4), .int .i64 (s 5), .int .i64 (s 6), .int .i64 (s 7)] 23)) = W at *
  obtain ⟨⟨t0, t1⟩, _⟩ := blk2 kV
  have cp := (kS.cell (p := 7) (by decide)).1
  clear kV kS
  go_wp2_with fail
  refine (hc W).mono ?_
  clear hc
  rintro e w1 ⟨rfl, rfl⟩
  go_wp2
  go_ret
  exact ⟨rfl, b0⟩

set_option maxRecDepth 100000 in
set_option maxHeartbeats 1000000 in
theorem refOne_7_n (k n : Int) (s : Nat → Int) (size : Int) (k7 : (k == 7) = false) (k8 : (k == 8) = false) (k1 : (k == 1) = false) (k5 : (k == 5) = false) (w : World) : Calls Tryd.prog 14 #[.int .i64 7, .agg #[.int .i64 k, .int .i64 n], .agg #[.int .i64 (s 0), .int .i64 (s 1), .int .i64 (s 2), .int .i64 (s 3), .int .i64 (s 4), .int .i64 (s 5), .int .i64 (s 6), .int .i64 (s 7)], .int .i64 size] w fun e w' => e = .returned (.int .i64 (1099511627776)) ∧ Below w.heap.size w w' := by
  have b0 : Below w.heap.size w ((w.alloc (.cells #[.int .i64 k, .int .i64 n] 25)).alloc (.cells #[.int .i64 (s 0), .int .i64 (s 1), .int .i64 (s 2), .int .i64 (s 3), .int .i64 (s 4), .int .i64 (s 5), .int .i64 (s 6), .int .i64 (s 7)] 23)) := ((Below.refl _ w).alloc (Nat.le_refl _) _).alloc (by rw [World.size_alloc]; omega) _
  have kV : Blk ((w.alloc (.cells #[.int .i64 k, .int .i64 n] 25)).alloc (.cells #[.int .i64 (s 0), .int .i64 (s 1), .int .i64 (s 2), .int .i64 (s 3), .int .i64 (s 4), .int .i64 (s 5), .int .i64 (s 6), .int .i64 (s 7)] 23)) w.heap.size 25 [.int .i64 k, .int .i64 n] := (Blk.new w 25 [.int .i64 k, .int .i64 n]).kept (World.grownBy_alloc _ _ none) (by simp)
  have kS : StyAt ((w.alloc (.cells #[.int .i64 k, .int .i64 n] 25)).alloc (.cells #[.int .i64 (s 0), .int .i64 (s 1), .int .i64 (s 2), .int .i64 (s 3), .int .i64 (s 4), .int .i64 (s 5), .int .i64 (s 6), .int .i64 (s 7)] 23)) (w.heap.size + 1) s := by
    have := Blk.new (w.alloc (.cells #[.int .i64 k, .int .i64 n] 25)) 23 (styL s)
    rwa [World.size_alloc] at this
  have c1 := capI_ge n
  have c2 := capI_le n
  have hc := refCapC n
  have hin : ∀ X, Calls Tryd.prog 22 #[.int .i64 7] X fun e w' => e = .returned (.bool false) ∧ w' = X := fun X => refInherits_any 7 X
  have hit : ∀ X, Calls Tryd.prog 16 #[.int .i64 7] X fun e w' => e = .returned (.int .i64 (1099511627776)) ∧ w' = X := fun X => refInitial_any 7 X
  go_enter Tryd.func14, Tryd.ntmps14
  go_upto_region 1 with fail
  generalize ((w.alloc (.cells #[.int .i64 k, .int .i64 n] 25)).alloc (.cells #[.int .i64 (s 0), .int .i64 (s 1), .int .i64 (s 2), .int .i64 (s 3), .int .i64 (s 4), .int .i64 (s 5), .int .i64 (s 6), .int .i64 (s 7)] 23)) = W at *
  obtain ⟨⟨t0, t1⟩, _⟩ := blk2 kV
  have cp := (kS.cell (p := 7) (by decide)).1
  clear kV kS
  go_wp2_with fail
  refine (hc W).mono ?_
  clear hc
  rintro e w1 ⟨rfl, rfl⟩
  go_wp2_with fail
  refine (hin _).mono ?_
  clear hin
  rintro e w2 ⟨rfl, rfl⟩
  go_wp2_with fail
  refine (hit _).mono ?_
  clear hit
  rintro e w3 ⟨rfl, rfl⟩
  go_wp2
  go_ret
  exact ⟨rfl, b0⟩

set_option maxHeartbeats 400000 in
theorem refOne_7 (k n : Int) (s : Nat → Int) (size : Int) (w : World) : Calls Tryd.prog 14 #[.int .i64 7, .agg #[.int .i64 k, .int .i64 n], .agg #[.int .i64 (s 0), .int .i64 (s 1), .int .i64 (s 2), .int .i64 (s 3), .int .i64 (s 4), .int .i64 (s 5), .int .i64 (s 6), .int .i64 (s 7)], .int .i64 size] w fun e w' => e = .returned (.int .i64 (compV 7 k n (s 7) (size))) ∧ Below w.heap.size w w' := by
  by_cases k7 : k = 7
  · subst k7
    rw [show compV 7 7 n (s 7) (size) = s 7 from by simp [compV]]
    exact refOne_7_7 n s size w
  by_cases k8 : k = 8
  · subst k8
    rw [show compV 7 8 n (s 7) (size) = 1099511627776 from by simp [compV, ini_7]]
    exact refOne_7_8 n s size w
  by_cases k1 : k = 1
  · subst k1
    rw [show compV 7 1 n (s 7) (size) = 1099511627776 from by simp [compV, ownV, keyV]]
    exact refOne_7_1 n s size w
  by_cases k5 : k = 5
  · subst k5
    rw [show compV 7 5 n (s 7) (size) = capI n from by simp [compV, ownV, numV]]
    exact refOne_7_5 n s size w
  have hn : (ownV 7 k (capI n) (size)).2 = false := by
    unfold ownV keyV lenV pctV numV colV
    repeat' split
    all_goals first | rfl | omega
  rw [show compV 7 k n (s 7) (size) = 1099511627776 from by
    unfold compV
    rw [if_neg k7, if_neg k8, hn]
    simp [inh_7, ini_7]]
  exact refOne_7_n k n s size (by simpa using k7) (by simpa using k8) (by simpa using k1) (by simpa using k5) w


end Go.Proofs.YtacdgfjmmomkpaaDoor.Cp
