/- package compute: computed, Root, Of, at every style and all values. -/
import Derived.Test.YtacdgfjmmomkpaaDoorCpOwn
namespace Go.Proofs.YtacdgfjmmomkpaaDoor.Cp
open Go Go.RowKit Vl Nm

set_option maxRecDepth 100000 in
set_option maxHeartbeats 4000000 in
theorem computed_any {p : Nat} (hp : p < 8) (k n : Int) (s : Nat → Int) (em : Int) (w : World) (hP : PropsAt w.heap.size w) :
    Calls Tryd.prog 13 #[.int .i64 p, .agg #[.int .i64 k, .int .i64 n], .agg #[.int .i64 (s 0), .int .i64 (s 1), .int .i64 (s 2), .int .i64 (s 3), .int .i64 (s 4), .int .i64 (s 5), .int .i64 (s 6), .int .i64 (s 7)], .int .i64 em] w fun e w' =>
      e = .returned (.int .i64 (compV p k n (s p) em)) ∧ Below w.heap.size w w' := by
  obtain ⟨V, hV⟩ : ∃ V, compV p k n (s p) em = V := ⟨_, rfl⟩
  rw [hV]
  unfold compV at hV
  have b0 : Below w.heap.size w ((w.alloc (.cells #[.int .i64 k, .int .i64 n] 25)).alloc (.cells #[.int .i64 (s 0), .int .i64 (s 1), .int .i64 (s 2), .int .i64 (s 3), .int .i64 (s 4), .int .i64 (s 5), .int .i64 (s 6), .int .i64 (s 7)] 23)) := ((Below.refl _ w).alloc (Nat.le_refl _) _).alloc (by rw [World.size_alloc]; omega) _
  have kV : Blk ((w.alloc (.cells #[.int .i64 k, .int .i64 n] 25)).alloc (.cells #[.int .i64 (s 0), .int .i64 (s 1), .int .i64 (s 2), .int .i64 (s 3), .int .i64 (s 4), .int .i64 (s 5), .int .i64 (s 6), .int .i64 (s 7)] 23)) w.heap.size 25 [.int .i64 k, .int .i64 n] := (Blk.new w 25 [.int .i64 k, .int .i64 n]).kept (World.grownBy_alloc _ _ none) (by simp)
  have kS : StyAt ((w.alloc (.cells #[.int .i64 k, .int .i64 n] 25)).alloc (.cells #[.int .i64 (s 0), .int .i64 (s 1), .int .i64 (s 2), .int .i64 (s 3), .int .i64 (s 4), .int .i64 (s 5), .int .i64 (s 6), .int .i64 (s 7)] 23)) (w.heap.size + 1) s := by
    have := Blk.new (w.alloc (.cells #[.int .i64 k, .int .i64 n] 25)) 23 (styL s)
    rwa [World.size_alloc] at this
  have hPW := hP.next b0
  clear hP
  have c1 := capI_ge n
  have c2 := capI_le n
  have hc := cap_any n
  have ho := fun X => own_any hp k (capI n) em c1 c2 X
  have hin := fun X hX => inherits_any p X hX
  have hit := fun X hX => initial_any p X hX
  go_enter Tryd.func13, Tryd.ntmps13
  go_upto_region 1 with fail
  have hSz : ((w.alloc (.cells #[.int .i64 k, .int .i64 n] 25)).alloc (.cells #[.int .i64 (s 0), .int .i64 (s 1), .int .i64 (s 2), .int .i64 (s 3), .int .i64 (s 4), .int .i64 (s 5), .int .i64 (s 6), .int .i64 (s 7)] 23)).heap.size = w.heap.size + 2 := by rw [World.size_alloc, World.size_alloc]
  generalize (w.alloc (.cells #[.int .i64 k, .int .i64 n] 25)).alloc (.cells #[.int .i64 (s 0), .int .i64 (s 1), .int .i64 (s 2), .int .i64 (s 3), .int .i64 (s 4), .int .i64 (s 5), .int .i64 (s 6), .int .i64 (s 7)] 23) = W at *
  have hlt : w.heap.size + 1 < W.heap.size := by omega
  clear hSz
  obtain ⟨⟨t0, t1⟩, _⟩ := blk2 kV
  have cp := (kS.cell hp).1
  have hpi : (p : Int) < 8 := by omega
  have HC : Hid (∀ (w1 : World), Below W.heap.size W w1 → w1.cell? ⟨w.heap.size + 1, p, none⟩ = some (.int .i64 (s p)) ∧ Below w.heap.size w w1) := fun w1 b1 => ⟨(b1.cell (p := ⟨w.heap.size + 1, p, none⟩) hlt).trans cp, below_next b0 b1⟩
  clear kV kS
  by_cases k7 : k = 7
  · subst k7
    rw [if_pos rfl] at hV
    subst hV
    clear hc ho hin hit c1 c2 HC hp
    go_wp2
    go_ret
    exact ⟨rfl, b0⟩
  rw [if_neg k7] at hV
  replace k7 : (k == 7) = false := by simpa using k7
  by_cases k8 : k = 8
  · subst k8
    rw [if_pos rfl] at hV
    have hi := hit W hPW
    replace hi : Calls Tryd.prog 15 #[.int .i64 p] W fun e w' => e = .returned (.int .i64 V) ∧ Below W.heap.size W w' := by rw [← hV]; exact hi
    clear hc ho hin hit c1 c2 HC hV
    go_wp2_with fail
    refine hi.mono ?_
    clear hi
    rintro e w1 ⟨rfl, b1⟩
    have b2 := below_next b0 b1
    go_wp2
    go_ret
    exact ⟨rfl, b2⟩
  rw [if_neg k8] at hV
  replace k8 : (k == 8) = false := by simpa using k8
  obtain ⟨V1, ok, ho1⟩ : ∃ V1 ok, ownV p k (capI n) em = (V1, ok) := ⟨_, _, rfl⟩
  rw [ho1] at hV
  simp only [ho1] at ho
  clear ho1
  clear c1 c2
  generalize capI n = nc at *
  have HIN : Hid (∀ X, PropsAt X.heap.size X → Calls Tryd.prog 19 #[.int .i64 p] X fun e w' => e = .returned (.bool (inhV p)) ∧ Below X.heap.size X w') := hin
  have HIT : Hid (∀ X, PropsAt X.heap.size X → Calls Tryd.prog 15 #[.int .i64 p] X fun e w' => e = .returned (.int .i64 (iniV p)) ∧ Below X.heap.size X w') := hit
  clear hin hit
  generalize inhV p = ih at *
  generalize iniV p = it at *
  generalize s p = x at *
  go_wp2
  go_quiet (first | exact Calls.quiet_of_same (hc _) | exact Calls.quiet_of_same (ho _))
  clear hc ho
  have bq := below_drewN W nq
  have hPq := hPW.next bq
  obtain ⟨cq, bz⟩ := (show ∀ (w1 : World), Below W.heap.size W w1 → w1.cell? ⟨w.heap.size + 1, p, none⟩ = some (.int .i64 x) ∧ Below w.heap.size w w1 from HC) _ bq
  cases ok
  · simp only [Bool.false_eq_true, if_false] at hV
    have hi := (show ∀ X, PropsAt X.heap.size X → Calls Tryd.prog 19 #[.int .i64 p] X fun e w' => e = .returned (.bool ih) ∧ Below X.heap.size X w' from HIN) _ hPq
    go_wp2_with fail
    refine hi.mono ?_
    clear hi
    rintro e w1 ⟨rfl, b1⟩
    obtain ⟨c1, bz1⟩ := (show ∀ (w1 : World), Below W.heap.size W w1 → w1.cell? ⟨w.heap.size + 1, p, none⟩ = some (.int .i64 x) ∧ Below w.heap.size w w1 from HC) _ (below_next bq b1)
    have hP1 := hPq.next b1
    clear cq bz
    cases ih
    · simp only [Bool.false_eq_true, if_false] at hV
      subst hV
      have hj := (show ∀ X, PropsAt X.heap.size X → Calls Tryd.prog 15 #[.int .i64 p] X fun e w' => e = .returned (.int .i64 it) ∧ Below X.heap.size X w' from HIT) _ hP1
      go_wp2_with fail
      refine hj.mono ?_
      clear hj
      rintro e w2 ⟨rfl, b2⟩
      have bz2 := below_next bz1 b2
      go_wp2
      go_ret
      exact ⟨rfl, bz2⟩
    · simp only [if_true] at hV
      subst hV
      go_wp2
      go_ret
      exact ⟨rfl, bz1⟩
  · simp only [if_true] at hV
    subst hV
    go_wp2
    go_ret
    exact ⟨rfl, bz⟩

end Go.Proofs.YtacdgfjmmomkpaaDoor.Cp
