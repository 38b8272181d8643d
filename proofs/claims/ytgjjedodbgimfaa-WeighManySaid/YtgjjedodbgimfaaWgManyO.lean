/- The law WeighMany where its numbers are out of its bounds; its own least. -/
import Derived.Test.YtgjjedodbgimfaaWgMany
namespace Go.Proofs.Ytgjjedodbgimfaa
open Go.Proofs.Ytgjjedodbgimfaa.Tre
open Go Go.RowKit Sl Sr Wg

set_option maxRecDepth 100000 in
set_option maxHeartbeats 1000000 in
theorem least_any (n : Nat) (hn : n ≤ 300) (w : World) : Calls Try.prog 8 #[.int .i64 n] w fun e w' => e = .returned (.int .i64 (min n 255 : Nat)) ∧ w' = w := by
  by_cases h : 255 < n
  · have hi : (255 : Int) < (n : Int) := by omega
    have hm : min n 255 = 255 := by omega
    rw [hm]
    go_enter Try.func8, Try.ntmps8
    go_wp2
    go_ret
    exact ⟨rfl, rfl⟩
  · have hi : ¬ (255 : Int) < (n : Int) := by omega
    have hm : min n 255 = n := by omega
    rw [hm]
    go_enter Try.func8, Try.ntmps8
    go_wp2
    go_ret
    exact ⟨rfl, rfl⟩
set_option maxRecDepth 100000 in
set_option maxHeartbeats 4000000 in
theorem weighMany_out (w : World) (ids classes tags : Int) (hg : ¬ (0 ≤ ids ∧ ids ≤ 300 ∧ 0 ≤ classes ∧ classes ≤ 300 ∧ 1 ≤ tags ∧ tags ≤ 300)) (h1 : Calls Try.prog 6 #[] w fun e w' => e = .returned (.bool true) ∧ Below w.heap.size w w') :
    Calls Try.prog 3 #[.int .i64 ids, .int .i64 classes, .int .i64 tags] w fun e w' => e = .returned (.bool true) ∧ Below w.heap.size w w' := by
  go_enter Try.func3, Try.ntmps3
  go_wp2_with fail
  refine h1.mono ?_
  clear h1
  rintro e w1 ⟨rfl, b1⟩
  by_cases a1 : ids < 0
  · clear hg; go_wp2; go_ret; exact ⟨rfl, b1⟩
  by_cases a2 : 300 < ids
  · clear hg; go_wp2; go_ret; exact ⟨rfl, b1⟩
  by_cases a3 : classes < 0
  · clear hg; go_wp2; go_ret; exact ⟨rfl, b1⟩
  by_cases a4 : 300 < classes
  · clear hg; go_wp2; go_ret; exact ⟨rfl, b1⟩
  by_cases a5 : tags < 1
  · clear hg; go_wp2; go_ret; exact ⟨rfl, b1⟩
  have a6 : 300 < tags := by omega
  clear hg
  go_wp2
  go_ret
  exact ⟨rfl, b1⟩

end Go.Proofs.Ytgjjedodbgimfaa
