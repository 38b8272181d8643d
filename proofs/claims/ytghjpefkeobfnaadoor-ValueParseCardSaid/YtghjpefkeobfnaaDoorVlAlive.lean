/- The document's example (the laws' own 'alive'): the color of f00. -/
import Derived.Test.YtghjpefkeobfnaaDoorVlRead
namespace Go.Proofs.YtghjpefkeobfnaaDoor.Vl
open Go Go.RowKit

def exT : Bt := ⟨3, ⟨#[102, 48, 48]⟩, 0, false, 0⟩
theorem ex_val : parseV 0 [exT] = (6, 16711680, true) := by decide +kernel

set_option maxRecDepth 100000 in
set_option maxHeartbeats 1000000 in
theorem alive7_any (w : World) (hS : WordsAt w.heap.size w) :
    Calls Tryd.prog 9 #[] w fun e w' => e = .returned (.bool true) ∧ Below w.heap.size w w' := by
  have bA : Below w.heap.size w (w.alloc (.cells #[.int .i64 3, .string ⟨#[102, 48, 48]⟩, .int .i64 0, .bool false, .int .i64 0] 25)) := (Below.refl _ _).alloc (Nat.le_refl _) _
  have hsz : (w.alloc (.cells #[.int .i64 3, .string ⟨#[102, 48, 48]⟩, .int .i64 0, .bool false, .int .i64 0] 25)).heap.size = w.heap.size + 1 := World.size_alloc _ _
  have hp := parse_any 0 (.slice (some ⟨w.heap.size, 0, none⟩) 1 1) [exT] (w.alloc (.cells #[.int .i64 3, .string ⟨#[102, 48, 48]⟩, .int .i64 0, .bool false, .int .i64 0] 25)) (hS.next bA)
    (by rw [hsz]; exact bts_new w [exT] (by simp)) (fun t ht => by
      obtain rfl := List.mem_singleton.1 ht
      decide)
  rw [ex_val] at hp
  go_enter Tryd.func9, Tryd.ntmps9
  go_wp2_with fail
  refine hp.mono ?_
  clear hp
  rintro e w1 ⟨rfl, b1⟩
  have b2 := below_next bA b1
  unfold ret
  go_wp2
  go_ret
  exact ⟨rfl, b2.alloc b2.size _⟩

end Go.Proofs.YtghjpefkeobfnaaDoor.Vl
