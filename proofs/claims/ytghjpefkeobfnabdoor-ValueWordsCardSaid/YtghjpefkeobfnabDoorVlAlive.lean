/- The document's example (the laws' own 'alive'): the color of f00. -/
import Derived.Test.YtghjpefkeobfnabDoorVlRead
namespace Go.Proofs.YtghjpefkeobfnabDoor.Vl
open Go Go.RowKit

def exT : Bt := ⟨3, ⟨#[102, 48, 48]⟩, 0, false, 0⟩
theorem ex_val : parseV 0 [exT] = (6, 16711680, true) := by decide +kernel

set_option maxRecDepth 100000 in
set_option maxHeartbeats 1000000 in
theorem alive7_any (w : World) (hS : WordsAt w.heap.size w) :
    Calls Tryd.prog 6 #[] w fun e w' => e = .returned (.bool true) ∧ Below w.heap.size w w' := by
  have bA : Below w.heap.size w (w.alloc (.cells #[.int .i64 3, .string ⟨#[102, 48, 48]⟩, .int .i64 0, .bool false, .int .i64 0] 30)) := (Below.refl _ _).alloc (Nat.le_refl _) _
  have hsz : (w.alloc (.cells #[.int .i64 3, .string ⟨#[102, 48, 48]⟩, .int .i64 0, .bool false, .int .i64 0] 30)).heap.size = w.heap.size + 1 := World.size_alloc _ _
  have hp := parse_any 0 (.slice (some ⟨w.heap.size, 0, none⟩) 1 1) [exT] (w.alloc (.cells #[.int .i64 3, .string ⟨#[102, 48, 48]⟩, .int .i64 0, .bool false, .int .i64 0] 30)) (hS.next bA)
    (by rw [hsz]; exact bts_new w [exT] (by simp)) (fun t ht => by
      obtain rfl := List.mem_singleton.1 ht
      decide)
  rw [ex_val] at hp
  go_enter Tryd.func6, Tryd.ntmps6
  go_wp2_with fail
  refine hp.mono ?_
  clear hp
  rintro e w1 ⟨rfl, b1⟩
  have b2 := below_next bA b1
  unfold ret
  go_wp2
  go_ret
  exact ⟨rfl, b2.alloc b2.size _⟩

/-- Parse at one token in a new block. -/
theorem parse_new (p : Int) (t : Bt) (X : World) (hS : WordsAt X.heap.size X) (ht : t.text.size ≤ maxLen) :
    Calls Tryd.prog 7 #[.int .i64 p, .slice (some ⟨X.heap.size, 0, none⟩) 1 1] (X.alloc (.cells #[.int .i64 t.kind, .string t.text, .int .i64 t.n, .bool t.whole, .int .i64 t.c] 30)) fun e w' => e = ret (parseV p [t]) ∧ Below X.heap.size X w' := by
  have bA : Below X.heap.size X (X.alloc (.cells #[.int .i64 t.kind, .string t.text, .int .i64 t.n, .bool t.whole, .int .i64 t.c] 30)) := (Below.refl _ _).alloc (Nat.le_refl _) _
  have hsz : (X.alloc (.cells #[.int .i64 t.kind, .string t.text, .int .i64 t.n, .bool t.whole, .int .i64 t.c] 30)).heap.size = X.heap.size + 1 := World.size_alloc _ _
  refine (parse_any p (.slice (some ⟨X.heap.size, 0, none⟩) 1 1) [t] _ (hS.next bA) (by rw [hsz]; exact bts_new X [t] (by simp)) (fun u hu => by
    obtain rfl := List.mem_singleton.1 hu
    exact ht)).mono fun e w' ⟨he, hb⟩ => ⟨he, below_next bA hb⟩
theorem parseV_one (p : Int) (t : Bt) : parseV p [t] = if 0 ≤ p ∧ p ≤ 7 then tokV p t else no := rfl
theorem in_range {p : Int} (h : p = 1 ∨ p = 4 ∨ p = 5) : 0 ≤ p ∧ p ≤ 7 := by omega
theorem lengthV_range {p k n : Int} (h : ¬ (0 ≤ p ∧ p ≤ 7)) : lengthV p k n = no := if_neg (by omega)
theorem parseV_pct (p n : Int) (s : ByteArray) (wh : Bool) (c : Int) : parseV p [⟨7, s, n, wh, c⟩] = lengthV p 4 n := by
  rw [parseV_one]
  by_cases h : 0 ≤ p ∧ p ≤ 7
  · rw [if_pos h]; rfl
  · rw [if_neg h, lengthV_range h]
theorem parseV_dim (p n : Int) (s : ByteArray) (wh : Bool) (c : Int) : parseV p [⟨8, s, n, wh, c⟩] = if Lw.low s.data.toList = pxT then lengthV p 2 n else if Lw.low s.data.toList = emT then lengthV p 3 n else no := by
  rw [parseV_one]
  by_cases h : 0 ≤ p ∧ p ≤ 7
  · rw [if_pos h]; rfl
  · rw [if_neg h, lengthV_range h, lengthV_range h]
    repeat' split
    all_goals rfl

end Go.Proofs.YtghjpefkeobfnabDoor.Vl
