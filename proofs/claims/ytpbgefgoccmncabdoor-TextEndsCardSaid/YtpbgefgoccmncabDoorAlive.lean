/- The document's example: text.Prepare of the bytes 13, 10, 65 is 10, 65 (the laws' own 'alive'), in every world that holds the library's tables. -/
import Derived.Test.YtpbgefgoccmncabDoorGath
namespace Go.Proofs.YtpbgefgoccmncabDoor
open Go Go.RowKit Go.Shelf

/-- A slice that owns xs (elements of one cell): its cells hold xs. -/
theorem owns_cells {X : World} {b : Nat} {e : TypeId} {v : Value} {m : Nat} {xs : List Value} (h : X.ownsRow b e 1 v m xs) :
    (v = .slice none 0 0 ∧ m = 0 ∧ xs = []) ∨ ∃ g cap, v = .slice (some ⟨g, 0, none⟩) m cap ∧ m ≤ cap ∧ cap ≤ maxLen ∧ b ≤ g ∧ g < X.heap.size ∧ ∀ j u, xs[j]? = some u → X.cell? ⟨g, 0 + j, none⟩ = some u := by
  rcases h.2 with ⟨hv, hm⟩ | ⟨g, cap, cur, hv, hg, hb, h1, h2, h3, h4⟩
  · exact .inl ⟨hv, hm, List.length_eq_zero_iff.1 (by rw [h.1, hm])⟩
  · refine .inr ⟨g, cap, hv, h1, h2, hg, (Array.getElem?_eq_some_iff.1 hb).1, fun j u hj => ?_⟩
    rw [← h4, Nat.mul_one, List.getElem?_take] at hj
    split at hj
    · simp only [World.cell?, hb, Nat.zero_add]
      simpa using hj
    · cases hj

theorem cell_of_block {X : World} {g : Nat} {cur : Array Value} {t : TypeId} {fz : Nat × Nat} (h : X.heap[g]? = some (.cells cur t fz)) (j : Nat) : X.cell? ⟨g, j, none⟩ = cur[j]? := by
  unfold World.cell?
  rw [h]
  rfl

theorem alive_list : prep (ipts [13, 10, 65]) = [10, 65] := by decide +kernel

set_option maxRecDepth 100000 in
set_option maxHeartbeats 1000000 in
theorem alive_any (w : World) (hT : Tabs w.heap.size w) :
    Calls Tryd.prog 5 #[] w fun e w' => e = .returned (.bool true) ∧ Below w.heap.size w w' := by
  have hb : Below w.heap.size w (w.alloc (.cells #[.int .u8 13, .int .u8 10, .int .u8 65] 5)) := (Below.refl _ w).alloc (Nat.le_refl _) _
  have hsz : (w.alloc (.cells #[.int .u8 13, .int .u8 10, .int .u8 65] 5)).heap.size = w.heap.size + 1 := by simp
  have hc := prepare_any (.slice (some ⟨w.heap.size, 0, none⟩) 3 3) [13, 10, 65] (w.alloc (.cells #[.int .u8 13, .int .u8 10, .int .u8 65] 5))
    (.inr ⟨w.heap.size, 0, 3, rfl, by simp, by unfold maxLen; omega, by omega, fun j u hj => by
      have h0 : (w.alloc (.cells #[.int .u8 13, .int .u8 10, .int .u8 65] 5)).heap[w.heap.size]? = some (.cells #[.int .u8 13, .int .u8 10, .int .u8 65] 5 (0, 0)) := World.alloc_heap_new w _
      match j, hj with
      | 0, hj => cases hj; exact cell_of_block h0 _
      | 1, hj => cases hj; exact cell_of_block h0 _
      | 2, hj => cases hj; exact cell_of_block h0 _
      | j + 3, hj => cases hj⟩) ((hT.below hb).mono (by omega)) (by simp)
  rw [alive_list] at hc
  go_enter Tryd.func5, Tryd.ntmps5
  go_wp2_with fail
  refine hc.mono ?_
  rintro e w' ⟨v', rfl, hr, hb'⟩
  clear hc
  have hbb := hb.trans (hb'.mono hb.size)
  rcases owns_cells hr with ⟨_, h2, _⟩ | ⟨g, cap, rfl, h1, h2, h3, h4, h5⟩
  · cases h2
  · have c0 := h5 0 (.int .i64 10) rfl
    have c1 := h5 1 (.int .i64 65) rfl
    clear h5 hr
    go_wp2
    go_ret
    exact ⟨rfl, hbb⟩

end Go.Proofs.YtpbgefgoccmncabDoor
