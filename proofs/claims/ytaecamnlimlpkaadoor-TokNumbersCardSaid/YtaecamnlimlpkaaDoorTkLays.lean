/- Many new blocks in a row. -/
import Derived.Test.YtaecamnlimlpkaaDoorTkUse
namespace Go.Proofs.YtaecamnlimlpkaaDoor
open Go Go.RowKit Go.Shelf

/-- The world with these blocks laid, one behind the other. -/
def lays (w : World) : List Obj → World
  | [] => w
  | o :: r => lays (w.alloc o) r
theorem lays_size : ∀ (os : List Obj) (w : World), (lays w os).heap.size = w.heap.size + os.length
  | [], _ => rfl
  | o :: r, w => by
    rw [lays, lays_size r, World.size_alloc, List.length_cons]
    omega
theorem lays_below : ∀ (os : List Obj) (w : World), Below w.heap.size w (lays w os)
  | [], w => Below.refl _ w
  | o :: r, w => by
    have h1 : Below w.heap.size w (w.alloc o) := (Below.refl _ w).alloc (Nat.le_refl _) o
    exact h1.trans ((lays_below r (w.alloc o)).mono h1.size)
theorem lays_at : ∀ (os : List Obj) (w : World) (i : Nat) (o : Obj), os[i]? = some o → (lays w os).heap[w.heap.size + i]? = some o
  | [], _, _, _, h => by simp at h
  | x :: r, w, 0, o, h => by
    obtain rfl : x = o := by simpa using h
    have h1 := lays_below r (w.alloc x)
    rw [lays, Nat.add_zero]
    exact (h1.block w.heap.size (by simp)).trans (World.alloc_heap_new w x)
  | x :: r, w, i + 1, o, h => by
    have := lays_at r (w.alloc x) i o (by simpa using h)
    rw [World.size_alloc] at this
    rw [lays, show w.heap.size + (i + 1) = w.heap.size + 1 + i by omega]
    exact this
theorem tks_block {W : World} {b : Nat} {ts : List Tk} (hl : ts.length ≤ 1000000) (h : W.heap[b]? = some (.cells (tksCells ts).toArray 26)) : TksAt W.heap.size W (.slice (some ⟨b, 0, none⟩) ts.length ts.length) ts := by
  refine TksAt.of_owns (b := b) ⟨tksCells_length ts, .inr ⟨b, ts.length, (tksCells ts).toArray, rfl, Nat.le_refl _, h, Nat.le_refl _, by unfold maxLen; omega, ?_, ?_⟩⟩
  · rw [List.size_toArray, tksCells_length]
  · rw [← tksCells_length, List.take_length]

end Go.Proofs.YtaecamnlimlpkaaDoor
