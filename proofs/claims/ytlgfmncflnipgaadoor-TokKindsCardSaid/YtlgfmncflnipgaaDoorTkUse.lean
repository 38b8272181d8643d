/- What the laws of tokens want beside: strings as bytes, slices of tokens in new blocks, plain texts. -/
import Derived.Test.YtlgfmncflnipgaaDoorTkLaid
import Derived.Test.YtlgfmncflnipgaaDoorOpen
namespace Go.Proofs.YtlgfmncflnipgaaDoor
open Go Go.RowKit Go.Shelf

/-- '[]byte(s)': a new row. -/
theorem conv_str (s : ByteArray) (w : World) (hs : s.size ≤ 1000000) : ∃ p m c W, (convert 9 22 (.string s)).run Tryd.prog w = .ok (.slice p m c) W ∧ BytesAt W.heap.size W (.slice p m c) s.data.toList ∧ Below w.heap.size w W ∧ w.heap.size < W.heap.size := by
  have hrun := run_bytes_of_string (P := Tryd.prog) w 9 22 5 s Tryd.underlying9 Tryd.underlying22 Tryd.underlying5
  have hge := grownCap_ge w s.size 0 5
  have hle := grownCap_le_maxLen w s.size 0 5 (by unfold maxLen; omega)
  have hl : s.data.toList.length = s.size := Array.length_toList
  refine ⟨_, _, _, _, hrun, .inr ⟨w.heap.size, 0, _, by rw [hl], by omega, hle, ?_, fun j u hj => ?_⟩, (Below.refl _ w).drew.alloc (Nat.le_refl _) _, ?_⟩
  · rw [World.size_alloc]; exact Nat.lt_succ_self _
  · have hj' : j < s.size := by have := (List.getElem?_eq_some_iff.1 hj).1; omega
    rw [show (⟨w.heap.size, 0 + j, none⟩ : Addr) = ⟨w.drew.heap.size, j, none⟩ by rw [Nat.zero_add]; rfl, World.cell?_alloc_mark]
    unfold bytesRow
    rw [Array.getElem?_append_left (by rw [Array.size_map]; exact hj'), Array.getElem?_map]
    rw [Array.getElem?_toList] at hj
    rw [hj]
    rfl
  · rw [World.size_alloc]; exact Nat.lt_succ_self _

/-! ### slices of tokens in new blocks -/
theorem owns_new (w : World) (ts : List Tk) (hl : ts.length ≤ 1000000) : (w.alloc (.cells (tksCells ts).toArray 27)).ownsRow w.heap.size 27 5 (.slice (some ⟨w.heap.size, 0, none⟩) ts.length ts.length) ts.length (tksCells ts) := by
  refine ⟨tksCells_length ts, .inr ⟨w.heap.size, ts.length, (tksCells ts).toArray, rfl, Nat.le_refl _, heap_alloc_new w _, Nat.le_refl _, by unfold maxLen; omega, ?_, ?_⟩⟩
  · rw [List.size_toArray, tksCells_length]
  · rw [← tksCells_length, List.take_length]
theorem tks_new (w : World) (ts : List Tk) (hl : ts.length ≤ 1000000) : TksAt (w.heap.size + 1) (w.alloc (.cells (tksCells ts).toArray 27)) (.slice (some ⟨w.heap.size, 0, none⟩) ts.length ts.length) ts := by
  have := TksAt.of_owns (owns_new w ts hl)
  rwa [World.size_alloc] at this
theorem TksAt.next {X Y : World} {v : Value} {l : List Tk} (h : TksAt X.heap.size X v l) (hb : Below X.heap.size X Y) : TksAt Y.heap.size Y v l := (h.below hb).mono hb.size
theorem BytesAt.next {X Y : World} {v : Value} {l : List UInt8} (h : BytesAt X.heap.size X v l) (hb : Below X.heap.size X Y) : BytesAt Y.heap.size Y v l := (h.below hb).mono hb.size

/-! ### plain texts -/
theorem enc1_plain {u : UInt8} (h : u.toNat < 128) : enc1 (u.toNat : Int) = [u] := by
  unfold enc1 Lib.encodeRune
  rw [fixC_yes (rightB_true (by omega)), Lib.encodeRuneZ_one (by omega) (by omega)]
  simp
theorem encs_plain : ∀ l : List UInt8, (∀ u ∈ l, u.toNat < 128) → encs (ints l) = l
  | [], _ => rfl
  | u :: l, h => by
    have e : encs (ints (u :: l)) = enc1 (u.toNat : Int) ++ encs (ints l) := by simp [encs, ints]
    rw [e, enc1_plain (h u (List.mem_cons_self ..)), encs_plain l fun x hx => h x (List.mem_cons_of_mem _ hx)]
    rfl
theorem txt_plain {s : ByteArray} {l : List UInt8} (hs : s.data.toList = l) (h : ∀ u ∈ l, u.toNat < 128) : txtOf (ints l) = s := by
  unfold txtOf
  rw [encs_plain l h]
  cases s with
  | mk d => subst hs; simp
theorem ints_append (a b : List UInt8) : ints (a ++ b) = ints a ++ ints b := by simp [ints]
theorem ints_length (a : List UInt8) : (ints a).length = a.length := by simp [ints]

end Go.Proofs.YtlgfmncflnipgaaDoor
