/- Slices that are written out; the kinds that each property has. -/
import Derived.Test.YtacdgfjmmomkpaaDoorCpAlive
namespace Go.Proofs.YtacdgfjmmomkpaaDoor.Cp
open Go Go.RowKit Vl

set_option maxRecDepth 100000 in
theorem build1 (a : Int) (w : World) : (Instr.buildSlice 35 1 #[(0, .int .i64 a)]).run Tryd.prog w = .ok (.slice (some ⟨w.heap.size, 0, none⟩) 1 1) (w.alloc (.cells #[.int .i64 a] 3)) := by kernel_rfl
set_option maxRecDepth 100000 in
theorem build2 (a b : Int) (w : World) : (Instr.buildSlice 35 2 #[(0, .int .i64 a), (1, .int .i64 b)]).run Tryd.prog w = .ok (.slice (some ⟨w.heap.size, 0, none⟩) 2 2) (w.alloc (.cells #[.int .i64 a, .int .i64 b] 3)) := by kernel_rfl
set_option maxRecDepth 100000 in
theorem build3 (a b c : Int) (w : World) : (Instr.buildSlice 35 3 #[(0, .int .i64 a), (1, .int .i64 b), (2, .int .i64 c)]).run Tryd.prog w = .ok (.slice (some ⟨w.heap.size, 0, none⟩) 3 3) (w.alloc (.cells #[.int .i64 a, .int .i64 b, .int .i64 c] 3)) := by kernel_rfl
set_option maxRecDepth 100000 in
theorem build4 (a b c d : Int) (w : World) : (Instr.buildSlice 35 4 #[(0, .int .i64 a), (1, .int .i64 b), (2, .int .i64 c), (3, .int .i64 d)]).run Tryd.prog w = .ok (.slice (some ⟨w.heap.size, 0, none⟩) 4 4) (w.alloc (.cells #[.int .i64 a, .int .i64 b, .int .i64 c, .int .i64 d] 3)) := by kernel_rfl
set_option maxRecDepth 100000 in
theorem buildS (v0 v1 v2 v3 v4 v5 v6 v7 : Option Addr) (n0 n1 n2 n3 n4 n5 n6 n7 : Nat) (w : World) : (Instr.buildSlice 36 8 #[(0, .slice v0 n0 n0), (1, .slice v1 n1 n1), (2, .slice v2 n2 n2), (3, .slice v3 n3 n3), (4, .slice v4 n4 n4), (5, .slice v5 n5 n5), (6, .slice v6 n6 n6), (7, .slice v7 n7 n7)]).run Tryd.prog w = .ok (.slice (some ⟨w.heap.size, 0, none⟩) 8 8) (w.alloc (.cells #[.slice v0 n0 n0, .slice v1 n1 n1, .slice v2 n2 n2, .slice v3 n3 n3, .slice v4 n4 n4, .slice v5 n5 n5, .slice v6 n6 n6, .slice v7 n7 n7] 35)) := by kernel_rfl

/-- The kinds of values that a property has. -/
def hasL (p : Nat) : List Int := [[6], [2, 3, 4], [1], [1], [1, 2, 3, 4], [2, 3, 4], [5], [1, 5]].getD p []
theorem own_none {p : Nat} (hp : p < 8) {k : Int} (hk : k ∉ hasL p) (n em : Int) : (ownV p k n em).2 = false := by
  obtain rfl | rfl | rfl | rfl | rfl | rfl | rfl | rfl : p = 0 ∨ p = 1 ∨ p = 2 ∨ p = 3 ∨ p = 4 ∨ p = 5 ∨ p = 6 ∨ p = 7 := by omega
  all_goals
    simp only [hasL, List.getD_cons_zero, List.getD_cons_succ, List.mem_cons, List.not_mem_nil, or_false, not_or] at hk
    unfold ownV keyV lenV pctV numV colV
    repeat' split
    all_goals first | rfl | omega
theorem comp_none {p : Nat} (hp : p < 8) {k : Int} (hk : k ∉ hasL p) (h7 : k ≠ 7) (h8 : k ≠ 8) (n up em em' : Int) : compV p k n up em = compV p 0 0 up em' := by
  have h0 : (0 : Int) ∉ hasL p := by
    obtain rfl | rfl | rfl | rfl | rfl | rfl | rfl | rfl : p = 0 ∨ p = 1 ∨ p = 2 ∨ p = 3 ∨ p = 4 ∨ p = 5 ∨ p = 6 ∨ p = 7 := by omega
    all_goals simp [hasL]
  unfold compV
  rw [if_neg h7, if_neg h8, own_none hp hk, if_neg (by decide : ¬ (0 : Int) = 7), if_neg (by decide : ¬ (0 : Int) = 8), own_none hp h0]
  simp only [Bool.false_eq_true, if_false]
theorem kinds_plain {p : Nat} (hp : p < 8) {k : Int} (hk : k ∉ hasL p) (h7 : k ≠ 7) (h8 : k ≠ 8) (n : Int) (s : Nat → Int) :
    sty (ofV (putV (fun _ => 0) p k) (putV (fun _ => 0) p n) s) = sty (ofV (fun _ => 0) (fun _ => 0) s) := by
  have one : ofV (putV (fun _ => 0) p k) (putV (fun _ => 0) p n) s 1 = ofV (fun _ => 0) (fun _ => 0) s 1 := by
    unfold ofV
    by_cases e : p = 1
    · subst e
      show compV (1 : Nat) (putV (fun _ => 0) 1 k 1) (putV (fun _ => 0) 1 n 1) (s 1) (s 1) = _
      rw [show putV (fun _ => 0) 1 k 1 = k from if_pos rfl, show putV (fun _ => 0) 1 n 1 = n from if_pos rfl]
      exact comp_none hp hk h7 h8 n _ _ _
    · have e1 : ¬ (1 : Nat) = p := fun h => e h.symm
      rw [show putV (fun _ => 0) p k 1 = 0 from if_neg e1, show putV (fun _ => 0) p n 1 = 0 from if_neg e1]
  apply sty_ext
  intro i hi
  by_cases i1 : i = 1
  · subst i1
    exact one
  · have o1 : ∀ a b : Nat → Int, ofV a b s i = compV i (a i) (b i) (s i) (ofV a b s 1) := fun a b => by
      unfold ofV
      rw [if_neg i1]
      rfl
    rw [o1, o1, one]
    by_cases e : i = p
    · subst e
      rw [show putV (fun _ => 0) i k i = k from if_pos rfl, show putV (fun _ => 0) i n i = n from if_pos rfl]
      exact comp_none hp hk h7 h8 n _ _ _
    · rw [show putV (fun _ => 0) p k i = 0 from if_neg e, show putV (fun _ => 0) p n i = 0 from if_neg e]
theorem blk_push {W : World} {B : Nat} {t : TypeId} {cs : List Value} (h : Blk W B t cs) (o : Obj) : Blk (W.alloc o) B t cs := Blk.kept h (World.grownBy_alloc _ _ none) (by simp)

def kw1 (w : World) : World := w.alloc (.cells #[.int .i64 6] 3)
def kw2 (w : World) : World := (kw1 w).alloc (.cells #[.int .i64 2, .int .i64 3, .int .i64 4] 3)
def kw3 (w : World) : World := (kw2 w).alloc (.cells #[.int .i64 1] 3)
def kw4 (w : World) : World := (kw3 w).alloc (.cells #[.int .i64 1] 3)
def kw5 (w : World) : World := (kw4 w).alloc (.cells #[.int .i64 1, .int .i64 2, .int .i64 3, .int .i64 4] 3)
def kw6 (w : World) : World := (kw5 w).alloc (.cells #[.int .i64 2, .int .i64 3, .int .i64 4] 3)
def kw7 (w : World) : World := (kw6 w).alloc (.cells #[.int .i64 5] 3)
def kw8 (w : World) : World := (kw7 w).alloc (.cells #[.int .i64 1, .int .i64 5] 3)
def kw9 (w : World) : World := (kw8 w).alloc (.cells #[.slice (some ⟨w.heap.size, 0, none⟩) 1 1, .slice (some ⟨w.heap.size + 1, 0, none⟩) 3 3, .slice (some ⟨w.heap.size + 1 + 1, 0, none⟩) 1 1, .slice (some ⟨w.heap.size + 1 + 1 + 1, 0, none⟩) 1 1, .slice (some ⟨w.heap.size + 1 + 1 + 1 + 1, 0, none⟩) 4 4, .slice (some ⟨w.heap.size + 1 + 1 + 1 + 1 + 1, 0, none⟩) 3 3, .slice (some ⟨w.heap.size + 1 + 1 + 1 + 1 + 1 + 1, 0, none⟩) 1 1, .slice (some ⟨w.heap.size + 1 + 1 + 1 + 1 + 1 + 1 + 1, 0, none⟩) 2 2] 35)
theorem sz1 (w : World) : (kw1 w).heap.size = w.heap.size + 1 := by unfold kw1; rw [World.size_alloc]
theorem sz2 (w : World) : (kw2 w).heap.size = w.heap.size + 1 + 1 := by unfold kw2; rw [World.size_alloc, sz1]
theorem sz3 (w : World) : (kw3 w).heap.size = w.heap.size + 1 + 1 + 1 := by unfold kw3; rw [World.size_alloc, sz2]
theorem sz4 (w : World) : (kw4 w).heap.size = w.heap.size + 1 + 1 + 1 + 1 := by unfold kw4; rw [World.size_alloc, sz3]
theorem sz5 (w : World) : (kw5 w).heap.size = w.heap.size + 1 + 1 + 1 + 1 + 1 := by unfold kw5; rw [World.size_alloc, sz4]
theorem sz6 (w : World) : (kw6 w).heap.size = w.heap.size + 1 + 1 + 1 + 1 + 1 + 1 := by unfold kw6; rw [World.size_alloc, sz5]
theorem sz7 (w : World) : (kw7 w).heap.size = w.heap.size + 1 + 1 + 1 + 1 + 1 + 1 + 1 := by unfold kw7; rw [World.size_alloc, sz6]
theorem sz8 (w : World) : (kw8 w).heap.size = w.heap.size + 1 + 1 + 1 + 1 + 1 + 1 + 1 + 1 := by unfold kw8; rw [World.size_alloc, sz7]
theorem sz9 (w : World) : (kw9 w).heap.size = w.heap.size + 1 + 1 + 1 + 1 + 1 + 1 + 1 + 1 + 1 := by unfold kw9; rw [World.size_alloc, sz8]
theorem blk_at {W : World} {B B2 : Nat} {t : TypeId} {cs : List Value} (h : Blk W B t cs) (e : B = B2) : Blk W B2 t cs := e ▸ h
theorem bk0 (w : World) : Blk (kw9 w) (w.heap.size) 3 [.int .i64 6] := blk_push (blk_push (blk_push (blk_push (blk_push (blk_push (blk_push (blk_push (blk_at (Blk.new w 3 [.int .i64 6]) rfl) _) _) _) _) _) _) _) _
theorem bk1 (w : World) : Blk (kw9 w) (w.heap.size + 1) 3 [.int .i64 2, .int .i64 3, .int .i64 4] := blk_push (blk_push (blk_push (blk_push (blk_push (blk_push (blk_push (blk_at (Blk.new (kw1 w) 3 [.int .i64 2, .int .i64 3, .int .i64 4]) (sz1 w)) _) _) _) _) _) _) _
theorem bk2 (w : World) : Blk (kw9 w) (w.heap.size + 1 + 1) 3 [.int .i64 1] := blk_push (blk_push (blk_push (blk_push (blk_push (blk_push (blk_at (Blk.new (kw2 w) 3 [.int .i64 1]) (sz2 w)) _) _) _) _) _) _
theorem bk3 (w : World) : Blk (kw9 w) (w.heap.size + 1 + 1 + 1) 3 [.int .i64 1] := blk_push (blk_push (blk_push (blk_push (blk_push (blk_at (Blk.new (kw3 w) 3 [.int .i64 1]) (sz3 w)) _) _) _) _) _
theorem bk4 (w : World) : Blk (kw9 w) (w.heap.size + 1 + 1 + 1 + 1) 3 [.int .i64 1, .int .i64 2, .int .i64 3, .int .i64 4] := blk_push (blk_push (blk_push (blk_push (blk_at (Blk.new (kw4 w) 3 [.int .i64 1, .int .i64 2, .int .i64 3, .int .i64 4]) (sz4 w)) _) _) _) _
theorem bk5 (w : World) : Blk (kw9 w) (w.heap.size + 1 + 1 + 1 + 1 + 1) 3 [.int .i64 2, .int .i64 3, .int .i64 4] := blk_push (blk_push (blk_push (blk_at (Blk.new (kw5 w) 3 [.int .i64 2, .int .i64 3, .int .i64 4]) (sz5 w)) _) _) _
theorem bk6 (w : World) : Blk (kw9 w) (w.heap.size + 1 + 1 + 1 + 1 + 1 + 1) 3 [.int .i64 5] := blk_push (blk_push (blk_at (Blk.new (kw6 w) 3 [.int .i64 5]) (sz6 w)) _) _
theorem bk7 (w : World) : Blk (kw9 w) (w.heap.size + 1 + 1 + 1 + 1 + 1 + 1 + 1) 3 [.int .i64 1, .int .i64 5] := blk_push (blk_at (Blk.new (kw7 w) 3 [.int .i64 1, .int .i64 5]) (sz7 w)) _
theorem bk8 (w : World) : Blk (kw9 w) (w.heap.size + 1 + 1 + 1 + 1 + 1 + 1 + 1 + 1) 35 [.slice (some ⟨w.heap.size, 0, none⟩) 1 1, .slice (some ⟨w.heap.size + 1, 0, none⟩) 3 3, .slice (some ⟨w.heap.size + 1 + 1, 0, none⟩) 1 1, .slice (some ⟨w.heap.size + 1 + 1 + 1, 0, none⟩) 1 1, .slice (some ⟨w.heap.size + 1 + 1 + 1 + 1, 0, none⟩) 4 4, .slice (some ⟨w.heap.size + 1 + 1 + 1 + 1 + 1, 0, none⟩) 3 3, .slice (some ⟨w.heap.size + 1 + 1 + 1 + 1 + 1 + 1, 0, none⟩) 1 1, .slice (some ⟨w.heap.size + 1 + 1 + 1 + 1 + 1 + 1 + 1, 0, none⟩) 2 2] := blk_at (Blk.new (kw8 w) 35 [.slice (some ⟨w.heap.size, 0, none⟩) 1 1, .slice (some ⟨w.heap.size + 1, 0, none⟩) 3 3, .slice (some ⟨w.heap.size + 1 + 1, 0, none⟩) 1 1, .slice (some ⟨w.heap.size + 1 + 1 + 1, 0, none⟩) 1 1, .slice (some ⟨w.heap.size + 1 + 1 + 1 + 1, 0, none⟩) 4 4, .slice (some ⟨w.heap.size + 1 + 1 + 1 + 1 + 1, 0, none⟩) 3 3, .slice (some ⟨w.heap.size + 1 + 1 + 1 + 1 + 1 + 1, 0, none⟩) 1 1, .slice (some ⟨w.heap.size + 1 + 1 + 1 + 1 + 1 + 1 + 1, 0, none⟩) 2 2]) (sz8 w)
/-- The rows of kinds in memory: p's row is of length L, in block G. -/
def HasAt (X : World) (Hb p G L : Nat) : Prop := X.cell? ⟨Hb, p, none⟩ = some (.slice (some ⟨G, 0, none⟩) L L) ∧ L = (hasL p).length ∧ G < X.heap.size ∧ Hb < X.heap.size ∧ ∀ j, j < L → ∃ x, (hasL p)[j]? = some x ∧ X.cell? ⟨G, j, none⟩ = some (.int .i64 x)
theorem HasAt.next {X Y : World} {Hb p G L : Nat} (h : HasAt X Hb p G L) (hb : Below X.heap.size X Y) : HasAt Y Hb p G L := by
  obtain ⟨h1, h2, h3, h4, h5⟩ := h
  have hs := hb.size
  refine ⟨(hb.cell (p := ⟨Hb, p, none⟩) h4).trans h1, h2, by omega, by omega, fun j hj => ?_⟩
  obtain ⟨x, e1, e2⟩ := h5 j hj
  exact ⟨x, e1, (hb.cell (p := ⟨G, j, none⟩) h3).trans e2⟩
theorem below_kw (w : World) : Below w.heap.size w (kw9 w) := by
  have h0 : Below w.heap.size w (kw1 w) := (Below.refl _ w).alloc (Nat.le_refl _) _
  have h1 : Below w.heap.size w (kw2 w) := h0.alloc (by rw [sz1]; omega) _
  have h2 : Below w.heap.size w (kw3 w) := h1.alloc (by rw [sz2]; omega) _
  have h3 : Below w.heap.size w (kw4 w) := h2.alloc (by rw [sz3]; omega) _
  have h4 : Below w.heap.size w (kw5 w) := h3.alloc (by rw [sz4]; omega) _
  have h5 : Below w.heap.size w (kw6 w) := h4.alloc (by rw [sz5]; omega) _
  have h6 : Below w.heap.size w (kw7 w) := h5.alloc (by rw [sz6]; omega) _
  have h7 : Below w.heap.size w (kw8 w) := h6.alloc (by rw [sz7]; omega) _
  have h8 : Below w.heap.size w (kw9 w) := h7.alloc (by rw [sz8]; omega) _
  exact h8
set_option maxRecDepth 100000 in
theorem has_at (w : World) {p : Nat} (hp : p < 8) : ∃ G L, HasAt (kw9 w) (w.heap.size + 1 + 1 + 1 + 1 + 1 + 1 + 1 + 1) p G L := by
  have hz := sz9 w
  obtain rfl | rfl | rfl | rfl | rfl | rfl | rfl | rfl : p = 0 ∨ p = 1 ∨ p = 2 ∨ p = 3 ∨ p = 4 ∨ p = 5 ∨ p = 6 ∨ p = 7 := by omega
  · refine ⟨w.heap.size, 1, (cell_of_block (bk8 w) 0).trans rfl, rfl, by omega, by omega, fun j hj => ?_⟩
    obtain rfl : j = 0 := by omega
    exact ⟨6, rfl, (cell_of_block (bk0 w) 0).trans rfl⟩
  · refine ⟨w.heap.size + 1, 3, (cell_of_block (bk8 w) 1).trans rfl, rfl, by omega, by omega, fun j hj => ?_⟩
    obtain rfl | rfl | rfl : j = 0 ∨ j = 1 ∨ j = 2 := by omega
    · exact ⟨2, rfl, (cell_of_block (bk1 w) 0).trans rfl⟩
    · exact ⟨3, rfl, (cell_of_block (bk1 w) 1).trans rfl⟩
    · exact ⟨4, rfl, (cell_of_block (bk1 w) 2).trans rfl⟩
  · refine ⟨w.heap.size + 1 + 1, 1, (cell_of_block (bk8 w) 2).trans rfl, rfl, by omega, by omega, fun j hj => ?_⟩
    obtain rfl : j = 0 := by omega
    exact ⟨1, rfl, (cell_of_block (bk2 w) 0).trans rfl⟩
  · refine ⟨w.heap.size + 1 + 1 + 1, 1, (cell_of_block (bk8 w) 3).trans rfl, rfl, by omega, by omega, fun j hj => ?_⟩
    obtain rfl : j = 0 := by omega
    exact ⟨1, rfl, (cell_of_block (bk3 w) 0).trans rfl⟩
  · refine ⟨w.heap.size + 1 + 1 + 1 + 1, 4, (cell_of_block (bk8 w) 4).trans rfl, rfl, by omega, by omega, fun j hj => ?_⟩
    obtain rfl | rfl | rfl | rfl : j = 0 ∨ j = 1 ∨ j = 2 ∨ j = 3 := by omega
    · exact ⟨1, rfl, (cell_of_block (bk4 w) 0).trans rfl⟩
    · exact ⟨2, rfl, (cell_of_block (bk4 w) 1).trans rfl⟩
    · exact ⟨3, rfl, (cell_of_block (bk4 w) 2).trans rfl⟩
    · exact ⟨4, rfl, (cell_of_block (bk4 w) 3).trans rfl⟩
  · refine ⟨w.heap.size + 1 + 1 + 1 + 1 + 1, 3, (cell_of_block (bk8 w) 5).trans rfl, rfl, by omega, by omega, fun j hj => ?_⟩
    obtain rfl | rfl | rfl : j = 0 ∨ j = 1 ∨ j = 2 := by omega
    · exact ⟨2, rfl, (cell_of_block (bk5 w) 0).trans rfl⟩
    · exact ⟨3, rfl, (cell_of_block (bk5 w) 1).trans rfl⟩
    · exact ⟨4, rfl, (cell_of_block (bk5 w) 2).trans rfl⟩
  · refine ⟨w.heap.size + 1 + 1 + 1 + 1 + 1 + 1, 1, (cell_of_block (bk8 w) 6).trans rfl, rfl, by omega, by omega, fun j hj => ?_⟩
    obtain rfl : j = 0 := by omega
    exact ⟨5, rfl, (cell_of_block (bk6 w) 0).trans rfl⟩
  · refine ⟨w.heap.size + 1 + 1 + 1 + 1 + 1 + 1 + 1, 2, (cell_of_block (bk8 w) 7).trans rfl, rfl, by omega, by omega, fun j hj => ?_⟩
    obtain rfl | rfl : j = 0 ∨ j = 1 := by omega
    · exact ⟨1, rfl, (cell_of_block (bk7 w) 0).trans rfl⟩
    · exact ⟨5, rfl, (cell_of_block (bk7 w) 1).trans rfl⟩

end Go.Proofs.YtacdgfjmmomkpaaDoor.Cp
