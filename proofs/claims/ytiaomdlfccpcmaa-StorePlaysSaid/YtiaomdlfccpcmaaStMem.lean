/- Package store in memory: structs, the tree of structs, by a number's way down. -/
import Derived.Test.YtiaomdlfccpcmaaSlMini
import Derived.Test.YtiaomdlfccpcmaaStSpec
namespace Go.Proofs.Ytiaomdlfccpcmaa.Sto
open Go Go.RowKit Sl

theorem blk_cell {W : World} {B : Nat} {t : TypeId} {cs : List Value} (h : Blk W B t cs) {i : Nat} {v : Value} (hv : cs[i]? = some v) : W.cell? ⟨B, i, none⟩ = some v := by
  simp [World.cell?, show W.heap[B]? = _ from h, hv]
theorem blk_thaw {W : World} {B : Nat} {t : TypeId} {cs : List Value} (h : Blk W B t cs) (i : Nat) : W.frozen? ⟨B, i, none⟩ = false := by simp [World.frozen?, show W.heap[B]? = _ from h]
theorem blk_put {W : World} {B : Nat} {t : TypeId} {cs : List Value} (h : Blk W B t cs) (i : Nat) (v : Value) : Blk (W.setCell ⟨B, i, none⟩ v) B t (cs.set i v) := by
  have hb : B < W.heap.size := h.lt
  have hx : W.heap[B] = .cells cs.toArray t (0, 0) := (Array.getElem?_eq_some_iff.1 h).2
  unfold Blk
  simp only [World.setCell, Array.getElem?_modify, Array.getElem?_eq_getElem hb, hx, if_true, Option.map_some]
  simp
theorem grown_set (W : World) (b i : Nat) (v : Value) : W.grownBy (W.setCell ⟨b, i, none⟩ v) (some b) :=
  ⟨rfl, rfl, rfl, by simp [World.setCell], fun k _ hne => by
    have : k ≠ b := fun e => hne (by rw [e])
    simp [World.setCell, Array.getElem?_modify, this.symm]⟩
theorem below_grew {n : Nat} {a X Y : World} {row : Option Nat} (h : Below n a X) (g : X.grownBy Y row) (hn : n ≤ X.heap.size) (hr : ∀ r, row = some r → n ≤ r) : Below n a Y := h.grown g hn hr
theorem below_set {n : Nat} {a X : World} (h : Below n a X) (b i : Nat) (v : Value) (hn : n ≤ X.heap.size) (hb : n ≤ b) : Below n a (X.setCell ⟨b, i, none⟩ v) := h.grown (grown_set X b i v) hn (fun r e => by cases e; exact hb)
/-- Nine cells are set. -/
def set9 (W : World) (B : Nat) (h : He) : World := ((((((((W.setCell ⟨B, 0, none⟩ (.int .i64 (h.1 0))).setCell ⟨B, 1, none⟩ (.int .i64 (h.1 1))).setCell ⟨B, 2, none⟩ (.int .i64 (h.1 2))).setCell ⟨B, 3, none⟩ (.int .i64 (h.1 3))).setCell ⟨B, 4, none⟩ (.int .i64 (h.1 4))).setCell ⟨B, 5, none⟩ (.int .i64 (h.1 5))).setCell ⟨B, 6, none⟩ (.int .i64 (h.1 6))).setCell ⟨B, 7, none⟩ (.int .i64 (h.1 7))).setCell ⟨B, 8, none⟩ (.int .i64 h.2)
def set8 (W : World) (B : Nat) (s : Nat → Int) : World := (((((((W.setCell ⟨B, 0, none⟩ (.int .i64 (s 0))).setCell ⟨B, 1, none⟩ (.int .i64 (s 1))).setCell ⟨B, 2, none⟩ (.int .i64 (s 2))).setCell ⟨B, 3, none⟩ (.int .i64 (s 3))).setCell ⟨B, 4, none⟩ (.int .i64 (s 4))).setCell ⟨B, 5, none⟩ (.int .i64 (s 5))).setCell ⟨B, 6, none⟩ (.int .i64 (s 6))).setCell ⟨B, 7, none⟩ (.int .i64 (s 7))
theorem grown_set9 (W : World) (B : Nat) (h : He) : W.grownBy (set9 W B h) (some B) :=
  ((((((((grown_set _ _ _ _).trans (grown_set _ _ _ _)).trans (grown_set _ _ _ _)).trans (grown_set _ _ _ _)).trans (grown_set _ _ _ _)).trans (grown_set _ _ _ _)).trans (grown_set _ _ _ _)).trans (grown_set _ _ _ _)).trans (grown_set _ _ _ _)
theorem grown_set8 (W : World) (B : Nat) (s : Nat → Int) : W.grownBy (set8 W B s) (some B) :=
  (((((((grown_set _ _ _ _).trans (grown_set _ _ _ _)).trans (grown_set _ _ _ _)).trans (grown_set _ _ _ _)).trans (grown_set _ _ _ _)).trans (grown_set _ _ _ _)).trans (grown_set _ _ _ _)).trans (grown_set _ _ _ _)
/-- Block B holds a struct; a style. -/
def HAt (W : World) (B : Nat) (h : He) : Prop := Blk W B 53 (heL h)
def SAt (W : World) (B : Nat) (s : Nat → Int) : Prop := Blk W B 35 (styL s)
theorem HAt.set9 {W : World} {B : Nat} {h : He} (k : HAt W B h) (h' : He) : HAt (set9 W B h') B h' := by
  have := ((((((((blk_put k 0 (.int .i64 (h'.1 0))))
  |> (blk_put · 1 (.int .i64 (h'.1 1))))
  |> (blk_put · 2 (.int .i64 (h'.1 2))))
  |> (blk_put · 3 (.int .i64 (h'.1 3))))
  |> (blk_put · 4 (.int .i64 (h'.1 4))))
  |> (blk_put · 5 (.int .i64 (h'.1 5))))
  |> (blk_put · 6 (.int .i64 (h'.1 6))))
  |> (blk_put · 7 (.int .i64 (h'.1 7)))
  exact blk_put this 8 (.int .i64 h'.2)
theorem SAt.set8 {W : World} {B : Nat} {s : Nat → Int} (k : SAt W B s) (s' : Nat → Int) : SAt (set8 W B s') B s' := by
  have := (((((((blk_put k 0 (.int .i64 (s' 0))))
  |> (blk_put · 1 (.int .i64 (s' 1))))
  |> (blk_put · 2 (.int .i64 (s' 2))))
  |> (blk_put · 3 (.int .i64 (s' 3))))
  |> (blk_put · 4 (.int .i64 (s' 4))))
  |> (blk_put · 5 (.int .i64 (s' 5))))
  |> (blk_put · 6 (.int .i64 (s' 6)))
  exact blk_put this 7 (.int .i64 (s' 7))
theorem HAt.lt {W : World} {B : Nat} {h : He} (k : HAt W B h) : B < W.heap.size := Blk.lt k
theorem SAt.lt {W : World} {B : Nat} {s : Nat → Int} (k : SAt W B s) : B < W.heap.size := Blk.lt k
theorem HAt.next {X Y : World} {B : Nat} {h : He} (k : HAt X B h) (hb : Below X.heap.size X Y) : HAt Y B h := Blk.below k hb k.lt
theorem SAt.next {X Y : World} {B : Nat} {s : Nat → Int} (k : SAt X B s) (hb : Below X.heap.size X Y) : SAt Y B s := Blk.below k hb k.lt
theorem HAt.cells {W : World} {B : Nat} {h : He} (k : HAt W B h) : W.cell? ⟨B, 0, none⟩ = some (.int .i64 (h.1 0)) ∧ W.cell? ⟨B, 1, none⟩ = some (.int .i64 (h.1 1)) ∧ W.cell? ⟨B, 2, none⟩ = some (.int .i64 (h.1 2)) ∧ W.cell? ⟨B, 3, none⟩ = some (.int .i64 (h.1 3)) ∧ W.cell? ⟨B, 4, none⟩ = some (.int .i64 (h.1 4)) ∧ W.cell? ⟨B, 5, none⟩ = some (.int .i64 (h.1 5)) ∧ W.cell? ⟨B, 6, none⟩ = some (.int .i64 (h.1 6)) ∧ W.cell? ⟨B, 7, none⟩ = some (.int .i64 (h.1 7)) ∧ W.cell? ⟨B, 8, none⟩ = some (.int .i64 h.2) :=
  ⟨blk_cell k rfl, blk_cell k rfl, blk_cell k rfl, blk_cell k rfl, blk_cell k rfl, blk_cell k rfl, blk_cell k rfl, blk_cell k rfl, blk_cell k rfl⟩
theorem SAt.cells {W : World} {B : Nat} {s : Nat → Int} (k : SAt W B s) : W.cell? ⟨B, 0, none⟩ = some (.int .i64 (s 0)) ∧ W.cell? ⟨B, 1, none⟩ = some (.int .i64 (s 1)) ∧ W.cell? ⟨B, 2, none⟩ = some (.int .i64 (s 2)) ∧ W.cell? ⟨B, 3, none⟩ = some (.int .i64 (s 3)) ∧ W.cell? ⟨B, 4, none⟩ = some (.int .i64 (s 4)) ∧ W.cell? ⟨B, 5, none⟩ = some (.int .i64 (s 5)) ∧ W.cell? ⟨B, 6, none⟩ = some (.int .i64 (s 6)) ∧ W.cell? ⟨B, 7, none⟩ = some (.int .i64 (s 7)) :=
  ⟨blk_cell k rfl, blk_cell k rfl, blk_cell k rfl, blk_cell k rfl, blk_cell k rfl, blk_cell k rfl, blk_cell k rfl, blk_cell k rfl⟩
theorem HAt.thaw {W : World} {B : Nat} {h : He} (k : HAt W B h) : W.frozen? ⟨B, 0, none⟩ = false ∧ W.frozen? ⟨B, 1, none⟩ = false ∧ W.frozen? ⟨B, 2, none⟩ = false ∧ W.frozen? ⟨B, 3, none⟩ = false ∧ W.frozen? ⟨B, 4, none⟩ = false ∧ W.frozen? ⟨B, 5, none⟩ = false ∧ W.frozen? ⟨B, 6, none⟩ = false ∧ W.frozen? ⟨B, 7, none⟩ = false ∧ W.frozen? ⟨B, 8, none⟩ = false :=
  ⟨blk_thaw k _, blk_thaw k _, blk_thaw k _, blk_thaw k _, blk_thaw k _, blk_thaw k _, blk_thaw k _, blk_thaw k _, blk_thaw k _⟩
theorem SAt.thaw {W : World} {B : Nat} {s : Nat → Int} (k : SAt W B s) : W.frozen? ⟨B, 0, none⟩ = false ∧ W.frozen? ⟨B, 1, none⟩ = false ∧ W.frozen? ⟨B, 2, none⟩ = false ∧ W.frozen? ⟨B, 3, none⟩ = false ∧ W.frozen? ⟨B, 4, none⟩ = false ∧ W.frozen? ⟨B, 5, none⟩ = false ∧ W.frozen? ⟨B, 6, none⟩ = false ∧ W.frozen? ⟨B, 7, none⟩ = false :=
  ⟨blk_thaw k _, blk_thaw k _, blk_thaw k _, blk_thaw k _, blk_thaw k _, blk_thaw k _, blk_thaw k _, blk_thaw k _⟩
theorem HAt.new (w : World) (h : He) : HAt (w.alloc (.cells (heL h).toArray 53)) w.heap.size h := Blk.new w _ (heL h)
theorem SAt.new (w : World) (s : Nat → Int) : SAt (w.alloc (.cells (styL s).toArray 35)) w.heap.size s := Blk.new w _ (styL s)

/-! ### the tree -/
/-- The pointer v leads to the struct o, where there is one; all blocks are of D. -/
def PtrH (D : Nat → Prop) (W : World) (v : Option Addr) (o : Option He) : Prop := (v = none ∧ o = none) ∨ ∃ b h, v = some ⟨b, 0, none⟩ ∧ o = some h ∧ HAt W b h ∧ D b
/-- The cells of a node: a struct's pointer, four nodes'. -/
abbrev nodL (v : Option Addr) (c : Nat → Option Addr) : List Value := [.pointer v, .pointer (c 0), .pointer (c 1), .pointer (c 2), .pointer (c 3)]
/-- The pointer leads to a tree: what each number has, as its node tells; all blocks are of D. -/
inductive Tr (D : Nat → Prop) (W : World) : Option Addr → (Nat → Option He) → Prop
  | nil {f : Nat → Option He} (h : ∀ k, f k = none) : Tr D W none f
  | node {b : Nat} {v : Option Addr} {c : Nat → Option Addr} {f : Nat → Option He} (hb : Blk W b 66 (nodL v c) ∧ D b) (hv : PtrH D W v (f 0)) (hc : ∀ j, j < 4 → Tr D W (c j) (fun k => f (4 * k + 1 + j))) : Tr D W (some ⟨b, 0, none⟩) f
theorem PtrH.low {D : Nat → Prop} {W : World} {v : Option Addr} {o : Option He} (h : PtrH D W v o) : PtrH (fun r => D r ∧ r < W.heap.size) W v o := by
  rcases h with h | ⟨b, x, h1, h2, h3, h4⟩
  · exact .inl h
  · exact .inr ⟨b, x, h1, h2, h3, h4, h3.lt⟩
theorem PtrH.mono {D D' : Nat → Prop} {W : World} {v : Option Addr} {o : Option He} (h : PtrH D W v o) (hd : ∀ r, D r → D' r) : PtrH D' W v o := by
  rcases h with h | ⟨b, x, h1, h2, h3, h4⟩
  · exact .inl h
  · exact .inr ⟨b, x, h1, h2, h3, hd b h4⟩
theorem PtrH.kept {D : Nat → Prop} {X Y : World} {v : Option Addr} {o : Option He} (h : PtrH D X v o) (hk : ∀ r, D r → r < X.heap.size → Y.heap[r]? = X.heap[r]?) : PtrH D Y v o := by
  rcases h with h | ⟨b, x, h1, h2, h3, h4⟩
  · exact .inl h
  · exact .inr ⟨b, x, h1, h2, (hk b h4 h3.lt).trans h3, h4⟩
theorem Tr.low {D : Nat → Prop} {W : World} {p : Option Addr} {f : Nat → Option He} (h : Tr D W p f) : Tr (fun r => D r ∧ r < W.heap.size) W p f := by
  induction h with
  | nil h => exact .nil h
  | node h1 h2 _ ih => exact .node ⟨h1.1, h1.2, h1.1.lt⟩ h2.low (fun j hj => ih j hj)
theorem Tr.mono {D D' : Nat → Prop} (hd : ∀ r, D r → D' r) {W : World} {p : Option Addr} {f : Nat → Option He} (h : Tr D W p f) : Tr D' W p f := by
  induction h with
  | nil h => exact .nil h
  | node h1 h2 _ ih => exact .node ⟨h1.1, hd _ h1.2⟩ (h2.mono hd) (fun j hj => ih j hj)
theorem Tr.kept {D : Nat → Prop} {X Y : World} (hk : ∀ r, D r → r < X.heap.size → Y.heap[r]? = X.heap[r]?) {p : Option Addr} {f : Nat → Option He} (h : Tr D X p f) : Tr D Y p f := by
  induction h with
  | nil h => exact .nil h
  | node h1 h2 _ ih => exact .node ⟨(hk _ h1.2 h1.1.lt).trans h1.1, h1.2⟩ (h2.kept hk) (fun j hj => ih j hj)
theorem PtrH.next {D : Nat → Prop} {X Y : World} {v : Option Addr} {o : Option He} (h : PtrH D X v o) (hb : Below X.heap.size X Y) : PtrH D Y v o := h.kept (fun r _ hr => hb.block r hr)
theorem Tr.next {D : Nat → Prop} {X Y : World} (hb : Below X.heap.size X Y) {p : Option Addr} {f : Nat → Option He} (h : Tr D X p f) : Tr D Y p f := h.kept (fun r _ hr => hb.block r hr)
/-- No block of a tree is of another type. -/
theorem PtrH.typed {D : Nat → Prop} {W : World} {v : Option Addr} {o : Option He} (h : PtrH D W v o) : PtrH (fun r => D r ∧ ∃ k, W.heap[r]? = some (.cells k 53 (0, 0)) ∨ W.heap[r]? = some (.cells k 66 (0, 0))) W v o := by
  rcases h with h | ⟨b, x, h1, h2, h3, h4⟩
  · exact .inl h
  · exact .inr ⟨b, x, h1, h2, h3, h4, _, .inl h3⟩
theorem Tr.typed {D : Nat → Prop} {W : World} {p : Option Addr} {f : Nat → Option He} (h : Tr D W p f) : Tr (fun r => D r ∧ ∃ k, W.heap[r]? = some (.cells k 53 (0, 0)) ∨ W.heap[r]? = some (.cells k 66 (0, 0))) W p f := by
  induction h with
  | nil h => exact .nil h
  | node h1 h2 _ ih => exact .node ⟨h1.1, h1.2, _, .inr h1.1⟩ h2.typed (fun j hj => ih j hj)
/-- A block of another type alone was changed. -/
theorem Tr.other {D : Nat → Prop} {X Y : World} {b : Nat} {A : Array Value} {t : TypeId} {p : Option Addr} {f : Nat → Option He} (h : Tr D X p f) (hb : X.heap[b]? = some (.cells A t (0, 0))) (h1 : t ≠ 53) (h2 : t ≠ 66) (hk : ∀ r, r < X.heap.size → r ≠ b → Y.heap[r]? = X.heap[r]?) : Tr D Y p f := by
  refine (h.typed.kept (fun r hr hlt => hk r hlt (fun e => ?_))).mono (fun r hr => hr.1)
  subst e
  obtain ⟨_, k, h3 | h3⟩ := hr
  · rw [hb] at h3; cases h3; exact h1 rfl
  · rw [hb] at h3; cases h3; exact h2 rfl
theorem Tr.none_of {D : Nat → Prop} {W : World} {f : Nat → Option He} (h : Tr D W none f) (k : Nat) : f k = none := by
  cases h with
  | nil h => exact h k
theorem PtrH.none_of {D : Nat → Prop} {W : World} {o : Option He} (h : PtrH D W none o) : o = none := by
  rcases h with h | ⟨b, x, h1, _⟩
  · exact h.2
  · cases h1
theorem Tr.ext {D : Nat → Prop} {W : World} {p : Option Addr} {f g : Nat → Option He} (h : Tr D W p f) (e : ∀ k, g k = f k) : Tr D W p g := by
  obtain rfl : g = f := funext e
  exact h
/-- What changes in a tree, seen from a node. -/
theorem upd_zero (f : Nat → Option He) (o : Option He) : updV f 0 o 0 = o := rfl
theorem upd_zero_ne (f : Nat → Option He) (o : Option He) (k : Nat) : updV f 0 o (k + 1) = f (k + 1) := rfl
theorem upd_below {f : Nat → Option He} {o : Option He} {i j m : Nat} (hi : i = 4 * m + 1 + j) (_ : j < 4) : (fun k => updV f i o (4 * k + 1 + j)) = updV (fun k => f (4 * k + 1 + j)) m o := by
  funext k
  unfold updV
  by_cases e : k = m
  · rw [if_pos e, if_pos (by omega)]
  · rw [if_neg e, if_neg (by omega)]
theorem upd_other {f : Nat → Option He} {o : Option He} {i j j' m : Nat} (hi : i = 4 * m + 1 + j) (hj : j < 4) (hj' : j' < 4) (hne : j' ≠ j) : (fun k => updV f i o (4 * k + 1 + j')) = (fun k => f (4 * k + 1 + j')) := by
  funext k
  unfold updV
  rw [if_neg (by omega)]

end Go.Proofs.Ytiaomdlfccpcmaa.Sto
