/- A compound under way in memory. -/
import Derived.Test.YtkhgmobependiaaDoorSlGd
namespace Go.Proofs.YtkhgmobependiaaDoor.Sl
open Go.Proofs.YtkhgmobependiaaDoor.Tre
open Go Go.RowKit Go.Shelf

def StrT (_ : Nat → Prop) (_ : World) (c : List Value) (x : ByteArray) : Prop := c = [Value.string x]
def AtT (_ : Nat → Prop) (_ : World) (c : List Value) (x : At) : Prop := c = atCells x
def PsTd (d : Nat) (P : Nat → Prop) (W : World) (c : List Value) (p : Ps) : Prop := PsT (SelsAt d P W) c p
theorem strT_stays : Stays StrT := fun _ _ _ _ _ _ h _ => h
theorem atT_stays : Stays AtT := fun _ _ _ _ _ _ h _ => h
theorem psT_stays (d : Nat) : Stays (PsTd d) := fun _ _ _ _ _ _ ⟨x, e, h⟩ f => ⟨x, e, SelsAt.fr d h f⟩
/-- The blocks from n on that are neither C nor one of the four rows'. -/
def Off (n C : Nat) (i k a p : Value) (b : Nat) : Prop := n ≤ b ∧ b ≠ C ∧ i.ownBlock ≠ some b ∧ k.ownBlock ≠ some b ∧ a.ownBlock ≠ some b ∧ p.ownBlock ≠ some b
/-- THE BLOCK C HOLDS THE COMPOUND c, its rows under way. -/
structure CUx (d n : Nat) (W : World) (C : Nat) (c : Cp) (i k a p : Value) : Prop where
  blk : Blk W C 38 [.string c.tag, i, k, a, p]
  nC : n ≤ C
  ri : UndRow 9 1 StrT n (Off n C i k a p) W i c.ids
  rk : UndRow 9 1 StrT n (Off n C i k a p) W k c.classes
  ra : UndRow 87 3 AtT n (Off n C i k a p) W a c.attrs
  rp : UndRow 26 4 (PsTd d) n (Off n C i k a p) W p c.pss
  ik : ∀ g, i.ownBlock = some g → k.ownBlock ≠ some g
def CU (d n : Nat) (W : World) (C : Nat) (c : Cp) : Prop := ∃ i k a p, CUx d n W C c i k a p
/-- A row's block is no other row's, where their types are unlike. -/
theorem rows_ne {W : World} {b b' : Nat} {e e' : TypeId} (hne : e ≠ e') {s s' : Nat} {v v' : Value} {n n' : Nat} {xs xs' : List Value} (h : W.ownsRow b e s v n xs) (h' : W.ownsRow b' e' s' v' n' xs') {g : Nat} (hg : v.ownBlock = some g) : v'.ownBlock ≠ some g := by
  rcases h.2 with ⟨rfl, _⟩ | ⟨g0, cap, cur, rfl, _, hb, _⟩
  · simp [Value.ownBlock] at hg
  · simp [Value.ownBlock] at hg
    subst hg
    exact owns_apart h' hb (fun c f e => by injection e with _ e2; exact hne e2)
theorem UndRow.ne {α β : Type} {e e' : TypeId} (hne : e ≠ e') {sz sz' : Nat} {T : (Nat → Prop) → World → List Value → α → Prop} {T' : (Nat → Prop) → World → List Value → β → Prop} {n n' : Nat} {P P' : Nat → Prop} {W : World} {v v' : Value} {l : List α} {l' : List β} (h : UndRow e sz T n P W v l) (h' : UndRow e' sz' T' n' P' W v' l') {g : Nat} (hg : v.ownBlock = some g) : v'.ownBlock ≠ some g :=
  rows_ne hne h.choose_spec.1 h'.choose_spec.1 hg
theorem UndRow.off {α : Type} {e : TypeId} {sz : Nat} {T : (Nat → Prop) → World → List Value → α → Prop} {n : Nat} {P : Nat → Prop} {W : World} {v : Value} {l : List α} (h : UndRow e sz T n P W v l) {C : Nat} {t : TypeId} {cs : List Value} (hC : Blk W C t cs) (hne : t ≠ e) : v.ownBlock ≠ some C :=
  owns_apart h.choose_spec.1 hC (fun c f e => by injection e with _ e2; exact hne e2)
theorem UndRow.cl {α : Type} {e : TypeId} {sz : Nat} {T : (Nat → Prop) → World → List Value → α → Prop} {n : Nat} {P : Nat → Prop} {W : World} {v : Value} {l : List α} (h : UndRow e sz T n P W v l) (he : e ≠ 58) {g : Nat} (hg : v.ownBlock = some g) : Cl W g := by
  obtain ⟨css, h1, _⟩ := h
  rcases h1.2 with ⟨rfl, _⟩ | ⟨g', cap, cur, rfl, _, hb, _⟩
  · simp [Value.ownBlock] at hg
  · simp [Value.ownBlock] at hg
    subst hg
    exact ⟨_, _, _, hb, he⟩
theorem CUx.kept {d n : Nat} {W W' : World} {C : Nat} {c : Cp} {i k a p : Value} (h : CUx d n W C c i k a p) {keep : Nat → Prop} (hk : Kept keep W W') (hn : ∀ b, n ≤ b → Cl W b → keep b) : CUx d n W' C c i k a p := by
  have f : Fr (Off n C i k a p) (Off n C i k a p) W W' := Fr.of_kept hk (fun b hb hl => ⟨hn b hb.1 hl, hb⟩)
  have row : ∀ {α : Type} {e : TypeId} {sz : Nat} {T : (Nat → Prop) → World → List Value → α → Prop} {P : Nat → Prop} {v : Value} {l : List α}, UndRow e sz T n P W v l → e ≠ 58 → ∀ g, v.ownBlock = some g → W'.heap[g]? = W.heap[g]? := fun hr he g hg => hk.block g (hr.lt hg).2 (hn g (hr.lt hg).1 (hr.cl he hg))
  exact ⟨hk.blk h.blk (hn C h.nC (h.blk.cl (by decide))), h.nC, h.ri.kept strT_stays f (row h.ri (by decide)), h.rk.kept strT_stays f (row h.rk (by decide)), h.ra.kept atT_stays f (row h.ra (by decide)), h.rp.kept (psT_stays d) f (row h.rp (by decide)), h.ik⟩
theorem CUx.below {d n : Nat} {W W' : World} {C : Nat} {c : Cp} {i k a p : Value} (h : CUx d n W C c i k a p) (hb : Below W.heap.size W W') : CUx d n W' C c i k a p := h.kept (keep := fun _ => True) (.of_below hb) (fun _ _ _ => trivial)
theorem CUx.but {d n R : Nat} {W W' : World} {C : Nat} {c : Cp} {i k a p : Value} (h : CUx d n W C c i k a p) (hb : But R W W') (hR : R < n) : CUx d n W' C c i k a p := h.kept hb (fun b hb _ => by omega)
/-- A new one. -/
theorem CUx.new (d n : Nat) (W : World) (tag : ByteArray) (hn : n ≤ W.heap.size) : CUx d n (W.alloc (.cells #[.string tag, .slice none 0 0, .slice none 0 0, .slice none 0 0, .slice none 0 0] 38)) W.heap.size (.mk tag [] [] [] []) (.slice none 0 0) (.slice none 0 0) (.slice none 0 0) (.slice none 0 0) :=
  ⟨Blk.new W 38 _, hn, UndRow.nil _ _ _ _ _ _, UndRow.nil _ _ _ _ _ _, UndRow.nil _ _ _ _ _ _, UndRow.nil _ _ _ _ _ _, fun g hg => by simp [Value.ownBlock] at hg⟩
/-- One thing more, of a row whose cells are known. -/
theorem und_push {α : Type} {e : TypeId} {sz : Nat} {T : (Nat → Prop) → World → List Value → α → Prop} (hT : Stays T) {n : Nat} {P P' : Nat → Prop} {W W' : World} {v' : Value} {l : List α} {css : List (List Value)} (h2 : css.length = l.length) (h3 : ∀ c ∈ css, c.length = sz) (h4 : ∀ (j : Nat) (c : List Value) (x : α), css[j]? = some c → l[j]? = some x → T P W c x) {c : List Value} {x : α}
    (hc : c.length = sz) (hx : T P' W' c x) (f : Fr P P' W W') (hr : W'.ownsRow n e sz v' (l.length + 1) (css.flatten ++ c)) : UndRow e sz T n P' W' v' (l ++ [x]) := by
  refine ⟨css ++ [c], ?_, by simp [h2], fun d hd => ?_, fun j d y hd hy => ?_⟩
  · rw [List.length_append]
    simpa using hr
  · rcases List.mem_append.1 hd with hd | hd
    · exact h3 d hd
    · obtain rfl : d = c := by simpa using hd
      exact hc
  · by_cases hj : j < css.length
    · rw [List.getElem?_append_left hj] at hd
      rw [List.getElem?_append_left (by rw [← h2]; exact hj)] at hy
      exact hT _ _ _ _ _ _ (h4 j d y hd hy) f
    · have hj' : j = css.length := by
        have := (List.getElem?_eq_some_iff.1 hd).1
        simp at this
        omega
      subst hj'
      rw [List.getElem?_append_right (Nat.le_refl _)] at hd
      rw [h2, List.getElem?_append_right (Nat.le_refl _)] at hy
      obtain rfl : c = d := by simpa using hd
      obtain rfl : x = y := by simpa using hy
      exact hx
/-- A thing more in the row i: appended, and stored. -/
theorem CUx.addId {d n : Nat} {W W' : World} {C : Nat} {c : Cp} {i k a p : Value} (h : CUx d n W C c i k a p) {css : List (List Value)} (h2 : css.length = c.ids.length) (h3 : ∀ c ∈ css, c.length = 1) (h4 : ∀ (j : Nat) (q : List Value) (x : ByteArray), css[j]? = some q → c.ids[j]? = some x → StrT (Off n C i k a p) W q x) {v' : Value} {x : ByteArray}
    (hr : W'.ownsRow n 9 1 v' (c.ids.length + 1) (css.flatten ++ [.string x])) (hg : W.grownBy W' i.ownBlock) (hat : ∀ g, v'.ownBlock = some g → i.ownBlock = some g ∨ W.heap.size ≤ g) : CUx d n (W'.setCell ⟨C, 1, none⟩ v') C (c.addId x) v' k a p := by
  obtain ⟨t, ids, cls, ats, pss⟩ := c
  have hC := h.blk
  have oi := h.ri.off hC (by decide)
  have ok := h.rk.off hC (by decide)
  have oa := h.ra.off hC (by decide)
  have op := h.rp.off hC (by decide)
  have hCW : C < W.heap.size := hC.lt
  have keep : ∀ b, b < W.heap.size → b ≠ C → i.ownBlock ≠ some b → (W'.setCell ⟨C, 1, none⟩ v').heap[b]? = W.heap[b]? := fun b hb h1 h2 =>
    (Below.heap_setCell _ _ _ _ (fun e => h1 (by simpa using e))).trans (hg.block b hb (fun e => h2 e.symm))
  have hsz : W.heap.size ≤ (W'.setCell ⟨C, 1, none⟩ v').heap.size := by rw [World.size_setCell]; exact hg.size
  have f : Fr (Off n C i k a p) (Off n C v' k a p) W (W'.setCell ⟨C, 1, none⟩ v') := ⟨hsz, fun b hb hl => ⟨keep b hl.lt hb.2.1 hb.2.2.1, ?_⟩⟩
  rotate_left
  · exact ⟨hb.1, hb.2.1, fun e => (hat b e).elim hb.2.2.1 (fun h => by have := hl.lt; omega), hb.2.2.2.1, hb.2.2.2.2.1, hb.2.2.2.2.2⟩
  have hvC : v'.ownBlock ≠ some C := fun e => (hat C e).elim oi (fun h => by omega)
  have hr' : (W'.setCell ⟨C, 1, none⟩ v').ownsRow n 9 1 v' _ _ := owns_same hr (fun g hg' => Below.heap_setCell _ _ _ _ (fun e => hvC (by simp at e; rw [← e]; exact hg')))
  exact ⟨blk_put ((show Blk W' C _ _ from (hg.block C hCW (fun e => oi e.symm)).trans hC)) 1 v', h.nC, und_push strT_stays h2 h3 h4 rfl rfl f hr', h.rk.kept strT_stays f (fun g hg' => keep g (h.rk.lt hg').2 (fun e => ok (by rw [← e]; exact hg')) (fun e => h.ik g e hg')), h.ra.kept atT_stays f (fun g hg' => keep g (h.ra.lt hg').2 (fun e => oa (by rw [← e]; exact hg')) (h.ra.ne (by decide) h.ri hg')), h.rp.kept (psT_stays d) f (fun g hg' => keep g (h.rp.lt hg').2 (fun e => op (by rw [← e]; exact hg')) (h.rp.ne (by decide) h.ri hg')), fun g e e2 => (hat g e).elim (fun e => h.ik g e e2) (fun hh => by have := (h.rk.lt e2).2; omega)⟩
/-- A thing more in the row k: appended, and stored. -/
theorem CUx.addClass {d n : Nat} {W W' : World} {C : Nat} {c : Cp} {i k a p : Value} (h : CUx d n W C c i k a p) {css : List (List Value)} (h2 : css.length = c.classes.length) (h3 : ∀ c ∈ css, c.length = 1) (h4 : ∀ (j : Nat) (q : List Value) (x : ByteArray), css[j]? = some q → c.classes[j]? = some x → StrT (Off n C i k a p) W q x) {v' : Value} {x : ByteArray}
    (hr : W'.ownsRow n 9 1 v' (c.classes.length + 1) (css.flatten ++ [.string x])) (hg : W.grownBy W' k.ownBlock) (hat : ∀ g, v'.ownBlock = some g → k.ownBlock = some g ∨ W.heap.size ≤ g) : CUx d n (W'.setCell ⟨C, 2, none⟩ v') C (c.addClass x) i v' a p := by
  obtain ⟨t, ids, cls, ats, pss⟩ := c
  have hC := h.blk
  have oi := h.ri.off hC (by decide)
  have ok := h.rk.off hC (by decide)
  have oa := h.ra.off hC (by decide)
  have op := h.rp.off hC (by decide)
  have hCW : C < W.heap.size := hC.lt
  have keep : ∀ b, b < W.heap.size → b ≠ C → k.ownBlock ≠ some b → (W'.setCell ⟨C, 2, none⟩ v').heap[b]? = W.heap[b]? := fun b hb h1 h2 =>
    (Below.heap_setCell _ _ _ _ (fun e => h1 (by simpa using e))).trans (hg.block b hb (fun e => h2 e.symm))
  have hsz : W.heap.size ≤ (W'.setCell ⟨C, 2, none⟩ v').heap.size := by rw [World.size_setCell]; exact hg.size
  have f : Fr (Off n C i k a p) (Off n C i v' a p) W (W'.setCell ⟨C, 2, none⟩ v') := ⟨hsz, fun b hb hl => ⟨keep b hl.lt hb.2.1 hb.2.2.2.1, ?_⟩⟩
  rotate_left
  · exact ⟨hb.1, hb.2.1, hb.2.2.1, fun e => (hat b e).elim hb.2.2.2.1 (fun h => by have := hl.lt; omega), hb.2.2.2.2.1, hb.2.2.2.2.2⟩
  have hvC : v'.ownBlock ≠ some C := fun e => (hat C e).elim ok (fun h => by omega)
  have hr' : (W'.setCell ⟨C, 2, none⟩ v').ownsRow n 9 1 v' _ _ := owns_same hr (fun g hg' => Below.heap_setCell _ _ _ _ (fun e => hvC (by simp at e; rw [← e]; exact hg')))
  exact ⟨blk_put ((show Blk W' C _ _ from (hg.block C hCW (fun e => ok e.symm)).trans hC)) 2 v', h.nC, h.ri.kept strT_stays f (fun g hg' => keep g (h.ri.lt hg').2 (fun e => oi (by rw [← e]; exact hg')) (fun e => h.ik g hg' e)), und_push strT_stays h2 h3 h4 rfl rfl f hr', h.ra.kept atT_stays f (fun g hg' => keep g (h.ra.lt hg').2 (fun e => oa (by rw [← e]; exact hg')) (h.ra.ne (by decide) h.rk hg')), h.rp.kept (psT_stays d) f (fun g hg' => keep g (h.rp.lt hg').2 (fun e => op (by rw [← e]; exact hg')) (h.rp.ne (by decide) h.rk hg')), fun g e e2 => (hat g e2).elim (fun e2 => h.ik g e e2) (fun hh => by have := (h.ri.lt e).2; omega)⟩
/-- A thing more in the row a: appended, and stored. -/
theorem CUx.addAttr {d n : Nat} {W W' : World} {C : Nat} {c : Cp} {i k a p : Value} (h : CUx d n W C c i k a p) {css : List (List Value)} (h2 : css.length = c.attrs.length) (h3 : ∀ c ∈ css, c.length = 3) (h4 : ∀ (j : Nat) (q : List Value) (x : At), css[j]? = some q → c.attrs[j]? = some x → AtT (Off n C i k a p) W q x) {v' : Value} {x : At}
    (hr : W'.ownsRow n 87 3 v' (c.attrs.length + 1) (css.flatten ++ atCells x)) (hg : W.grownBy W' a.ownBlock) (hat : ∀ g, v'.ownBlock = some g → a.ownBlock = some g ∨ W.heap.size ≤ g) : CUx d n (W'.setCell ⟨C, 3, none⟩ v') C (c.addAttr x) i k v' p := by
  obtain ⟨t, ids, cls, ats, pss⟩ := c
  have hC := h.blk
  have oi := h.ri.off hC (by decide)
  have ok := h.rk.off hC (by decide)
  have oa := h.ra.off hC (by decide)
  have op := h.rp.off hC (by decide)
  have hCW : C < W.heap.size := hC.lt
  have keep : ∀ b, b < W.heap.size → b ≠ C → a.ownBlock ≠ some b → (W'.setCell ⟨C, 3, none⟩ v').heap[b]? = W.heap[b]? := fun b hb h1 h2 =>
    (Below.heap_setCell _ _ _ _ (fun e => h1 (by simpa using e))).trans (hg.block b hb (fun e => h2 e.symm))
  have hsz : W.heap.size ≤ (W'.setCell ⟨C, 3, none⟩ v').heap.size := by rw [World.size_setCell]; exact hg.size
  have f : Fr (Off n C i k a p) (Off n C i k v' p) W (W'.setCell ⟨C, 3, none⟩ v') := ⟨hsz, fun b hb hl => ⟨keep b hl.lt hb.2.1 hb.2.2.2.2.1, ?_⟩⟩
  rotate_left
  · exact ⟨hb.1, hb.2.1, hb.2.2.1, hb.2.2.2.1, fun e => (hat b e).elim hb.2.2.2.2.1 (fun h => by have := hl.lt; omega), hb.2.2.2.2.2⟩
  have hvC : v'.ownBlock ≠ some C := fun e => (hat C e).elim oa (fun h => by omega)
  have hr' : (W'.setCell ⟨C, 3, none⟩ v').ownsRow n 87 3 v' _ _ := owns_same hr (fun g hg' => Below.heap_setCell _ _ _ _ (fun e => hvC (by simp at e; rw [← e]; exact hg')))
  exact ⟨blk_put ((show Blk W' C _ _ from (hg.block C hCW (fun e => oa e.symm)).trans hC)) 3 v', h.nC, h.ri.kept strT_stays f (fun g hg' => keep g (h.ri.lt hg').2 (fun e => oi (by rw [← e]; exact hg')) (h.ri.ne (by decide) h.ra hg')), h.rk.kept strT_stays f (fun g hg' => keep g (h.rk.lt hg').2 (fun e => ok (by rw [← e]; exact hg')) (h.rk.ne (by decide) h.ra hg')), und_push atT_stays h2 h3 h4 rfl rfl f hr', h.rp.kept (psT_stays d) f (fun g hg' => keep g (h.rp.lt hg').2 (fun e => op (by rw [← e]; exact hg')) (h.rp.ne (by decide) h.ra hg')), h.ik⟩
/-- A thing more in the row p: appended, and stored. -/
theorem CUx.addPs {d n : Nat} {W W' : World} {C : Nat} {c : Cp} {i k a p : Value} (h : CUx d n W C c i k a p) {css : List (List Value)} (h2 : css.length = c.pss.length) (h3 : ∀ c ∈ css, c.length = 4) (h4 : ∀ (j : Nat) (q : List Value) (x : Ps), css[j]? = some q → c.pss[j]? = some x → (PsTd d) (Off n C i k a p) W q x) {v' : Value} {x : Ps} {y : Value} {m : Nat} (hx : SelsAt d (fun b => m ≤ b) W y x.list) (hmC : C < m) (hm : ∀ g, (i.ownBlock = some g ∨ k.ownBlock = some g ∨ a.ownBlock = some g ∨ p.ownBlock = some g) → g < m)
    (hr : W'.ownsRow n 26 4 v' (c.pss.length + 1) (css.flatten ++ psCells x y)) (hg : W.grownBy W' p.ownBlock) (hat : ∀ g, v'.ownBlock = some g → p.ownBlock = some g ∨ W.heap.size ≤ g) : CUx d n (W'.setCell ⟨C, 4, none⟩ v') C (c.addPs x) i k a v' := by
  obtain ⟨t, ids, cls, ats, pss⟩ := c
  have hC := h.blk
  have oi := h.ri.off hC (by decide)
  have ok := h.rk.off hC (by decide)
  have oa := h.ra.off hC (by decide)
  have op := h.rp.off hC (by decide)
  have hCW : C < W.heap.size := hC.lt
  have keep : ∀ b, b < W.heap.size → b ≠ C → p.ownBlock ≠ some b → (W'.setCell ⟨C, 4, none⟩ v').heap[b]? = W.heap[b]? := fun b hb h1 h2 =>
    (Below.heap_setCell _ _ _ _ (fun e => h1 (by simpa using e))).trans (hg.block b hb (fun e => h2 e.symm))
  have hsz : W.heap.size ≤ (W'.setCell ⟨C, 4, none⟩ v').heap.size := by rw [World.size_setCell]; exact hg.size
  have f : Fr (Off n C i k a p) (Off n C i k a v') W (W'.setCell ⟨C, 4, none⟩ v') := ⟨hsz, fun b hb hl => ⟨keep b hl.lt hb.2.1 hb.2.2.2.2.2, ?_⟩⟩
  rotate_left
  · exact ⟨hb.1, hb.2.1, hb.2.2.1, hb.2.2.2.1, hb.2.2.2.2.1, fun e => (hat b e).elim hb.2.2.2.2.2 (fun h => by have := hl.lt; omega)⟩
  have hvC : v'.ownBlock ≠ some C := fun e => (hat C e).elim op (fun h => by omega)
  have hr' : (W'.setCell ⟨C, 4, none⟩ v').ownsRow n 26 4 v' _ _ := owns_same hr (fun g hg' => Below.heap_setCell _ _ _ _ (fun e => hvC (by simp at e; rw [← e]; exact hg')))
  exact ⟨blk_put ((show Blk W' C _ _ from (hg.block C hCW (fun e => op e.symm)).trans hC)) 4 v', h.nC, h.ri.kept strT_stays f (fun g hg' => keep g (h.ri.lt hg').2 (fun e => oi (by rw [← e]; exact hg')) (h.ri.ne (by decide) h.rp hg')), h.rk.kept strT_stays f (fun g hg' => keep g (h.rk.lt hg').2 (fun e => ok (by rw [← e]; exact hg')) (h.rk.ne (by decide) h.rp hg')), h.ra.kept atT_stays f (fun g hg' => keep g (h.ra.lt hg').2 (fun e => oa (by rw [← e]; exact hg')) (h.ra.ne (by decide) h.rp hg')), und_push (psT_stays d) h2 h3 h4 rfl ⟨y, rfl, SelsAt.fr d hx ⟨hsz, fun b hb hl => ⟨keep b hl.lt (by omega) (fun e => by have := hm b (.inr (.inr (.inr e))); omega), by have := h.nC; omega, by omega, fun e => by have := hm b (.inl e); omega, fun e => by have := hm b (.inr (.inl e)); omega, fun e => by have := hm b (.inr (.inr (.inl e))); omega, fun e => (hat b e).elim (fun e => by have := hm b (.inr (.inr (.inr e))); omega) (fun h => by have := hl.lt; omega)⟩⟩⟩ f hr', h.ik⟩

/-- The compound is done. -/
theorem CUx.done {d n : Nat} {W : World} {C : Nat} {c : Cp} {i k a p : Value} (h : CUx d n W C c i k a p) : CpT (SelsAt d (fun b => n ≤ b) W) (fun b => n ≤ b) W [.string c.tag, i, k, a, p] c :=
  ⟨i, k, a, p, rfl, h.ri.done (by decide) strT_stays (fun _ hb => hb.1) (fun _ hg => (h.ri.lt hg).1), h.rk.done (by decide) strT_stays (fun _ hb => hb.1) (fun _ hg => (h.rk.lt hg).1), h.ra.done (by decide) atT_stays (fun _ hb => hb.1) (fun _ hg => (h.ra.lt hg).1), h.rp.done (by decide) (psT_stays d) (fun _ hb => hb.1) (fun _ hg => (h.rp.lt hg).1)⟩
/-- A block that is neither below n nor of a row's type. -/
def PlainB (n : Nat) (W : World) (b : Nat) : Prop := b < n ∨ ∃ o, W.heap[b]? = some o ∧ ∀ c f, o ≠ .cells c 9 f ∧ o ≠ .cells c 87 f ∧ o ≠ .cells c 26 f
theorem CUx.plain {d n : Nat} {W : World} {C : Nat} {c : Cp} {i k a p : Value} (h : CUx d n W C c i k a p) {b : Nat} (hb : PlainB n W b) : i.ownBlock ≠ some b ∧ k.ownBlock ≠ some b ∧ a.ownBlock ≠ some b ∧ p.ownBlock ≠ some b := by
  rcases hb with hb | ⟨o, ho, hn⟩
  · exact ⟨fun e => by have := (h.ri.lt e).1; omega, fun e => by have := (h.rk.lt e).1; omega, fun e => by have := (h.ra.lt e).1; omega, fun e => by have := (h.rp.lt e).1; omega⟩
  · exact ⟨owns_apart h.ri.choose_spec.1 ho (fun c f => (hn c f).1), owns_apart h.rk.choose_spec.1 ho (fun c f => (hn c f).1), owns_apart h.ra.choose_spec.1 ho (fun c f => (hn c f).2.1), owns_apart h.rp.choose_spec.1 ho (fun c f => (hn c f).2.2)⟩

end Go.Proofs.YtkhgmobependiaaDoor.Sl
