/- Rows that a law writes into: their shape stays. -/
import Derived.Test.YtopmahiapejkgaaDmGa
import Derived.Test.YtopmahiapejkgaaDmRefN
import Derived.Test.YtopmahiapejkgaaDmGb
namespace Go.Proofs.Ytopmahiapejkgaa.Dm
open Go Go.RowKit

/-- A row whose cells may be written, in a block from b on and below B. -/
def Shp (b B : Nat) (e : TypeId) (sz : Nat) (W : World) (v : Value) (n : Nat) : Prop :=
  ∃ p c, v = .slice p n c ∧ n ≤ c ∧ c ≤ maxLen ∧ (0 < n → ∃ g cur, p = some ⟨g, 0, none⟩ ∧ b ≤ g ∧ g < B ∧ W.heap[g]? = some (.cells cur e (0, 0)) ∧ n * sz ≤ cur.size)
theorem Shp.of_owns {b B : Nat} {e : TypeId} {sz : Nat} {W : World} {v : Value} {n : Nat} {xs : List Value} (h : W.ownsRow b e sz v n xs) (hB : W.heap.size ≤ B) : Shp b B e sz W v n := by
  have hlt := fun g hg => owns_lt h (g := g) hg
  rcases h.2 with ⟨rfl, rfl⟩ | ⟨g, cap, cur, rfl, hg, hb, h1, h2, h3, h4⟩
  · exact ⟨none, 0, rfl, Nat.le_refl _, Nat.zero_le _, fun h => absurd h (Nat.lt_irrefl _)⟩
  · have hgl := (Array.getElem?_eq_some_iff.1 hb).1
    exact ⟨_, cap, rfl, h1, h2, fun _ => ⟨g, cur, rfl, hg, Nat.lt_of_lt_of_le hgl hB, hb, by rw [h3]; exact Nat.mul_le_mul_right sz h1⟩⟩
theorem setCell_at (W : World) (B i : Nat) (u : Value) {g : Nat} {cur : Array Value} {e : TypeId} (h : W.heap[g]? = some (.cells cur e (0, 0))) : ∃ cur' : Array Value, (W.setCell ⟨B, i, none⟩ u).heap[g]? = some (.cells cur' e (0, 0)) ∧ cur'.size = cur.size := by
  by_cases hg : g = B
  · subst hg
    have hk : Blk W g e cur.toList := by unfold Blk; exact h
    have := blk_put hk i u
    exact ⟨_, this, by simp⟩
  · exact ⟨cur, by rw [(grown_set W B i u).block g (Array.getElem?_eq_some_iff.1 h).1 (fun e => hg (Option.some.inj e))]; exact h, rfl⟩
theorem Shp.set {b B : Nat} {e : TypeId} {sz : Nat} {W : World} {v : Value} {n : Nat} (h : Shp b B e sz W v n) (A i : Nat) (u : Value) : Shp b B e sz (W.setCell ⟨A, i, none⟩ u) v n := by
  obtain ⟨p, c, rfl, h1, h2, h3⟩ := h
  refine ⟨p, c, rfl, h1, h2, fun hn => ?_⟩
  obtain ⟨g, cur, rfl, g1, g2, g3, g4⟩ := h3 hn
  obtain ⟨cur', k1, k2⟩ := setCell_at W A i u g3
  exact ⟨g, cur', rfl, g1, g2, k1, by rw [k2]; exact g4⟩
theorem Shp.next {b B : Nat} {e : TypeId} {sz : Nat} {W X : World} {v : Value} {n : Nat} (h : Shp b B e sz W v n) (hb : Below W.heap.size W X) : Shp b B e sz X v n := by
  obtain ⟨p, c, rfl, h1, h2, h3⟩ := h
  refine ⟨p, c, rfl, h1, h2, fun hn => ?_⟩
  obtain ⟨g, cur, rfl, g1, g2, g3, g4⟩ := h3 hn
  exact ⟨g, cur, rfl, g1, g2, (hb.block g (Array.getElem?_eq_some_iff.1 g3).1).trans g3, g4⟩
/-- Its cell j: where it lies, that it is there and may be written. -/
theorem Shp.get {b B : Nat} {e : TypeId} {sz : Nat} {W : World} {p : Option Addr} {m c n : Nat} (h : Shp b B e sz W (.slice p m c) n) (hn : 0 < n) :
    m = n ∧ n ≤ c ∧ c ≤ maxLen ∧ ∃ g, p = some ⟨g, 0, none⟩ ∧ b ≤ g ∧ g < B ∧ (∃ cur, W.heap[g]? = some (.cells cur e (0, 0))) ∧ ∀ j, j < n * sz → (∃ u, W.cell? ⟨g, j, none⟩ = some u) ∧ W.frozen? ⟨g, j, none⟩ = false := by
  obtain ⟨q, c', e1, h1, h2, h3⟩ := h
  cases e1
  obtain ⟨g, cur, rfl, g1, g2, g3, g4⟩ := h3 hn
  refine ⟨rfl, h1, h2, g, rfl, g1, g2, ⟨cur, g3⟩, fun j hj => ⟨⟨cur[j]'(by omega), by rw [cell_of_block g3]; exact Array.getElem?_eq_getElem (by omega)⟩, ?_⟩⟩
  simp [World.frozen?, g3]
theorem Shp.form {b B : Nat} {e : TypeId} {sz : Nat} {W : World} {v : Value} {n : Nat} (h : Shp b B e sz W v n) : ∃ p c, v = .slice p n c := by
  obtain ⟨p, c, rfl, _⟩ := h
  exact ⟨p, c, rfl⟩
/-- The law's own nodes, whose cells are written: where their lists stand stays. -/
structure OwnS (b B : Nat) (W : World) (g c : Nat) (l : List Nv) : Prop where
  row : Shp b B 31 5 W (.slice (some ⟨g, 0, none⟩) l.length c) l.length
  hd : ∀ (i : Nat) (x : Nv), l[i]? = some x → W.cell? ⟨g, i * 5 + 3, none⟩ = some x.cv ∧ W.cell? ⟨g, i * 5 + 4, none⟩ = some x.av ∧ Shp b B 9 1 W x.cv x.nd.cls.length ∧ Shp b B 40 2 W x.av x.nd.ats.length
theorem cell_other {W : World} {B k g j : Nat} (u : Value) (h : g ≠ B ∨ j ≠ k) : (W.setCell ⟨B, k, none⟩ u).cell? ⟨g, j, none⟩ = W.cell? ⟨g, j, none⟩ :=
  World.cell?_setCell_other _ _ _ _ (fun e => by
    simp only [Addr.mk.injEq] at e
    rcases h with h | h
    · exact h (by omega)
    · exact h (by omega))
theorem OwnS.setRow {b B : Nat} {W : World} {g c : Nat} {l : List Nv} (h : OwnS b B W g c l) (i f : Nat) (hf : f < 3) (u : Value) : OwnS b B (W.setCell ⟨g, i * 5 + f, none⟩ u) g c l :=
  ⟨h.row.set _ _ _, fun j x hx => by
    obtain ⟨h1, h2, h3, h4⟩ := h.hd j x hx
    exact ⟨(cell_other u (.inr (by omega))).trans h1, (cell_other u (.inr (by omega))).trans h2, h3.set _ _ _, h4.set _ _ _⟩⟩
theorem OwnS.setOther {b B : Nat} {W : World} {g c : Nat} {l : List Nv} (h : OwnS b B W g c l) (A k : Nat) (hA : g ≠ A) (u : Value) : OwnS b B (W.setCell ⟨A, k, none⟩ u) g c l :=
  ⟨h.row.set _ _ _, fun j x hx => by
    obtain ⟨h1, h2, h3, h4⟩ := h.hd j x hx
    exact ⟨(cell_other u (.inl hA)).trans h1, (cell_other u (.inl hA)).trans h2, h3.set _ _ _, h4.set _ _ _⟩⟩
/-- Two rows of unlike types lie apart. -/
theorem type_apart {W : World} {g A : Nat} {t t' : TypeId} (hne : t ≠ t') (h : ∃ cur, W.heap[g]? = some (.cells cur t (0, 0))) (h' : ∃ cur, W.heap[A]? = some (.cells cur t' (0, 0))) : g ≠ A := fun e => by
  obtain ⟨c1, h1⟩ := h
  obtain ⟨c2, h2⟩ := h'
  subst e
  rw [h1] at h2
  simp only [Option.some.injEq, Obj.cells.injEq] at h2
  exact hne h2.2.1
/-- What the writes leave: all blocks but those from b on and below B. -/
def Keeps (b B : Nat) (W X : World) : Prop := Kept (fun k => ¬ (b ≤ k ∧ k < B)) W X
theorem Keeps.set {b B : Nat} {W X : World} (h : Keeps b B W X) (A k : Nat) (u : Value) (h1 : b ≤ A) (h2 : A < B) : Keeps b B W (X.setCell ⟨A, k, none⟩ u) :=
  Kept.trans h (Kept.of_grown (grown_set X A k u) (fun r e => by cases e; exact fun hn => hn ⟨h1, h2⟩))

/-! ### the nodes that the law makes -/
structure OwnN (b : Nat) (W : World) (v : Value) (l : List Nv) : Prop where
  row : W.ownsRow b 31 5 v l.length (l.flatMap nvCells)
  cls : ∀ n ∈ l, StrRow b W n.cv n.nd.cls
  ats : ∀ n ∈ l, PairRow b W n.av n.nd.ats
theorem OwnN.next {b : Nat} {W X : World} {v : Value} {l : List Nv} (h : OwnN b W v l) (hb : Below W.heap.size W X) : OwnN b X v l := ⟨owns_next h.row hb, fun n hn => (h.cls n hn).next hb, fun n hn => (h.ats n hn).next hb⟩
theorem OwnN.push {b : Nat} {W X Y : World} {v v' : Value} {l : List Nv} {n : Nv} (h : OwnN b W v l) (hX : Below W.heap.size W X) (hbW : b ≤ W.heap.size) (hc : StrRow W.heap.size X n.cv n.nd.cls) (ha : PairRow W.heap.size X n.av n.nd.ats)
    (hr : Y.ownsRow b 31 5 v' (l.length + 1) (l.flatMap nvCells ++ nvCells n)) (hg : X.grownBy Y v.ownBlock) : OwnN b Y v' (l ++ [n]) := by
  have hA := h.next hX
  have both : ∀ {e : TypeId} {s : Nat} {u : Value} {m : Nat} {xs : List Value}, e ≠ 31 → X.ownsRow b e s u m xs → Y.ownsRow b e s u m xs := fun he hx => hx.kept hg (rows_apart he hx hA.row)
  refine ⟨?_, fun m hm => ?_, fun m hm => ?_⟩
  · rw [List.length_append, List.length_singleton, List.flatMap_append]
    simp only [List.flatMap_cons, List.flatMap_nil, List.append_nil]
    exact hr
  · rcases List.mem_append.1 hm with hm | hm
    · exact both (by decide) (hA.cls m hm)
    · obtain rfl := List.mem_singleton.1 hm
      exact both (by decide) (owns_base hc hbW)
  · rcases List.mem_append.1 hm with hm | hm
    · exact both (by decide) (hA.ats m hm)
    · obtain rfl := List.mem_singleton.1 hm
      exact both (by decide) (owns_base ha hbW)
theorem OwnN.nodes {b : Nat} {W : World} {v : Value} {l : List Nv} (h : OwnN b W v l) : NodesAt W.heap.size W v l :=
  ⟨SlAt.of_owns (sz := 5) (f := nvCells) (fun _ => rfl) h.row, fun n hn => (h.cls n hn).at, fun n hn => (h.ats n hn).at⟩
/-- They may be written from now on. -/
theorem OwnN.shape {b : Nat} {W X : World} {v : Value} {l : List Nv} (h : OwnN b W v l) (hb : Below W.heap.size W X) (hl : 0 < l.length) : ∃ g c, v = .slice (some ⟨g, 0, none⟩) l.length c ∧ OwnS b W.heap.size X g c l := by
  have hs := (Shp.of_owns h.row (Nat.le_refl _)).next hb
  obtain ⟨p, c, rfl⟩ := hs.form
  obtain ⟨_, _, _, g, rfl, _⟩ := hs.get hl
  refine ⟨g, c, rfl, hs, fun i x hx => ?_⟩
  obtain ⟨bk, off, e, hbk, _, _, hc⟩ := h.nodes.row.get hx
  cases e
  have c3 := hc 3 _ rfl
  have c4 := hc 4 _ rfl
  rw [Nat.zero_add] at c3 c4
  have hm := List.mem_of_getElem? hx
  exact ⟨(hb.cell (p := ⟨g, _, none⟩) hbk).trans c3, (hb.cell (p := ⟨g, _, none⟩) hbk).trans c4, (Shp.of_owns (h.cls x hm) (Nat.le_refl _)).next hb, (Shp.of_owns (h.ats x hm) (Nat.le_refl _)).next hb⟩

/-! ### what the law holds while it writes -/
/-- The tree, the node and the order that it told: all in blocks from B on. -/
structure KpR (w : World) (B tb g cap : Nat) (qs : List Em) (P : Nat) (n : Nd) (cv av va : Value) (L : List Nat) (W : World) : Prop where
  tr : Tr B W tb g cap qs
  blk : Blk W P 31 [.int .i64 n.parent, .string n.tag, .string n.id, cv, av]
  at' : B ≤ P
  cls : StrRow B W cv n.cls
  ats : PairRow B W av n.ats
  all : IntRow B W va (chI L)
  low : Below w.heap.size w W
theorem KpR.keeps {w : World} {b B tb g cap : Nat} {qs : List Em} {P : Nat} {n : Nd} {cv av va : Value} {L : List Nat} {W X : World} (h : KpR w B tb g cap qs P n cv av va L W) (hk : Keeps b B W X) (hb : w.heap.size ≤ b) : KpR w B tb g cap qs P n cv av va L X := by
  have same : ∀ {e : TypeId} {s : Nat} {v : Value} {n : Nat} {xs : List Value}, W.ownsRow B e s v n xs → X.ownsRow B e s v n xs := fun hr => owns_same hr (fun g hg => hk.block g (owns_lt hr hg).2 (fun hn => by have := (owns_lt hr hg).1; omega))
  exact ⟨h.tr.kept hk (fun k h1 _ hn => by omega), hk.blk h.blk (fun hn => by have := h.at'; omega), h.at', same h.cls, same h.ats, same h.all, h.low.trans (Kept.below hk h.low.size (fun k hlt hn => by omega))⟩
theorem KpR.next {w : World} {B tb g cap : Nat} {qs : List Em} {P : Nat} {n : Nd} {cv av va : Value} {L : List Nat} {W X : World} (h : KpR w B tb g cap qs P n cv av va L W) (hb : Below W.heap.size W X) : KpR w B tb g cap qs P n cv av va L X :=
  ⟨h.tr.next hb, h.blk.next hb, h.at', h.cls.next hb, h.ats.next hb, h.all.next hb, below_next h.low hb⟩

end Go.Proofs.Ytopmahiapejkgaa.Dm
