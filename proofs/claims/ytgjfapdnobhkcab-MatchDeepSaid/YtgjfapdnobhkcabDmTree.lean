/- A tree of package dom in memory. -/
import Derived.Test.YtgjfapdnobhkcabDmMem
namespace Go.Proofs.Ytgjfapdnobhkcab.Dm
open Go Go.RowKit

/-- An element in memory: the values of its three slices. -/
structure Em where
  e : El
  cv : Value
  av : Value
  hv : Value
def emCells (q : Em) : List Value := [.int .i64 q.e.nd.parent, .string q.e.nd.tag, .string q.e.nd.id, q.cv, q.av, .int .i64 q.e.depth, .int .i64 q.e.place, q.hv]
theorem emCells_len (q : Em) : (emCells q).length = 8 := rfl
def chI (l : List Nat) : List Int := l.map (fun k : Nat => (k : Int))
theorem chI_len (l : List Nat) : (chI l).length = l.length := by simp [chI]
/-- Block tb is a Tree with the elements qs, all in blocks from b on; its row lies in block g and has room for cap. -/
structure Tr (b : Nat) (W : World) (tb g cap : Nat) (qs : List Em) : Prop where
  blk : Blk W tb 70 [.slice (some ⟨g, 0, none⟩) qs.length cap]
  low : b ≤ tb
  row : W.ownsRow b 87 8 (.slice (some ⟨g, 0, none⟩) qs.length cap) qs.length (qs.flatMap emCells)
  cls : ∀ (j : Nat) (q : Em), qs[j]? = some q → StrRow b W q.cv q.e.nd.cls
  ats : ∀ (j : Nat) (q : Em), qs[j]? = some q → PairRow b W q.av q.e.nd.ats
  chs : ∀ (j : Nat) (q : Em), qs[j]? = some q → IntRow b W q.hv (chI q.e.ch)
  apart : ∀ (i j : Nat) (q r : Em), i ≠ j → qs[i]? = some q → qs[j]? = some r → q.hv.ownBlock = none ∨ q.hv.ownBlock ≠ r.hv.ownBlock

theorem Tr.kept {keep : Nat → Prop} {b : Nat} {W W' : World} {tb g cap : Nat} {qs : List Em} (h : Tr b W tb g cap qs) (hk : Kept keep W W') (hb : ∀ k, b ≤ k → k < W.heap.size → keep k) : Tr b W' tb g cap qs := by
  have same : ∀ {e : TypeId} {s : Nat} {v : Value} {n : Nat} {xs : List Value}, W.ownsRow b e s v n xs → W'.ownsRow b e s v n xs := fun hr => owns_same hr (fun g hg => hk.block g (owns_lt hr hg).2 (hb g (owns_lt hr hg).1 (owns_lt hr hg).2))
  exact ⟨hk.blk h.blk (hb _ h.low h.blk.lt), h.low, same h.row, fun j q hq => same (h.cls j q hq), fun j q hq => same (h.ats j q hq), fun j q hq => same (h.chs j q hq), h.apart⟩
theorem Tr.next {b : Nat} {W W' : World} {tb g cap : Nat} {qs : List Em} (h : Tr b W tb g cap qs) (hb : Below W.heap.size W W') : Tr b W' tb g cap qs := h.kept (keep := fun _ => True) (.of_below hb) (fun _ _ _ => trivial)
theorem Tr.drewN {b : Nat} {W : World} {tb g cap : Nat} {qs : List Em} (h : Tr b W tb g cap qs) (n : Nat) : Tr b (W.drewN n) tb g cap qs := h.next (below_drewN W n)
theorem Tr.room {b : Nat} {W : World} {tb g cap : Nat} {qs : List Em} (h : Tr b W tb g cap qs) : qs.length ≤ cap ∧ cap ≤ maxLen := by
  rcases h.row.2 with ⟨h0, _⟩ | ⟨g', c', cur, h0, _, _, h1, h2, _⟩
  · cases h0
  · cases h0
    exact ⟨h1, h2⟩
theorem Tr.glt {b : Nat} {W : World} {tb g cap : Nat} {qs : List Em} (h : Tr b W tb g cap qs) : b ≤ g ∧ g < W.heap.size := owns_lt h.row rfl
/-- One element's cells. -/
theorem Tr.get {b : Nat} {W : World} {tb g cap : Nat} {qs : List Em} (h : Tr b W tb g cap qs) {j : Nat} {q : Em} (hq : qs[j]? = some q) : ∀ i u, (emCells q)[i]? = some u → W.cell? ⟨g, j * 8 + i, none⟩ = some u := fun i u hu => by
  have hj : j < qs.length := (List.getElem?_eq_some_iff.1 hq).1
  have hi : i < 8 := (List.getElem?_eq_some_iff.1 hu).1
  rw [h.row.cellAt _ (by omega), flat_at emCells_len qs j q hq i hi]
  exact hu
theorem Tr.get8 {b : Nat} {W : World} {tb g cap : Nat} {qs : List Em} (h : Tr b W tb g cap qs) {j : Nat} {q : Em} (hq : qs[j]? = some q) :
    W.cell? ⟨g, j * 8, none⟩ = some (.int .i64 q.e.nd.parent) ∧ W.cell? ⟨g, j * 8 + 1, none⟩ = some (.string q.e.nd.tag) ∧ W.cell? ⟨g, j * 8 + 2, none⟩ = some (.string q.e.nd.id) ∧ W.cell? ⟨g, j * 8 + 3, none⟩ = some q.cv ∧ W.cell? ⟨g, j * 8 + 4, none⟩ = some q.av ∧ W.cell? ⟨g, j * 8 + 5, none⟩ = some (.int .i64 q.e.depth) ∧ W.cell? ⟨g, j * 8 + 6, none⟩ = some (.int .i64 q.e.place) ∧ W.cell? ⟨g, j * 8 + 7, none⟩ = some q.hv :=
  ⟨h.get hq 0 _ rfl, h.get hq 1 _ rfl, h.get hq 2 _ rfl, h.get hq 3 _ rfl, h.get hq 4 _ rfl, h.get hq 5 _ rfl, h.get hq 6 _ rfl, h.get hq 7 _ rfl⟩
theorem set_at {α : Type} {l : List α} {p j : Nat} {x y : α} (h : (l.set p x)[j]? = some y) : (j = p ∧ y = x) ∨ (j ≠ p ∧ l[j]? = some y) := by
  rw [List.getElem?_set] at h
  by_cases e : p = j
  · rw [if_pos e] at h
    split at h
    · exact .inl ⟨e.symm, by simpa using h.symm⟩
    · cases h
  · rw [if_neg e] at h
    exact .inr ⟨fun h' => e h'.symm, h⟩
/-- Behind an append to an element's children, and the store. -/
theorem Tr.grow {b : Nat} {W w2 : World} {tb g cap p : Nat} {qs : List Em} {q : Em} {o : Obj} {v' : Value} {c : Nat} (h : Tr b W tb g cap qs) (hq : qs[p]? = some q)
    (hr : w2.ownsRow b 3 1 v' (q.e.ch.length + 1) ((chI q.e.ch).map (Value.int .i64) ++ [.int .i64 (c : Int)])) (hg : (W.alloc o).grownBy w2 q.hv.ownBlock) (hloc : v'.ownBlock = q.hv.ownBlock ∨ v'.ownBlock = some (W.alloc o).heap.size) :
    Tr b (w2.setCell ⟨g, p * 8 + 7, none⟩ v') tb g cap (qs.set p { q with e := { q.e with ch := q.e.ch ++ [c] }, hv := v' }) := by
  have hp : p < qs.length := (List.getElem?_eq_some_iff.1 hq).1
  have hA := h.next ((Below.refl _ W).alloc (Nat.le_refl _) o)
  have hI := hA.chs p q hq
  have row2 := hA.row.kept hg (rows_apart (e := 87) (e' := 3) (by decide) hA.row hI)
  have blk2 := hA.blk.kept hg (fun e => row_blk (e := 3) (t := 70) (by decide) hI hA.blk e.symm)
  have gs := grown_set w2 g (p * 8 + 7) v'
  have st := row2.stored (p * 8 + 7) v'
  have hne : ∀ {e : TypeId} {s : Nat} {v : Value} {n : Nat} {xs : List Value}, e ≠ 87 → w2.ownsRow b e s v n xs → (w2.setCell ⟨g, p * 8 + 7, none⟩ v').ownsRow b e s v n xs := fun he hx => hx.kept gs (by
    rcases rows_apart he hx row2 with h1 | h1
    · exact .inl h1
    · exact .inr h1)
  have other : ∀ {e : TypeId} {s : Nat} {v : Value} {n : Nat} {xs : List Value}, e ≠ 87 → e ≠ 3 → (W.alloc o).ownsRow b e s v n xs → (w2.setCell ⟨g, p * 8 + 7, none⟩ v').ownsRow b e s v n xs := fun he he' hx => hne he (hx.kept hg (rows_apart he' hx hI))
  have hlen : (qs.set p { q with e := { q.e with ch := q.e.ch ++ [c] }, hv := v' }).length = qs.length := List.length_set
  refine ⟨?_, h.low, ?_, fun j r hj => ?_, fun j r hj => ?_, fun j r hj => ?_, fun i j r s hij hi hj => ?_⟩
  · rw [hlen]
    exact blk2.kept gs (fun e => row_blk (e := 87) (t := 70) (by decide) row2 blk2 e.symm)
  · rw [hlen, ← flat_set emCells_len qs p q _ 7 v' hq (by decide) (by simp [emCells])]
    exact st.1
  · rcases set_at hj with ⟨rfl, rfl⟩ | ⟨_, hj⟩
    · exact other (by decide) (by decide) (hA.cls _ q hq)
    · exact other (by decide) (by decide) (hA.cls j r hj)
  · rcases set_at hj with ⟨rfl, rfl⟩ | ⟨_, hj⟩
    · exact other (by decide) (by decide) (hA.ats _ q hq)
    · exact other (by decide) (by decide) (hA.ats j r hj)
  · rcases set_at hj with ⟨rfl, rfl⟩ | ⟨hjp, hj⟩
    · refine hne (by decide) ?_
      have e1 : chI (q.e.ch ++ [c]) = chI q.e.ch ++ [(c : Int)] := by simp [chI]
      rw [e1, List.length_append, chI_len, List.map_append]
      exact hr
    · exact hne (by decide) ((hA.chs j r hj).kept hg (h.apart j p r q hjp hj hq))
  · have hnew : ∀ (k : Nat) (t : Em), qs[k]? = some t → k ≠ p → (t.hv.ownBlock = none ∨ t.hv.ownBlock ≠ v'.ownBlock) ∧ (v'.ownBlock = none ∨ v'.ownBlock ≠ t.hv.ownBlock) := fun k t hk hkp => by
      rcases hloc with e | e
      · rw [e]
        exact ⟨h.apart k p t q hkp hk hq, h.apart p k q t (fun e => hkp e.symm) hq hk⟩
      · have hlt : ∀ x, t.hv.ownBlock = some x → x < W.heap.size := fun x hx => (owns_lt (h.chs k t hk) hx).2
        have hs : (W.alloc o).heap.size = W.heap.size + 1 := World.size_alloc _ _
        refine ⟨.inr (fun e2 => ?_), .inr (fun e2 => ?_)⟩
        · have := hlt _ (e2.trans e)
          omega
        · have := hlt _ (e2.symm.trans e)
          omega
    rcases set_at hi with ⟨hip, hr'⟩ | ⟨hip, hi'⟩
    · rcases set_at hj with ⟨hjp, hs'⟩ | ⟨hjp, hj'⟩
      · exact absurd (hip.trans hjp.symm) hij
      · rw [hr']
        exact (hnew j s hj' hjp).2
    · rcases set_at hj with ⟨hjp, hs'⟩ | ⟨hjp, hj'⟩
      · rw [hs']
        exact (hnew i r hi' hip).1
      · exact h.apart i j r s hij hi' hj'
/-- Behind an append of an element that has no child, where there is room, and the store into the tree's own cell. -/
theorem Tr.push {b : Nat} {W X w2 : World} {tb g cap : Nat} {qs : List Em} {q : Em} (h : Tr b W tb g cap qs) (hX : Below W.heap.size W X) (hq0 : q.hv = .slice none 0 0) (hq1 : q.e.ch = [])
    (hc : StrRow W.heap.size X q.cv q.e.nd.cls) (ha : PairRow W.heap.size X q.av q.e.nd.ats)
    (hr : w2.ownsRow b 87 8 (.slice (some ⟨g, 0, none⟩) (qs.length + 1) cap) (qs.length + 1) (qs.flatMap emCells ++ emCells q)) (hg : X.grownBy w2 (some g)) :
    Tr b (w2.setCell ⟨tb, 0, none⟩ (.slice (some ⟨g, 0, none⟩) (qs.length + 1) cap)) tb g cap (qs ++ [q]) := by
  have hA := h.next hX
  have hb : b ≤ W.heap.size := Nat.le_trans h.low (Nat.le_of_lt h.blk.lt)
  have gs := grown_set w2 tb 0 (.slice (some ⟨g, 0, none⟩) (qs.length + 1) cap)
  have blk2 := hA.blk.kept hg (fun e => by
    have := row_blk (e := 87) (t := 70) (by decide) hA.row hA.blk
    exact this (by simpa [Value.ownBlock] using e.symm))
  have both : ∀ {e : TypeId} {s : Nat} {v : Value} {n : Nat} {xs : List Value}, e ≠ 87 → e ≠ 70 → X.ownsRow b e s v n xs → (w2.setCell ⟨tb, 0, none⟩ (.slice (some ⟨g, 0, none⟩) (qs.length + 1) cap)).ownsRow b e s v n xs := fun he he' hx => by
    have h1 := hx.kept hg (rows_apart he hx hA.row)
    exact h1.kept gs (.inr (row_blk he' h1 blk2))
  have cases2 : ∀ {j : Nat} {r : Em}, (qs ++ [q])[j]? = some r → qs[j]? = some r ∨ (j = qs.length ∧ r = q) := fun {j r} hj => by
    by_cases hl : j < qs.length
    · rw [List.getElem?_append_left hl] at hj
      exact .inl hj
    · rw [List.getElem?_append_right (by omega)] at hj
      have : j - qs.length = 0 := by
        have := (List.getElem?_eq_some_iff.1 hj).1
        simp at this
        omega
      rw [this] at hj
      exact .inr ⟨by omega, by simpa using hj.symm⟩
  have hnone : q.hv.ownBlock = none := by rw [hq0]; rfl
  refine ⟨?_, h.low, ?_, fun j r hj => ?_, fun j r hj => ?_, fun j r hj => ?_, fun i j r s hij hi hj => ?_⟩
  · rw [List.length_append, List.length_singleton]
    exact blk_put blk2 0 _
  · rw [List.length_append, List.length_singleton, List.flatMap_append]
    simp only [List.flatMap_cons, List.flatMap_nil, List.append_nil]
    exact hr.kept gs (.inr (row_blk (e := 87) (t := 70) (by decide) hr blk2))
  · rcases cases2 hj with hj | ⟨_, rfl⟩
    · exact both (by decide) (by decide) (hA.cls j r hj)
    · exact both (by decide) (by decide) (owns_base hc hb)
  · rcases cases2 hj with hj | ⟨_, rfl⟩
    · exact both (by decide) (by decide) (hA.ats j r hj)
    · exact both (by decide) (by decide) (owns_base ha hb)
  · rcases cases2 hj with hj | ⟨_, rfl⟩
    · exact both (by decide) (by decide) (hA.chs j r hj)
    · rw [hq0, hq1]
      exact World.ownsRow_nil _ _ _ _
  · rcases cases2 hi with hi | ⟨_, rfl⟩
    · rcases cases2 hj with hj | ⟨_, rfl⟩
      · exact h.apart i j r s hij hi hj
      · rw [hnone]
        cases r.hv.ownBlock with
        | none => exact .inl rfl
        | some x => exact .inr (by simp)
    · exact .inl hnone
/-- Behind the append to an element's children the element's own cells are as they were. -/
theorem Tr.mid {b : Nat} {W w2 : World} {tb g cap p : Nat} {qs : List Em} {q : Em} {o : Obj} (h : Tr b W tb g cap qs) (hq : qs[p]? = some q) (hg : (W.alloc o).grownBy w2 q.hv.ownBlock) : w2.cell? ⟨g, p * 8 + 7, none⟩ = some q.hv ∧ w2.frozen? ⟨g, p * 8 + 7, none⟩ = false := by
  have hp : p < qs.length := (List.getElem?_eq_some_iff.1 hq).1
  have hA := h.next ((Below.refl _ W).alloc (Nat.le_refl _) o)
  have row2 := hA.row.kept hg (rows_apart (e := 87) (e' := 3) (by decide) hA.row (hA.chs p q hq))
  refine ⟨?_, row2.frozenAt _⟩
  rw [row2.cellAt _ (by omega), flat_at emCells_len qs p q hq 7 (by decide)]
  rfl
/-- A node that was there, behind the append to an element's children and the store. -/
theorem Tr.off {b : Nat} {W w2 : World} {tb g cap p B : Nat} {qs : List Em} {q : Em} {o : Obj} {v' : Value} {cs : List Value} (h : Tr b W tb g cap qs) (hq : qs[p]? = some q) (hg : (W.alloc o).grownBy w2 q.hv.ownBlock) (k : Blk W B 28 cs) : Blk (w2.setCell ⟨g, p * 8 + 7, none⟩ v') B 28 cs := by
  have hA := h.next ((Below.refl _ W).alloc (Nat.le_refl _) o)
  have kA := k.next ((Below.refl _ W).alloc (Nat.le_refl _) o)
  have row2 := hA.row.kept hg (rows_apart (e := 87) (e' := 3) (by decide) hA.row (hA.chs p q hq))
  have k2 := kA.kept hg (fun e => row_blk (e := 3) (t := 28) (by decide) (hA.chs p q hq) kA e.symm)
  exact k2.kept (grown_set w2 g (p * 8 + 7) v') (fun e => row_blk (e := 87) (t := 28) (by decide) row2 k2 e.symm)
theorem shape_of {w : World} {base : Nat} {e : TypeId} {size : Nat} {v : Value} {n : Nat} {xs : List Value} (h : w.ownsRow base e size v (n + 1) xs) : ∃ g cap, v = .slice (some ⟨g, 0, none⟩) (n + 1) cap := by
  rcases h.2 with ⟨_, h0⟩ | ⟨g, cap, cur, rfl, _⟩
  · cases h0
  · exact ⟨g, cap, rfl⟩
theorem infoEl : (Try.prog.info? 87).map (fun i => (i.zero, i.size, i.bytes)) = some (some (.agg #[.int .i64 0, .string ⟨#[]⟩, .string ⟨#[]⟩, .slice none 0 0, .slice none 0 0, .int .i64 0, .int .i64 0, .slice none 0 0]), 8, 128) := by kernel_rfl

end Go.Proofs.Ytgjfapdnobhkcab.Dm
