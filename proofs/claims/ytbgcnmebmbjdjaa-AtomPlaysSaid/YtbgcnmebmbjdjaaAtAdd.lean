/- A name more in a table of package atom: part (at a table that has none), add; Of. -/
import Derived.Test.YtbgcnmebmbjdjaaAtRead
namespace Go.Proofs.Ytbgcnmebmbjdjaa
open Go Go.RowKit Go.Shelf Go.Maps

theorem eqInMapNil (d : Nat) (w : World) (p : Option Nat) : (Op.equalIn (d + 1) 25 (.map p) (.map none)).run Try.prog w = .ok p.isNone w := by
  cases p <;> simp [Op.equalIn, run_underlying Try.underlying25]
theorem eqlMapNil (w : World) (p : Option Nat) : (binOp .eql 25 (.map p) (.map none)).run Try.prog w = .ok (.bool p.isNone) w := by
  simp only [binOp]
  simp [show Op.equal 25 (.map p) (.map none) = Op.equalIn (9999 + 1) 25 (.map p) (.map none) from rfl, eqInMapNil 9999 w p]

theorem eqInSliceNil (d : Nat) (w : World) (p : Option Addr) (n c : Nat) : (Op.equalIn (d + 1) 22 (.slice p n c) (.slice none 0 0)).run Try.prog w = .ok p.isNone w := by
  cases p <;> simp [Op.equalIn, run_underlying Try.underlying22]
theorem eqlSliceNil (w : World) (p : Option Addr) (n c : Nat) : (binOp .eql 22 (.slice p n c) (.slice none 0 0)).run Try.prog w = .ok (.bool p.isNone) w := by
  simp only [binOp]
  simp [show Op.equal 22 (.slice p n c) (.slice none 0 0) = Op.equalIn (9999 + 1) 22 (.slice p n c) (.slice none 0 0) from rfl, eqInSliceNil 9999 w p n c]

theorem makeMap0 (w : World) : (Instr.makeMap 25 (some (.int .i64 0))).run Try.prog w = .ok (.map (some w.heap.size)) (w.alloc (.map #[] 0)) := rfl

set_option maxRecDepth 100000 in
theorem clone_nil (w : World) :
    Calls Try.prog 20 #[.slice none 0 0] w fun e w' => e = .returned (.slice none 0 0) ∧ w' = w := by
  have he := eqlSliceNil w none 0 0
  go_enter Try.func20, Try.ntmps20
  go_wp2
  go_ret
  exact ⟨rfl, rfl⟩

set_option maxRecDepth 100000 in
theorem part_new (w : World) (tb : Nat) (hp : Pair w tb 29 (.slice none 0 0) (.map none)) :
    Calls Try.prog 18 #[.pointer (some ⟨tb, 0, none⟩)] w fun e w' => e = .returned (.tuple #[]) ∧
      Pair w' tb 29 (.slice none 0 0) (.map (some w.heap.size)) ∧ w'.ownsMap Try.prog 9 (plainElem (H := Unit) Try.prog 3) w.heap.size 0 (.map []) ∧ Kept (· ≠ tb) w w' := by
  have c0 := hp.c0
  have f0 := hp.f0
  have f1 := hp.f1
  have hc := clone_nil w
  have p1 := hp.set0 (.slice none 0 0)
  have k1 : Kept (· ≠ tb) w (w.setCell ⟨tb, 0, none⟩ (.slice none 0 0)) := Kept.setCell _ _ _ (by simp)
  have hs1 : (w.setCell ⟨tb, 0, none⟩ (.slice none 0 0)).heap.size = w.heap.size := by simp [World.setCell]
  have hm := fun W => makeMap0 W
  go_enter Try.func18, Try.ntmps18
  go_wp2_with fail
  refine hc.mono ?_
  rintro e w' ⟨rfl, rfl⟩
  clear hc
  go_upto_region 1 with fail
  generalize hx1 : w'.setCell ⟨tb, 0, none⟩ (.slice none 0 0) = x1 at *
  have HS : Hid (x1.heap.size = w'.heap.size) := hs1
  clear hx1 c0 f0 f1 hs1
  have p2 := p1.kept (keep := fun _ => True) (Kept.alloc x1 (.map #[] 0)) trivial
  have p3 := p2.set1 (.map (some x1.heap.size))
  have c0 := p1.c0
  have f2 := p2.f1
  have c2 := p2.c1
  have c3 := p3.c0
  have k3 : Kept (· ≠ tb) x1 ((x1.alloc (.map #[] 0)).setCell ⟨tb, 1, none⟩ (.map (some x1.heap.size))) := (Kept.alloc x1 _).trans (Kept.setCell _ _ _ (by simp))
  have hm3 : ((x1.alloc (.map #[] 0)).setCell ⟨tb, 1, none⟩ (.map (some x1.heap.size))).ownsMap Try.prog 9 (plainElem (H := Unit) Try.prog 3) x1.heap.size 0 (.map []) :=
    (World.ownsMap_made x1 _ _ _).setCell (a := ⟨tb, 1, none⟩) (by have := p1.lt; simp; omega) _
  go_upto_region 2 with fail
  generalize (x1.alloc (.map #[] 0)).setCell ⟨tb, 1, none⟩ (.map (some x1.heap.size)) = x3 at *
  rw [HS.out] at p3 hm3
  clear f2 c0 p2 c2
  go_wp2
  go_loopw [26] (fun i wr => i = .int .i64 0 ∧ wr = x3) (fun _ _ => 0)
  case atStart => exact ⟨rfl, rfl⟩
  case round =>
    obtain ⟨rfl, rfl⟩ := hrel
    go_wp2
    go_end0
    exact ⟨rfl, p3, hm3, k1.trans k3⟩

/-- A table that has a map: its list may be nil yet. -/
structure Mid (W : World) (tb mb : Nat) (v : Value) (D : DataW Unit) (xs : List ByteArray) : Prop where
  pair : Pair W tb 29 v (.map (some mb))
  row : W.ownsRow 0 9 1 v xs.length (xs.map Value.string)
  map : W.ownsMap Try.prog 9 (plainElem Try.prog 3) mb xs.length D
  holds : Holds D xs
  ne1 : mb ≠ tb
  ne2 : v.ownBlock ≠ some tb
  ne3 : v.ownBlock ≠ some mb

theorem row_kept {keep : Nat → Prop} {w w' : World} {base : Nat} {e : TypeId} {size : Nat} {v : Value} {n : Nat} {xs : List Value} (h : w.ownsRow base e size v n xs) (hk : Kept keep w w') (hv : ∀ k, v.ownBlock = some k → keep k) : w'.ownsRow base e size v n xs := by
  refine ⟨h.1, ?_⟩
  rcases h.2 with h2 | ⟨g, cap, cur, rfl, hg, hb, rest⟩
  · exact .inl h2
  · exact .inr ⟨g, cap, cur, rfl, hg, (hk.block g (Array.getElem?_eq_some_iff.1 hb).1 (hv g rfl)).trans hb, rest⟩
theorem map_kept {keep : Nat → Prop} {P : Program} {k : TypeId} {R : Value → Option (DataW Unit × List MemPlace)} {w w' : World} {b n : Nat} {D : DataW Unit} (h : w.ownsMap P k R b n D) (hk : Kept keep w w') (hb : keep b) : w'.ownsMap P k R b n D := by
  have hlt := h.lt
  obtain ⟨es, clock, hb', F', hs, hD⟩ := h
  exact ⟨es, clock, (hk.block _ hlt hb).trans hb', F', hs, hD⟩

theorem Mid.drewN {W : World} {tb mb : Nat} {v : Value} {D : DataW Unit} {xs : List ByteArray} (h : Mid W tb mb v D xs) (n : Nat) : Mid (W.drewN n) tb mb v D xs := ⟨h.pair, h.row, h.map, h.holds, h.ne1, h.ne2, h.ne3⟩

/-- Behind the append: the table's own two cells, as they were, and with the new list; the map as it was. -/
theorem Mid.grown {W w1 : World} {tb mb : Nat} {v v' : Value} {D : DataW Unit} {xs : List ByteArray} {o : Obj} (h : Mid W tb mb v D xs) (hg : (W.alloc o).grownBy w1 v.ownBlock) :
    Pair w1 tb 29 v (.map (some mb)) ∧ Pair (w1.setCell ⟨tb, 0, none⟩ v') tb 29 v' (.map (some mb)) ∧ (w1.setCell ⟨tb, 0, none⟩ v').ownsMap Try.prog 9 (plainElem Try.prog 3) mb xs.length D := by
  have k0 : Kept (fun b => some b ≠ v.ownBlock) W (W.alloc o) := Kept.alloc _ _
  have k1 : Kept (fun b => some b ≠ v.ownBlock) (W.alloc o) w1 := Kept.of_grown hg (fun k e => by simp [e])
  have p1 := h.pair.kept (k0.trans k1) (fun e => h.ne2 e.symm)
  exact ⟨p1, p1.set0 v', (map_kept h.map (k0.trans k1) (fun e => h.ne3 e.symm)).setCell (by simpa using h.ne1) _⟩

/-- Behind the store into the map: a table with one name more. -/
theorem Mid.put {W w1 w3 : World} {tb mb : Nat} {v v' : Value} {D : DataW Unit} {xs : List ByteArray} {x : ByteArray} {o : Obj} (h : Mid W tb mb v D xs) (hx : x ∉ xs) (hxs : x.size ≤ 281474976710656) (hn : xs.Nodup) (hz : ∀ s ∈ xs, s.size ≤ 281474976710656)
    (hr : w1.ownsRow 0 9 1 v' (xs.length + 1) (xs.map Value.string ++ [.string x])) (hg : (W.alloc o).grownBy w1 v.ownBlock) (hloc : v'.ownBlock = v.ownBlock ∨ v'.ownBlock = some (W.alloc o).heap.size)
    (hm : w3.ownsMap Try.prog 9 (plainElem Try.prog 3) mb (xs.length + 1) (D.put (kl x) (.lit (.int .i64 (xs.length : Int))))) (hg3 : (w1.setCell ⟨tb, 0, none⟩ v').grownBy w3 (some mb)) :
    ∃ F', Tab w3 tb F' (xs ++ [x]) ∧ (∀ b ∈ F', b = tb ∨ b = mb ∨ v.ownBlock = some b ∨ W.heap.size ≤ b) ∧ Kept (fun b => b ≠ tb ∧ b ≠ mb ∧ v.ownBlock ≠ some b) W w3 := by
  obtain ⟨_, p2, _⟩ := h.grown (v' := v') hg
  have hlt := h.pair.lt
  have hlm := h.map.lt
  have hsz : (W.alloc o).heap.size = W.heap.size + 1 := by simp
  have k0 : Kept (fun b => b ≠ tb ∧ b ≠ mb ∧ v.ownBlock ≠ some b) W (W.alloc o) := Kept.alloc _ _
  have k1 : Kept (fun b => b ≠ tb ∧ b ≠ mb ∧ v.ownBlock ≠ some b) (W.alloc o) w1 := Kept.of_grown hg (fun k e => by simp [e])
  have k2 : Kept (fun b => b ≠ tb ∧ b ≠ mb ∧ v.ownBlock ≠ some b) w1 (w1.setCell ⟨tb, 0, none⟩ v') := Kept.setCell _ _ _ (by simp)
  have k3 : Kept (fun b => b ≠ tb ∧ b ≠ mb ∧ v.ownBlock ≠ some b) (w1.setCell ⟨tb, 0, none⟩ v') w3 := Kept.of_grown hg3 (fun k e => by simp at e; simp [e])
  have p3 := p2.kept (keep := fun b => b ≠ mb) (Kept.of_grown hg3 (fun k e => by simp at e; simp [e])) (fun e => h.ne1 e.symm)
  have hl : (xs ++ [x]).length = xs.length + 1 := by simp
  have hv1 : v'.ownBlock ≠ some tb := by
    rcases hloc with e | e
    · rw [e]; exact h.ne2
    · rw [e, hsz]; simp; omega
  have hv2 : v'.ownBlock ≠ some mb := by
    rcases hloc with e | e
    · rw [e]; exact h.ne3
    · rw [e, hsz]; simp; omega
  have r2 := row_kept hr (keep := fun b => b ≠ tb) (Kept.setCell w1 ⟨tb, 0, none⟩ v' (by simp)) (fun k e e' => hv1 (by rw [e, e']))
  have r3 := row_kept r2 (keep := fun b => b ≠ mb) (Kept.of_grown hg3 (fun k e => by simp at e; simp [e])) (fun k e e' => hv2 (by rw [e, e']))
  have r3' := r3
  rcases r3.2 with ⟨_, h0⟩ | ⟨g, cap, cur, rfl, _⟩
  · cases h0
  refine ⟨[tb, g, mb], ⟨?_, ?_, .inr ⟨g, cap, mb, _, rfl, fun e => hv1 (by simp [Value.ownBlock, e]), h.ne1, fun e => hv2 (by simp [Value.ownBlock, e]), by rw [hl]; exact p3, ?_, by rw [hl]; exact hm, h.holds.snoc (h.map.tidy keyed) hx⟩⟩, ?_, ((k0.trans k1).trans k2).trans k3⟩
  · rw [List.nodup_append]
    exact ⟨hn, by simp, fun a ha b hb => by simp at hb; subst hb; exact fun e => hx (e ▸ ha)⟩
  · intro s hs
    rcases List.mem_append.1 hs with hs | hs
    · exact hz s hs
    · simp at hs; subst hs; exact hxs
  · rw [hl, List.map_append]
    exact r3'
  · intro b hb
    simp at hb
    rcases hb with rfl | rfl | rfl
    · exact .inl rfl
    · rcases hloc with e | e
      · exact .inr (.inr (.inl e.symm))
      · rw [hsz] at e
        simp [Value.ownBlock] at e
        exact .inr (.inr (.inr (by omega)))
    · exact .inr (.inl rfl)

end Go.Proofs.Ytbgcnmebmbjdjaa
