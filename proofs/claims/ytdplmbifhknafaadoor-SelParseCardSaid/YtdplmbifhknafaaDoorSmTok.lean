/- Slices of tokens as a source; the document's own SameTokens at two slices of one list. -/
import Derived.Test.YtdplmbifhknafaaDoorSlGa
import Derived.Test.YtdplmbifhknafaaDoorAppSrc
import Derived.Deep.QuietTactic
namespace Go.Proofs.YtdplmbifhknafaaDoor.Sl
open Go.Proofs.YtdplmbifhknafaaDoor.Tre
open Go Go.RowKit Go.Shelf

theorem btsCells_cell {ts : List Bt} {j : Nat} {u : Value} (h : (btsCells ts)[j]? = some u) : ∃ t, ts[j / 5]? = some t ∧ (btCells t)[j % 5]? = some u := by
  have hlt : j < (btsCells ts).length := (List.getElem?_eq_some_iff.1 h).1
  rw [btsCells_length] at hlt
  have hq : j / 5 < ts.length := by omega
  refine ⟨ts[j / 5], List.getElem?_eq_getElem hq, ?_⟩
  rw [← btsCells_at ts (j / 5) _ (List.getElem?_eq_getElem hq) (j % 5) (by omega), show j / 5 * 5 + j % 5 = j by omega]
  exact h
theorem btAt_cells {W : World} {bk o : Nat} {t : Bt} (h : BtAt W bk o t) {i : Nat} {u : Value} (hi : (btCells t)[i]? = some u) : W.cell? ⟨bk, o + i, none⟩ = some u := by
  obtain ⟨h0, h1, h2, h3, h4⟩ := h
  have : i = 0 ∨ i = 1 ∨ i = 2 ∨ i = 3 ∨ i = 4 := by
    have := (List.getElem?_eq_some_iff.1 hi).1
    simp [btCells] at this
    omega
  rcases this with rfl | rfl | rfl | rfl | rfl <;> (simp [btCells] at hi; subst hi; assumption)
/-- A slice of tokens as a source. -/
theorem btsSrc {n₀ : Nat} {X : World} {v : Value} {ts : List Bt} (h : BtsAt n₀ X v ts) :
    (v = .slice none 0 0 ∧ ts.length = 0) ∨ ∃ ad c, v = .slice (some ad) ts.length c ∧ ∀ j u, (btsCells ts)[j]? = some u → X.cell? (ad.add j) = some u := by
  rcases h with ⟨rfl, rfl | ⟨x, cap, rfl, _⟩⟩ | ⟨bk, off, cap, rfl, _, _, _, hc⟩
  · exact .inl ⟨rfl, rfl⟩
  · exact .inr ⟨x, cap, rfl, fun j u hj => by simp [btsCells] at hj⟩
  · refine .inr ⟨_, cap, rfl, fun j u hj => ?_⟩
    obtain ⟨t, ht, hi⟩ := btsCells_cell hj
    have := btAt_cells (hc _ t ht) hi
    rw [addr_add, show off + j = off + j / 5 * 5 + j % 5 by omega]
    exact this
theorem bts_heap {w W : World} {v : Value} {l : List Bt} (h : BtsAt w.heap.size w v l) (e : W.heap = w.heap) : BtsAt W.heap.size W v l := by
  have hc : ∀ p, W.cell? p = w.cell? p := fun p => by unfold World.cell?; rw [e]
  rw [e]
  rcases h with h | ⟨bk, off, cap, rfl, h1, h2, hbk, h⟩
  · exact .inl h
  · refine .inr ⟨bk, off, cap, rfl, h1, h2, hbk, fun j t hj => ?_⟩
    obtain ⟨c0, c1, c2, c3, c4⟩ := h j t hj
    exact ⟨(hc _).trans c0, (hc _).trans c1, (hc _).trans c2, (hc _).trans c3, (hc _).trans c4⟩

set_option maxRecDepth 100000 in
set_option maxHeartbeats 2000000 in
/-- SameTokens: yes, where both hold one list. -/
theorem sameBts_yes (v v' : Value) (l : List Bt) (w : World) (hv : BtsAt w.heap.size w v l) (hv' : BtsAt w.heap.size w v' l) :
    Calls Tryd.prog 12 #[v, v'] w fun e w' => e = .returned (.bool true) ∧ ∃ n, w' = w.drewN n := by
  have hl := hv.short
  obtain ⟨p, cap, rfl⟩ := hv.len
  obtain ⟨p', cap', rfl⟩ := hv'.len
  go_enter Tryd.func12, Tryd.ntmps12
  go_wp2
  go_loopw [5] (fun i wr => ∃ k n : Nat, i = .int .i64 k ∧ k ≤ l.length ∧ wr = w.drewN n) (fun i _ => l.length - (intOf i).toNat)
  case atStart => exact ⟨0, 0, rfl, Nat.zero_le _, rfl⟩
  case round =>
    obtain ⟨k, n, rfl, hk, rfl⟩ := hrel
    by_cases hlt : k < l.length
    · obtain ⟨bk, off, rfl, _, _, _, a0, a1, a2, a3, a4⟩ := hv.get (List.getElem?_eq_getElem hlt)
      obtain ⟨bk', off', rfl, _, _, _, b0, b1, b2, b3, b4⟩ := hv'.get (List.getElem?_eq_getElem hlt)
      clear hv hv'
      generalize l[k] = t at *
      have hki : (k : Int) < (l.length : Int) := by omega
      go_wp2
      go_quiet (fail)
      go_wp2
      exact ⟨⟨k + 1, _, by go_num, by omega, rfl⟩, by simp [intOf]; omega⟩
    · have hki : ¬ (k : Int) < (l.length : Int) := by omega
      go_wp2
      go_ret
      exact ⟨rfl, n, rfl⟩


end Go.Proofs.YtdplmbifhknafaaDoor.Sl
