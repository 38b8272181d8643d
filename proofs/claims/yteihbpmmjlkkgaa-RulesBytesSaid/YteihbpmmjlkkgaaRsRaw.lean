/- The rules of tokens, in plain words; slices of rules in memory; rules.copied. -/
import Derived.Test.YteihbpmmjlkkgaaRsUp
import Derived.Test.YteihbpmmjlkkgaaAppSrc
namespace Go.Proofs.Yteihbpmmjlkkgaa
open Go Go.RowKit Go.Shelf

/-! ### plain -/
def isStop (k : Int) : Bool := [12, 14].contains k
def is14 (k : Int) : Bool := [14].contains k
def is15' (k : Int) : Bool := [15].contains k
abbrev Rw := List Bt × List Bt
def rulesF : Nat → List Bt → List Rw
  | 0, _ => []
  | _ + 1, [] => []
  | f + 1, t :: r =>
    if t.kind = 9 then rulesF f r
    else if t.kind = 2 then rulesF f (r.drop (upto isStop (kds r) + run [] ((kds r).drop (upto isStop (kds r)))))
    else if upto is14 (kds (t :: r)) = (t :: r).length then []
    else ((t :: r).take (upto is14 (kds (t :: r))), ((t :: r).drop (upto is14 (kds (t :: r)) + 1)).take (upto is15' (kds ((t :: r).drop (upto is14 (kds (t :: r)) + 1))))) :: rulesF f ((t :: r).drop (upto is14 (kds (t :: r)) + 1 + (upto is15' (kds ((t :: r).drop (upto is14 (kds (t :: r)) + 1))) + 1)))
def rules (ts : List Bt) : List Rw := rulesF ts.length ts
theorem rulesF_more : ∀ (f g : Nat) (l : List Bt), l.length ≤ f → l.length ≤ g → rulesF f l = rulesF g l
  | 0, 0, _, _, _ => rfl
  | 0, g + 1, l, hf, _ => by
    have : l = [] := List.length_eq_zero_iff.1 (by omega)
    subst this
    rfl
  | f + 1, 0, l, _, hg => by
    have : l = [] := List.length_eq_zero_iff.1 (by omega)
    subst this
    rfl
  | f + 1, g + 1, [], _, _ => rfl
  | f + 1, g + 1, t :: r, hf, hg => by
    rw [List.length_cons] at hf hg
    have h1 := rulesF_more f g r (by omega) (by omega)
    have h2 := rulesF_more f g (r.drop (upto isStop (kds r) + run [] ((kds r).drop (upto isStop (kds r))))) (by rw [List.length_drop]; omega) (by rw [List.length_drop]; omega)
    have h3 := rulesF_more f g ((t :: r).drop (upto is14 (kds (t :: r)) + 1 + (upto is15' (kds ((t :: r).drop (upto is14 (kds (t :: r)) + 1))) + 1))) (by rw [List.length_drop, List.length_cons]; omega) (by rw [List.length_drop, List.length_cons]; omega)
    simp only [rulesF, h1, h2, h3]
theorem rules_nil : rules [] = [] := rfl
theorem rules_white {t : Bt} {r : List Bt} (h : t.kind = 9) : rules (t :: r) = rules r := by
  unfold rules
  rw [List.length_cons, rulesF, if_pos h]
theorem rules_at {t : Bt} {r : List Bt} (h : t.kind = 2) : rules (t :: r) = rules (r.drop (upto isStop (kds r) + run [] ((kds r).drop (upto isStop (kds r))))) := by
  unfold rules
  rw [List.length_cons, rulesF, if_neg (by omega), if_pos h]
  exact rulesF_more _ _ _ (by rw [List.length_drop]; omega) (Nat.le_refl _)
theorem rules_none {t : Bt} {r : List Bt} (h9 : t.kind ≠ 9) (h2 : t.kind ≠ 2) (h : upto is14 (kds (t :: r)) = (t :: r).length) : rules (t :: r) = [] := by
  unfold rules
  rw [List.length_cons, rulesF, if_neg h9, if_neg h2, if_pos h]
theorem rules_one {t : Bt} {r : List Bt} (h9 : t.kind ≠ 9) (h2 : t.kind ≠ 2) (h : upto is14 (kds (t :: r)) ≠ (t :: r).length) :
    rules (t :: r) = ((t :: r).take (upto is14 (kds (t :: r))), ((t :: r).drop (upto is14 (kds (t :: r)) + 1)).take (upto is15' (kds ((t :: r).drop (upto is14 (kds (t :: r)) + 1))))) :: rules ((t :: r).drop (upto is14 (kds (t :: r)) + 1 + (upto is15' (kds ((t :: r).drop (upto is14 (kds (t :: r)) + 1))) + 1))) := by
  unfold rules
  rw [List.length_cons, rulesF, if_neg h9, if_neg h2, if_neg h]
  congr 1
  exact rulesF_more _ _ _ (by rw [List.length_drop, List.length_cons]; omega) (Nat.le_refl _)

/-! ### in memory -/
theorem infoTk5 : (Try.prog.info? 38).map (fun i => (i.zero, i.size, i.bytes)) = some (some (.agg #[.int .i64 0, .string ⟨#[]⟩, .int .i64 0, .bool false, .int .i64 0]), 5, 48) := by kernel_rfl
theorem infoRaw : (Try.prog.info? 36).map (fun i => (i.zero, i.size, i.bytes)) = some (some (.agg #[.slice none 0 0, .slice none 0 0]), 2, 48) := by kernel_rfl
theorem btsCells_cell {ts : List Bt} {j : Nat} {u : Value} (h : (btsCells ts)[j]? = some u) : ∃ t, ts[j / 5]? = some t ∧ (btCells t)[j % 5]? = some u := by
  have hlt : j < (btsCells ts).length := (List.getElem?_eq_some_iff.1 h).1
  rw [btsCells_length] at hlt
  have hq : j / 5 < ts.length := by omega
  refine ⟨ts[j / 5], List.getElem?_eq_getElem hq, ?_⟩
  rw [← btsCells_at ts (j / 5) _ (List.getElem?_eq_getElem hq) (j % 5) (by omega), show j / 5 * 5 + j % 5 = j by omega]
  exact h
theorem BtAt.cells {W : World} {bk o : Nat} {t : Bt} (h : BtAt W bk o t) {i : Nat} {u : Value} (hi : (btCells t)[i]? = some u) : W.cell? ⟨bk, o + i, none⟩ = some u := by
  obtain ⟨h0, h1, h2, h3, h4⟩ := h
  have : i = 0 ∨ i = 1 ∨ i = 2 ∨ i = 3 ∨ i = 4 := by
    have := (List.getElem?_eq_some_iff.1 hi).1
    simp [btCells] at this
    omega
  rcases this with rfl | rfl | rfl | rfl | rfl <;> (simp [btCells] at hi; subst hi; assumption)
/-- A slice of tokens as a source. -/
theorem BtsAt.src {n₀ : Nat} {X : World} {v : Value} {ts : List Bt} (h : BtsAt n₀ X v ts) :
    (v = .slice none 0 0 ∧ ts.length = 0) ∨ ∃ ad c, v = .slice (some ad) ts.length c ∧ ∀ j u, (btsCells ts)[j]? = some u → X.cell? (ad.add j) = some u := by
  rcases h with ⟨rfl, rfl | ⟨x, cap, rfl, _⟩⟩ | ⟨bk, off, cap, rfl, _, _, _, hc⟩
  · exact .inl ⟨rfl, rfl⟩
  · exact .inr ⟨x, cap, rfl, fun j u hj => by simp [btsCells] at hj⟩
  · refine .inr ⟨_, cap, rfl, fun j u hj => ?_⟩
    obtain ⟨t, ht, hi⟩ := btsCells_cell hj
    have := (hc _ t ht).cells hi
    rw [addr_add, show off + j = off + j / 5 * 5 + j % 5 by omega]
    exact this

set_option maxRecDepth 100000 in
set_option maxHeartbeats 1000000 in
theorem copied_any (v : Value) (ts : List Bt) (w : World) (hv : BtsAt w.heap.size w v ts) (hl : ts.length ≤ 1000000) :
    Calls Try.prog 16 #[v] w fun e w' => ∃ v', e = .returned v' ∧ w'.ownsRow w.heap.size 38 5 v' ts.length (btsCells ts) ∧ Below w.heap.size w w' := by
  obtain ⟨i0, hi, hz0, hz1, hz2⟩ := info_parts infoTk5
  have hsrc := hv.src
  go_enter Try.func16, Try.ntmps16
  go_wp2_with (at_builtin; refine wpList_append_src _ rfl _ _ 22 rfl w.heap.size 38 i0 (.agg #[.int .i64 0, .string ⟨#[]⟩, .int .i64 0, .bool false, .int .i64 0]) 5 48 Try.underlying22 hi hz0 hz1 hz2 rfl (by decide) _ 0 [] rfl (World.ownsRow_nil _ _ _ _) _ ts.length (btsCells ts) rfl (btsCells_length ts) hsrc (btsCells_one ts) (by unfold maxLen; omega) (by omega) (Nat.le_refl _) ?_; intro v' w' hown' hgrow')
  go_ret
  refine ⟨_, rfl, by simpa using hown', (Below.refl _ w).grown hgrow' (Nat.le_refl _) (fun r e => by cases e)⟩

/-- THE SLICE VALUE v HOLDS THE RULES rs, all in blocks from b on that hold nothing else. -/
structure RawsAt (b : Nat) (W : World) (v : Value) (rs : List Rw) (vs : List (Value × Value)) : Prop where
  row : W.ownsRow b 36 2 v rs.length (vs.flatMap fun p => [p.1, p.2])
  len : vs.length = rs.length
  each : ∀ (j : Nat) (p : Value × Value) (r : Rw), vs[j]? = some p → rs[j]? = some r → W.ownsRow b 38 5 p.1 r.1.length (btsCells r.1) ∧ W.ownsRow b 38 5 p.2 r.2.length (btsCells r.2)
theorem RawsAt.nil (b : Nat) (W : World) : RawsAt b W (.slice none 0 0) [] [] := ⟨World.ownsRow_nil _ _ _ _, rfl, fun j p r h _ => by simp at h⟩
/-- Rows of unlike types lie in unlike blocks. -/
theorem rows_apart {W : World} {b b' : Nat} {e e' : TypeId} (hne : e ≠ e') {s s' : Nat} {v v' : Value} {n n' : Nat} {xs xs' : List Value} (h : W.ownsRow b e s v n xs) (h' : W.ownsRow b' e' s' v' n' xs') : v.ownBlock = none ∨ v.ownBlock ≠ v'.ownBlock := by
  rcases h.2 with ⟨rfl, _⟩ | ⟨g, cap, cur, rfl, _, hb, _⟩
  · exact .inl rfl
  · right
    rcases h'.2 with ⟨rfl, _⟩ | ⟨g', cap', cur', rfl, _, hb', _⟩
    · simp [Value.ownBlock]
    · intro e2
      simp [Value.ownBlock] at e2
      subst e2
      rw [hb] at hb'
      injection hb' with hb'
      injection hb' with _ h2
      exact hne h2
theorem RawsAt.kept {b : Nat} {W W' : World} {v : Value} {rs : List Rw} {vs : List (Value × Value)} (h : RawsAt b W v rs vs) (g : W.grownBy W' none) : RawsAt b W' v rs vs := by
  have no : ∀ x : Value, x.ownBlock = none ∨ x.ownBlock ≠ none := fun x => by
    cases x.ownBlock with
    | none => exact .inl rfl
    | some j => exact .inr (by simp)
  exact ⟨h.row.kept g (no _), h.len, fun j p r h1 h2 => ⟨(h.each j p r h1 h2).1.kept g (no _), (h.each j p r h1 h2).2.kept g (no _)⟩⟩
/-- One rule more. -/
theorem RawsAt.push {b : Nat} {W W' : World} {v v' : Value} {rs : List Rw} {vs : List (Value × Value)} {o : Obj} {p : Value × Value} {r : Rw} (h : RawsAt b W v rs vs)
    (h1 : W.ownsRow b 38 5 p.1 r.1.length (btsCells r.1)) (h2 : W.ownsRow b 38 5 p.2 r.2.length (btsCells r.2))
    (hg : (W.alloc o).grownBy W' v.ownBlock) (hr : W'.ownsRow b 36 2 v' (rs.length + 1) ((vs.flatMap fun p => [p.1, p.2]) ++ [p.1, p.2])) : RawsAt b W' v' (rs ++ [r]) (vs ++ [p]) := by
  have keep : ∀ {x : Value} {n : Nat} {xs : List Value}, W.ownsRow b 38 5 x n xs → W'.ownsRow b 38 5 x n xs := fun hx =>
    (hx.alloc o).kept hg (rows_apart (e := 38) (e' := 36) (by decide) (hx.alloc o) (h.row.alloc o))
  refine ⟨?_, by simp [h.len], fun j q s hq hs => ?_⟩
  · rw [List.length_append, List.flatMap_append]
    simpa using hr
  · by_cases hj : j < vs.length
    · rw [List.getElem?_append_left hj] at hq
      rw [List.getElem?_append_left (by rw [← h.len]; exact hj)] at hs
      exact ⟨keep (h.each j q s hq hs).1, keep (h.each j q s hq hs).2⟩
    · have hj' : j = vs.length := by
        have := (List.getElem?_eq_some_iff.1 hq).1
        simp at this
        omega
      subst hj'
      rw [List.getElem?_append_right (Nat.le_refl _)] at hq
      rw [h.len, List.getElem?_append_right (Nat.le_refl _)] at hs
      obtain rfl : p = q := by simpa using hq
      obtain rfl : r = s := by simpa using hs
      exact ⟨keep h1, keep h2⟩

end Go.Proofs.Yteihbpmmjlkkgaa
