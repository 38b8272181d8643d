/- The document's own reader of selectors: a selector under way; the plain side, by places. -/
import Derived.Test.YtgjjedodbgimfaaSrCo
namespace Go.Proofs.Ytgjjedodbgimfaa.Sr
open Go.Proofs.Ytgjjedodbgimfaa.Tre
open Go Go.RowKit Sl

theorem infoSe : (Try.prog.info? 25).map (·.size) = some 1 := by kernel_rfl
theorem infoPt3 : (Try.prog.info? 32).map (fun i => (i.zero, i.size, i.bytes)) = some (some (.agg #[.int .i64 0, .string ⟨#[]⟩, .slice none 0 0, .slice none 0 0, .slice none 0 0, .slice none 0 0]), 6, 120) := by kernel_rfl
theorem load_se {w : World} {g : Nat} {a : Value} (h : Blk w g 25 [a]) : (loadVar 25 ⟨g, 0, none⟩).run Try.prog w = .ok (.agg #[a]) w :=
  run_loadVar_row w g _ 25 #[a] (0, 0) _ h Try.underlying25 rfl infoSe
def PtTd (d : Nat) (P : Nat → Prop) (W : World) (c : List Value) (q : Pt) : Prop := PtT (SelsAt d P W) P W c q
theorem ptT_stays (d : Nat) : Stays (PtTd d) := fun _ _ _ _ _ _ ⟨c', e, h⟩ f => ⟨c', e, h.fr f (fun _ _ hq => SelsAt.fr d hq f)⟩
/-- The blocks from n on that are neither Q nor the row's. -/
def OffS (n Q : Nat) (y : Value) (b : Nat) : Prop := n ≤ b ∧ b ≠ Q ∧ y.ownBlock ≠ some b
/-- Where selector stands: its result, its own s, the reader. -/
structure SeSt (n₀ R : Nat) (v : Value) (ts : List Bt) (d : Nat) (w : World) (s : Sel) (y : Value) (b : Nat) (bad : Bool) (W : World) : Prop where
  z : Blk W w.heap.size 25 [nilS]
  q : Blk W (w.heap.size + 1) 25 [y]
  r : UndRow 32 6 (PtTd d) (w.heap.size + 1) (OffS (w.heap.size + 1) (w.heap.size + 1) y) W y s
  pk : Pk n₀ W R v ts b bad (8 - (d : Int))
  but : But R w W
  hR : R < w.heap.size
section
variable {n₀ R : Nat} {v : Value} {ts : List Bt} {d : Nat} {w : World} {s : Sel} {y : Value} {b : Nat} {bad : Bool} {W W' : World}
theorem SeSt.go (h : SeSt n₀ R v ts d w s y b bad W) {b' : Nat} {bad' : Bool} (hP : Pk n₀ W' R v ts b' bad' (8 - (d : Int))) (hb : But R W W') : SeSt n₀ R v ts d w s y b' bad' W' := by
  have h1 := h.hR
  exact ⟨hb.blk h.z (by omega), hb.blk h.q (by omega), h.r.kept (ptT_stays d) (Fr.of_kept hb (fun b hb _ => ⟨by have := hb.1; omega, hb⟩)) (fun g hg => hb.block g (h.r.lt hg).2 (by have := (h.r.lt hg).1; omega)), hP, h.but.trans hb, h.hR⟩
theorem SeSt.below (h : SeSt n₀ R v ts d w s y b bad W) (hb : Below W.heap.size W W') : SeSt n₀ R v ts d w s y b bad W' := h.go (h.pk.below hb) (But.of_below hb)
theorem SeSt.at (h : SeSt n₀ R v ts d w s y b bad W) {b' : Nat} (hb : b' ≤ ts.length + 10) : SeSt n₀ R v ts d w s y b' bad (W.setCell ⟨R, 1, none⟩ (.int .i64 b')) := h.go (h.pk.set hb) (But.set R W 1 _)
theorem SeSt.spoil (h : SeSt n₀ R v ts d w s y b bad W) (q : Bool) : SeSt n₀ R v ts d w s y b q (W.setCell ⟨R, 2, none⟩ (.bool q)) := h.go (h.pk.spoil q) (But.set R W 2 _)
/-- One part more: appended, and stored. -/
theorem SeSt.push (h : SeSt n₀ R v ts d w s y b bad W) {X Y : World} (hX : Below W.heap.size W X) {css : List (List Value)} (h2 : css.length = s.length) (h3 : ∀ c ∈ css, c.length = 6) (h4 : ∀ (j : Nat) (c : List Value) (x : Pt), css[j]? = some c → s[j]? = some x → PtTd d (OffS (w.heap.size + 1) (w.heap.size + 1) y) W c x)
    {comb : Int} {c : Cp} {cells : List Value} (hl : cells.length = 5) {m : Nat} (hc : CpT (SelsAt d (fun b => m ≤ b) X) (fun b => m ≤ b) X cells c) (hm : w.heap.size + 1 < m) (hmy : ∀ g, y.ownBlock = some g → g < m)
    {v' : Value} (hr : Y.ownsRow (w.heap.size + 1) 32 6 v' (s.length + 1) (css.flatten ++ (.int .i64 comb :: cells))) (hg : X.grownBy Y y.ownBlock) (hat : ∀ g, v'.ownBlock = some g → y.ownBlock = some g ∨ X.heap.size ≤ g) :
    SeSt n₀ R v ts d w (s ++ [(comb, c)]) v' b bad (Y.setCell ⟨w.heap.size + 1, 0, none⟩ v') := by
  have h1 := h.hR
  have hS := h.below hX
  have hlow := h.pk.low
  have oQ : y.ownBlock ≠ some (w.heap.size + 1) := hS.r.off hS.q (by decide)
  have hQX : w.heap.size + 1 < X.heap.size := hS.q.lt
  have hvQ : v'.ownBlock ≠ some (w.heap.size + 1) := fun e => (hat _ e).elim oQ (fun h => by omega)
  have keep : ∀ b, b < X.heap.size → b ≠ w.heap.size + 1 → y.ownBlock ≠ some b → (Y.setCell ⟨w.heap.size + 1, 0, none⟩ v').heap[b]? = X.heap[b]? := fun b hb h1 h2 =>
    (Below.heap_setCell _ _ _ _ (fun e => h1 (by simpa using e))).trans (hg.block b hb (fun e => h2 e.symm))
  have hsz : X.heap.size ≤ (Y.setCell ⟨w.heap.size + 1, 0, none⟩ v').heap.size := by rw [World.size_setCell]; exact hg.size
  have f : Fr (OffS (w.heap.size + 1) (w.heap.size + 1) y) (OffS (w.heap.size + 1) (w.heap.size + 1) v') X (Y.setCell ⟨w.heap.size + 1, 0, none⟩ v') := ⟨hsz, fun b hb hl => ⟨keep b hl.lt hb.2.1 hb.2.2, hb.1, hb.2.1, fun e => (hat b e).elim hb.2.2 (fun h => by have := hl.lt; omega)⟩⟩
  have f2 : Fr (fun b => m ≤ b) (OffS (w.heap.size + 1) (w.heap.size + 1) v') X (Y.setCell ⟨w.heap.size + 1, 0, none⟩ v') := ⟨hsz, fun b hb hl => by
    have hne : y.ownBlock ≠ some b := fun e => by have := hmy b e; omega
    exact ⟨keep b hl.lt (by omega) hne, by omega, by omega, fun e => (hat b e).elim hne (fun h => by have := hl.lt; omega)⟩⟩
  have f0 : Fr (OffS (w.heap.size + 1) (w.heap.size + 1) y) (OffS (w.heap.size + 1) (w.heap.size + 1) y) W X := Fr.of_below hX (fun b hb _ => hb)
  have kY : Kept (fun b => b < w.heap.size + 1) X Y := Kept.of_grown hg (fun g e hlt => by have := (hS.r.lt e).1; omega)
  have kZ : Kept (fun b => b < w.heap.size + 1) X (Y.setCell ⟨w.heap.size + 1, 0, none⟩ v') := kY.trans (Kept.setCell Y _ v' (by simp))
  have hr' : (Y.setCell ⟨w.heap.size + 1, 0, none⟩ v').ownsRow (w.heap.size + 1) 32 6 v' _ _ := owns_same hr (fun g hg' => Below.heap_setCell _ _ _ _ (fun e => hvQ (by simp at e; rw [← e]; exact hg')))
  refine ⟨kZ.blk hS.z (by omega), blk_put ((show Blk Y _ _ _ from (hg.block _ hQX (fun e => oQ e.symm)).trans hS.q)) 0 v', ?_, ⟨kZ.blk hS.pk.blk (by omega), hS.pk.toks.below (kZ.below (Nat.le_trans hS.pk.low (Nat.le_of_lt hS.pk.lt)) (fun b hb => by omega)), hS.pk.low, hS.pk.least, hS.pk.most⟩, ?_, h1⟩
  · exact und_push (ptT_stays d) h2 h3 (fun j c x hj hx => ptT_stays d _ _ _ _ _ _ (h4 j c x hj hx) f0) (by rw [List.length_cons, hl]) ⟨cells, rfl, hc.fr f2 (fun _ _ hq => SelsAt.fr d hq f2)⟩ f hr'
  · exact ⟨kZ.os.trans hS.but.os, kZ.tape.trans hS.but.tape, kZ.output.trans hS.but.output, Nat.le_trans hS.but.size kZ.size, fun j hj hne => (kZ.block j (Nat.lt_of_lt_of_le hj hS.but.size) (by omega)).trans (hS.but.block j hj hne)⟩
end
/-- No selector up to an end. -/
def Fail (U : Option (Sel × List Bt)) : Prop := U = none ∨ ∃ x t r, U = some (x, t :: r) ∧ ¬ (t.kind = 13 ∨ t.kind = 17)
/-- What selector hands back. -/
def SelOut (n₀ R : Nat) (v : Value) (ts : List Bt) (d : Nat) (w : World) (a : Nat) (U : Option (Sel × List Bt)) (e : Ending) (w' : World) : Prop :=
  ∃ (s : Sel) (y : Value) (b : Nat) (bad : Bool), e = .returned (.agg #[y]) ∧ PtsF (SelsAt d (fun b => w.heap.size ≤ b) w') (fun b => w.heap.size ≤ b) w' y s ∧ Pk n₀ w' R v ts b bad (8 - (d : Int)) ∧ a ≤ b ∧ ((bad = false ∧ U = some (s, ts.drop b) ∧ endsV ts b = true ∧ b ≤ ts.length ∧ a < b) ∨ (bad = true ∧ Fail U)) ∧ But R w w'
theorem SeSt.out {n₀ R : Nat} {v : Value} {ts : List Bt} {d : Nat} {w : World} {s : Sel} {y : Value} {b : Nat} {bad : Bool} {W : World} (h : SeSt n₀ R v ts d w s y b bad W) {a : Nat} {U : Option (Sel × List Bt)} (hab : a ≤ b) (hv : (bad = false ∧ U = some (s, ts.drop b) ∧ endsV ts b = true ∧ b ≤ ts.length ∧ a < b) ∨ (bad = true ∧ Fail U)) :
    (loadVar 25 ⟨w.heap.size, 0, none⟩).run Try.prog (W.setCell ⟨w.heap.size, 0, none⟩ y) = .ok (.agg #[y]) (W.setCell ⟨w.heap.size, 0, none⟩ y) ∧
    SelOut n₀ R v ts d w a U (.returned (.agg #[y])) (W.setCell ⟨w.heap.size, 0, none⟩ y) := by
  have h1 := h.hR
  have h2 := h.pk.low
  have g := grown_set W w.heap.size 0 y
  have fr : Fr (fun b => w.heap.size + 1 ≤ b) (fun b => w.heap.size ≤ b) W (W.setCell ⟨w.heap.size, 0, none⟩ y) := ⟨g.size, fun x hx hl => ⟨g.block x hl.lt (fun e => by cases e; omega), by omega⟩⟩
  have hd := h.r.done (P' := fun b => w.heap.size + 1 ≤ b) (by decide) (ptT_stays d) (fun b hb => hb.1) (fun g hg => (h.r.lt hg).1)
  exact ⟨load_se (blk_set1 h.z _), s, y, b, bad, rfl, PtsF.fr hd fr (fun _ _ hq => SelsAt.fr d hq fr), h.pk.other (by omega) (by omega) _, hab, hv, h.but.fresh (Nat.le_refl _) _⟩
/-! ### the plain side -/
theorem parts_none {L : Inner} {f : Nat} {comb : Int} {pre : List Pt} {r : List Bt} (hf : r.length < f) (h : compV L r = none) : partsV L f comb pre r = none := by
  obtain ⟨f, rfl⟩ : ∃ g, f = g + 1 := ⟨f - 1, by omega⟩
  simp [partsV, h]
theorem parts_some {L : Inner} {f : Nat} {comb : Int} {pre : List Pt} {r r1 : List Bt} {c : Cp} (hf : r.length < f) (h : compV L r = some (c, r1)) : partsV L f comb pre r = match betwV r1 with
    | some y => partsV L (f - 1) y.1 (pre ++ [(comb, c)]) y.2
    | none => some (pre ++ [(comb, c)], dropW r1) := by
  obtain ⟨f, rfl⟩ : ∃ g, f = g + 1 := ⟨f - 1, by omega⟩
  simp only [partsV, h, Option.bind_some, Nat.add_sub_cancel]
  cases betwV r1 <;> rfl
theorem comp_beg {L : Inner} {ts : List Bt} {b : Nat} (h : begC (at' ts b) = false) : compV L (ts.drop b) = none := by
  have hk : isSg (at' ts b) 42 = false ∧ ¬ (at' ts b).kind = 1 ∧ begU (at' ts b) = false := by
    unfold begC at h
    simp only [Bool.or_eq_false_iff, decide_eq_false_iff_not] at h
    exact ⟨h.1.2, h.1.1, h.2⟩
  have ht := tag_at ts b
  rw [if_neg (by simp [hk.1]), if_neg hk.2.1] at ht
  exact comp_no (b0 := b) (b := b) (by rw [ht]) (by rw [ht]) (units_no (by omega) hk.2.2) (by omega)
theorem comb_is (t : Bt) : combO t = if combV t = 0 then none else some (combV t) := by
  unfold combO combV isSg
  by_cases h1 : t.kind = 10 ∧ t.c = 62
  · simp [h1]
  · by_cases h2 : t.kind = 10 ∧ t.c = 43
    · simp [h2]
    · by_cases h3 : t.kind = 10 ∧ t.c = 126
      · simp [h3]
      · simp [h1, h2, h3]
/-- Where selector's loop stands. -/
def SeV (L : Inner) (ts : List Bt) (a : Nat) (U : Option (Sel × List Bt)) (comb : Int) (pre : Sel) (b : Nat) : Prop :=
  a ≤ b ∧ b ≤ ts.length ∧ pre.length ≤ b ∧ ((∃ f, (ts.drop b).length < f ∧ partsV L f comb pre (ts.drop b) = U) ∨ (begC (at' ts b) = false ∧ Fail U))
theorem SeV.none {L : Inner} {ts : List Bt} {a : Nat} {U : Option (Sel × List Bt)} {comb : Int} {pre : Sel} {b : Nat} (h : SeV L ts a U comb pre b) (hc : compV L (ts.drop b) = Option.none) : Fail U := by
  rcases h.2.2.2 with ⟨f, hf, hU⟩ | ⟨_, hU⟩
  · exact .inl (by rw [← hU, parts_none hf hc])
  · exact hU
theorem SeV.some {L : Inner} {ts : List Bt} {a : Nat} {U : Option (Sel × List Bt)} {comb : Int} {pre : Sel} {b : Nat} (h : SeV L ts a U comb pre b) {c : Cp} {b1 : Nat} (hc : compV L (ts.drop b) = Option.some (c, ts.drop b1)) : ∃ f, (ts.drop b).length < f ∧ U = match betwV (ts.drop b1) with
    | Option.some y => partsV L (f - 1) y.1 (pre ++ [(comb, c)]) y.2
    | Option.none => Option.some (pre ++ [(comb, c)], dropW (ts.drop b1)) := by
  rcases h.2.2.2 with ⟨f, hf, hU⟩ | ⟨hb, _⟩
  · exact ⟨f, hf, by rw [← hU, parts_some hf hc]⟩
  · rw [comp_beg hb] at hc
    cases hc
theorem betw_at {ts : List Bt} {b1 b2 : Nat} (hd : ts.drop b2 = dropW (ts.drop b1)) (h12 : b1 ≤ b2) (hb2 : b2 ≤ ts.length) : betwV (ts.drop b1) = if ts.length ≤ b2 then none else if combV (at' ts b2) = 0 then (if b1 < b2 ∧ begC (at' ts b2) = true then some (1, ts.drop b2) else none) else some (combV (at' ts b2), dropW (ts.drop (b2 + 1))) := by
  unfold betwV
  have hlen : (dropW (ts.drop b1)).length < (ts.drop b1).length ↔ b1 < b2 := by rw [← hd, List.length_drop, List.length_drop]; omega
  rw [← hd] at hlen ⊢
  by_cases hl : b2 < ts.length
  · rw [if_neg (by omega)]
    have hc := at_cons hl
    rw [hc] at hlen ⊢
    simp only [comb_is]
    by_cases h0 : combV (at' ts b2) = 0
    · simp only [h0, if_true]
      by_cases h1 : b1 < b2 ∧ begC (at' ts b2) = true
      · rw [if_pos h1, if_pos ⟨hlen.2 h1.1, h1.2⟩]
      · rw [if_neg h1, if_neg (fun h => h1 ⟨hlen.1 h.1, h.2⟩)]
    · simp only [h0, if_false]
  · rw [if_pos (by omega), (at_none (ts := ts) (a := b2) (by omega)).1]

end Go.Proofs.Ytgjjedodbgimfaa.Sr
