/- A selector of many parts under way in memory; what it weighs. -/
import Derived.Test.YtgjjedodbgimfaaWgB
namespace Go.Proofs.Ytgjjedodbgimfaa.Wg
open Go.Proofs.Ytgjjedodbgimfaa.Tre
open Go Go.RowKit Go.Shelf Sl Sr

/-- A selector s under way in the block at w's end. -/
structure MnSt (w : World) (s : Sel) (y : Value) (W : World) : Prop where
  q : Blk W w.heap.size 25 [y]
  r : UndRow 32 6 (PtTd 0) w.heap.size (OffS w.heap.size w.heap.size y) W y s
  bl : Below w.heap.size w W
theorem MnSt.below {w : World} {s : Sel} {y : Value} {W W' : World} (h : MnSt w s y W) (hb : Below W.heap.size W W') : MnSt w s y W' :=
  ⟨h.q.below hb h.q.lt, h.r.kept (ptT_stays 0) (Fr.of_below hb (fun _ hb _ => hb)) (fun g hg => hb.block g (h.r.lt hg).2), below_next h.bl hb⟩
theorem MnSt.push {w : World} {s : Sel} {y : Value} {W : World} (h : MnSt w s y W) {X Y : World} (hX : Below W.heap.size W X) {css : List (List Value)} (h2 : css.length = s.length) (h3 : ∀ c ∈ css, c.length = 6) (h4 : ∀ (j : Nat) (c : List Value) (x : Pt), css[j]? = some c → s[j]? = some x → PtTd 0 (OffS w.heap.size w.heap.size y) W c x)
    {comb : Int} {c : Cp} {cells : List Value} (hl : cells.length = 5) {m : Nat} (hc : CpT (SelsAt 0 (fun b => m ≤ b) X) (fun b => m ≤ b) X cells c) (hm : w.heap.size < m) (hmy : ∀ g, y.ownBlock = some g → g < m)
    {v' : Value} (hr : Y.ownsRow w.heap.size 32 6 v' (s.length + 1) (css.flatten ++ (.int .i64 comb :: cells))) (hg : X.grownBy Y y.ownBlock) (hat : ∀ g, v'.ownBlock = some g → y.ownBlock = some g ∨ X.heap.size ≤ g) :
    MnSt w (s ++ [(comb, c)]) v' (Y.setCell ⟨w.heap.size, 0, none⟩ v') := by
  have hS := h.below hX
  have oQ : y.ownBlock ≠ some w.heap.size := hS.r.off hS.q (by decide)
  have hQX : w.heap.size < X.heap.size := hS.q.lt
  have hvQ : v'.ownBlock ≠ some w.heap.size := fun e => (hat _ e).elim oQ (fun h => by omega)
  have keep : ∀ b, b < X.heap.size → b ≠ w.heap.size → y.ownBlock ≠ some b → (Y.setCell ⟨w.heap.size, 0, none⟩ v').heap[b]? = X.heap[b]? := fun b hb h1 h2 =>
    (Below.heap_setCell _ _ _ _ (fun e => h1 (by simpa using e))).trans (hg.block b hb (fun e => h2 e.symm))
  have hsz : X.heap.size ≤ (Y.setCell ⟨w.heap.size, 0, none⟩ v').heap.size := by rw [World.size_setCell]; exact hg.size
  have f : Fr (OffS w.heap.size w.heap.size y) (OffS w.heap.size w.heap.size v') X (Y.setCell ⟨w.heap.size, 0, none⟩ v') := ⟨hsz, fun b hb hl => ⟨keep b hl.lt hb.2.1 hb.2.2, hb.1, hb.2.1, fun e => (hat b e).elim hb.2.2 (fun h => by have := hl.lt; omega)⟩⟩
  have f2 : Fr (fun b => m ≤ b) (OffS w.heap.size w.heap.size v') X (Y.setCell ⟨w.heap.size, 0, none⟩ v') := ⟨hsz, fun b hb hl => by
    have hne : y.ownBlock ≠ some b := fun e => by have := hmy b e; omega
    exact ⟨keep b hl.lt (by omega) hne, by omega, by omega, fun e => (hat b e).elim hne (fun h => by have := hl.lt; omega)⟩⟩
  have f0 : Fr (OffS w.heap.size w.heap.size y) (OffS w.heap.size w.heap.size y) W X := Fr.of_below hX (fun b hb _ => hb)
  have hr' : (Y.setCell ⟨w.heap.size, 0, none⟩ v').ownsRow w.heap.size 32 6 v' _ _ := owns_same hr (fun g hg' => Below.heap_setCell _ _ _ _ (fun e => hvQ (by simp at e; rw [← e]; exact hg')))
  refine ⟨blk_put ((show Blk Y _ _ _ from (hg.block _ hQX (fun e => oQ e.symm)).trans hS.q)) 0 v', ?_, ?_⟩
  · exact und_push (ptT_stays 0) h2 h3 (fun j c x hj hx => ptT_stays 0 _ _ _ _ _ _ (h4 j c x hj hx) f0) (by rw [List.length_cons, hl]) ⟨cells, rfl, hc.fr f2 (fun _ _ hq => SelsAt.fr 0 hq f2)⟩ f hr'
  · have b1 : Below w.heap.size w Y := hS.bl.grown hg hS.bl.size (fun r e => (hS.r.lt e).1)
    exact b1.setCell (p := ⟨w.heap.size, 0, none⟩) (Nat.le_refl _) _
/-- The selector is done. -/
theorem MnSt.done {w : World} {s : Sel} {y : Value} {W : World} (h : MnSt w s y W) : PartsR 8 W.heap.size W y s := by
  have hd := h.r.done (P' := fun b => w.heap.size ≤ b) (by decide) (ptT_stays 0) (fun b hb => hb.1) (fun g hg => (h.r.lt hg).1)
  exact PtsF.toR hd (fun x l hx => by obtain ⟨rfl, rfl⟩ := hx; exact SelsR.nil _ _ _)
theorem flat_strs : ∀ l : List ByteArray, (l.map fun x => [Value.string x]).flatten = l.map Value.string
  | [] => rfl
  | x :: l => by rw [List.map_cons, List.flatten_cons, flat_strs l]; rfl
/-- A row of texts that is done. -/
theorem strs_done {W : World} {b n : Nat} {v : Value} {l : List ByteArray} (h : W.ownsRow b 9 1 v l.length (l.map Value.string)) (hb : n ≤ b) : StrsF (fun c => n ≤ c) W v l := by
  have hu : UndRow 9 1 StrT b (fun _ => False) W v l := ⟨l.map (fun x => [Value.string x]), by rw [flat_strs]; exact h, by simp, fun c hc => by obtain ⟨x, _, rfl⟩ := List.mem_map.1 hc; rfl, fun j c x hc hx => by
    rw [List.getElem?_map, hx] at hc
    exact (Option.some.inj hc).symm⟩
  exact hu.done (P' := fun c => n ≤ c) (by decide) strT_stays (fun _ h => h.elim) (fun g hg => by have := (owns_lt h hg).1; omega)

/-! ### what it weighs -/
def xT : ByteArray := ⟨#[120]⟩
def aT : ByteArray := ⟨#[97]⟩
def firstM (ids classes : Nat) : Pt := (0, .mk aT (List.replicate ids xT) (List.replicate classes xT) [] [])
def restM : Pt := (1, .mk aT [] [] [] [])
def selM (ids classes : Nat) : Nat → Sel
  | 0 => []
  | k + 1 => firstM ids classes :: List.replicate k restM
theorem selM_next (ids classes k : Nat) : selM ids classes (k + 1) = selM ids classes k ++ [if k = 0 then firstM ids classes else restM] := by
  cases k with
  | zero => rfl
  | succ k =>
    simp only [selM, List.cons_append]
    rw [if_neg (by omega), ← List.replicate_succ']
theorem selM_len (ids classes k : Nat) : (selM ids classes k).length = k := by
  cases k with
  | zero => rfl
  | succ k => simp [selM]
theorem gr_min (a b : Nat) : gr a b = min (a + b) 255 := by unfold gr; split <;> omega
theorem names_rest : namesV restM.2 = ⟨0, 0, 1⟩ := rfl
theorem names_first (ids classes : Nat) : namesV (firstM ids classes).2 = ⟨min ids 255, min classes 255, 1⟩ := by
  have h : namesV (firstM ids classes).2 = ⟨gr 0 (List.replicate ids xT).length, gr (gr 0 (List.replicate classes xT).length) 0, 1⟩ := rfl
  rw [h, List.length_replicate, List.length_replicate, gr_min, gr_min, gr_min]
  simp only [Sm.mk.injEq, and_true]
  omega
theorem fold_rest (G : List Sel → Sm) : ∀ (k : Nat) (o : Sm), o.ok → (List.replicate k restM).foldl (fun o p => compS G o p.2) o = ⟨o.i, o.c, min (o.t + k) 255⟩
  | 0, ⟨i, c, t⟩, h => by
    obtain ⟨_, _, h⟩ := h
    simp only at h
    simp only [List.replicate_zero, List.foldl_nil, Sm.mk.injEq, true_and]
    omega
  | k + 1, ⟨i, c, t⟩, h => by
    obtain ⟨h1, h2, h3⟩ := h
    simp only at h1 h2 h3
    have e : compS G ⟨i, c, t⟩ restM.2 = ⟨i, c, min (t + 1) 255⟩ := by
      have e1 : compS G ⟨i, c, t⟩ restM.2 = withV ⟨i, c, t⟩ (namesV restM.2) := rfl
      rw [e1, names_rest]
      unfold withV
      simp only [gr_min, Sm.mk.injEq, and_true]
      omega
    have ih := fold_rest G k ⟨i, c, min (t + 1) 255⟩ ⟨h1, h2, by simp only; omega⟩
    rw [List.replicate_succ, List.foldl_cons]
    show (List.replicate k restM).foldl _ (compS G ⟨i, c, t⟩ restM.2) = _
    rw [e, ih]
    simp only [Sm.mk.injEq, true_and]
    omega
theorem selM_weight (ids classes tags : Nat) (ht : 1 ≤ tags) : ofV (selM ids classes tags) = 65536 * min ids 255 + 256 * min classes 255 + min tags 255 := by
  obtain ⟨k, rfl⟩ : ∃ k, tags = k + 1 := ⟨tags - 1, by omega⟩
  have e : compS (greatV 8) Sm.zero (firstM ids classes).2 = ⟨min ids 255, min classes 255, 1⟩ := by
    have e1 : compS (greatV 8) Sm.zero (firstM ids classes).2 = withV Sm.zero (namesV (firstM ids classes).2) := rfl
    rw [e1, names_first]
    unfold withV Sm.zero
    simp only [gr_min, Sm.mk.injEq]
    omega
  have h := fold_rest (greatV 8) k ⟨min ids 255, min classes 255, 1⟩ ⟨by simp only; omega, by simp only; omega, by simp⟩
  unfold ofV sumsV
  rw [selM, List.foldl_cons]
  show weightV ((List.replicate k restM).foldl _ (compS (greatV 8) Sm.zero (firstM ids classes).2)) = _
  rw [e, h]
  unfold weightV
  simp only
  omega

end Go.Proofs.Ytgjjedodbgimfaa.Wg
