/- package match: where isAhead's loops stand. -/
import Derived.Test.YtgjfapdnobhkcabMtIsA
import Derived.OwnWalkIn
import Derived.Maps.OwnIn
namespace Go.Proofs.Ytgjfapdnobhkcab.Mt
open Go Go.RowKit Go.Shelf Dm

/-- What isUpTo answers of one that is asked. -/
def UpToK (E : Env) (A f : Nat) (s : Sel) (pv : Value) (k : Nat) : Prop := ∀ (γ : Ghost) (W : World), Inv E γ W → γ A = some (.asked s pv f) → ∀ x : Nat, x < E.qs.length →
  Calls Try.prog 40 #[.pointer (some ⟨A, 0, none⟩), .int .i64 k, .int .i64 x] W fun r W' => r = .returned (.bool (uptoV (anyV E.es f) E.es s k x)) ∧ ∃ γ', Step E γ W γ' W'

/-- Off its end, and in no other way. -/
def onlyN (K : Act → World → Prop) : Exit → Act → World → Prop
  | .normal, a, w => K a w
  | _, _, _ => False
theorem wpIn_onlyN {F : Fence} {n : Nat} {P : Program} {c : Code} {Q : Exit → Act → World → Prop} {a : Act} {w : World} (h : c.wpIn F n P (onlyN (fun a w => Q .normal a w)) a w) : c.wpIn F n P Q a w :=
  wpIn_mono h (fun e a w h => by cases e <;> first | exact h | exact h.elim)
/-- Where the loop over the elements ahead stands. -/
structure Loop (E : Env) (V B : Nat) (γ1 : Ghost) (X1 : World) (ps : List Nat) (u : Int) (pw : Value) (γ' : Ghost) (X : World) : Prop where
  st : Step E γ1 X1 γ' X
  free : ∀ b, X1.heap.size ≤ b → b < B + 8 → γ' b = .none
  fo : Boxed X B 111 (.slice (some ⟨V, 0, none⟩) E.qs.length E.qs.length)
  vb : Boxed X (B + 1) 113 (.int .u8 u)
  pb : Boxed X (B + 2) 48 pw
  row : IntRow (B + 8) X pw (chI ps)
  rowf : ∀ g, pw.ownBlock = some g → γ' g = .none
  base : B = X1.heap.size
  here : B + 6 ≤ X.heap.size
  low : E.n₀ ≤ X1.heap.size

section
variable {E : Env} {V B : Nat} {γ1 : Ghost} {X1 : World} {ps : List Nat} {u : Int} {pw : Value} {γ' : Ghost} {X Y : World}

theorem box_grown {t : TypeId} {v : Value} {b : Nat} {row : Option Nat} (h : Boxed X b t v) (hg : X.grownBy Y row) (hne : some b ≠ row) : Boxed Y b t v := h.kept hg hne
/-- Blocks of the loop's own, and new ones, may turn. -/
theorem Loop.abide (h : Loop E V B γ1 X1 ps u pw γ' X) {row : Option Nat} (hg : X.grownBy Y row) (hr : ∀ b, row = some b → B + 6 ≤ b ∧ b < B + 8) : Loop E V B γ1 X1 ps u pw γ' Y := by
  have far : ∀ b, b < B + 6 → some b ≠ row := fun b hb e => by have := hr b e.symm; omega
  refine ⟨h.st.aside hg (fun b e => ⟨by have := hr b e; have := h.base; omega, h.free b (by have := hr b e; have := h.base; omega) (hr b e).2⟩) h.low, h.free, h.fo.kept hg (far _ (by omega)), h.vb.kept hg (far _ (by omega)), h.pb.kept hg (far _ (by omega)), ?_, h.rowf, h.base, Nat.le_trans h.here hg.size, h.low⟩
  refine owns_same h.row (fun g hgb => hg.block g (owns_lt h.row hgb).2 (fun e => ?_))
  have := (owns_lt h.row hgb).1
  have := hr g e.symm
  omega
/-- A step of somebody else's. -/
theorem Loop.step (h : Loop E V B γ1 X1 ps u pw γ' X) {γ'' : Ghost} (hs : Step E γ' X γ'' Y) (h8 : B + 8 ≤ X.heap.size) : Loop E V B γ1 X1 ps u pw γ'' Y := by
  have fr : ∀ b, X1.heap.size ≤ b → b < B + 8 → γ'' b = .none := fun b h1 h2 => hs.none (by omega) (h.free b h1 h2)
  have bx : ∀ {t : TypeId} {v : Value} {b : Nat}, Boxed X b t v → X1.heap.size ≤ b → b < B + 8 → Boxed Y b t v := fun hb h1 h2 => (hs.block _ hb.lt (h.free _ h1 h2)).trans hb
  have hB := h.base
  refine ⟨h.st.trans hs, fr, bx h.fo (by omega) (by omega), bx h.vb (by omega) (by omega), bx h.pb (by omega) (by omega), owns_same h.row (fun g hgb => hs.block g (owns_lt h.row hgb).2 (h.rowf g hgb)), fun g hgb => hs.none (owns_lt h.row hgb).2 (h.rowf g hgb), h.base, Nat.le_trans h.here hs.size, h.low⟩
/-- The verdict that is told. -/
theorem Loop.setV (h : Loop E V B γ1 X1 ps u pw γ' X) (v : Int) : Loop E V B γ1 X1 ps v pw γ' (X.setCell ⟨B + 1, 0, none⟩ (.int .u8 v)) := by
  have hg := grownBy_setCell' X (B + 1) (.int .u8 v)
  have hB := h.base
  refine ⟨h.st.aside hg (fun b e => by cases e; exact ⟨by omega, h.free _ (by omega) (by omega)⟩) h.low, h.free, h.fo.kept hg (by simp), h.vb.set _, h.pb.kept hg (by simp), ?_, h.rowf, h.base, Nat.le_trans h.here hg.size, h.low⟩
  exact owns_same h.row (fun g hgb => hg.block g (owns_lt h.row hgb).2 (fun e => by cases e; have := (owns_lt h.row hgb).1; omega))
/-- One more that was passed. -/
theorem Loop.push (h : Loop E V B γ1 X1 ps u pw γ' X) (h8 : B + 8 ≤ X.heap.size) {o : Obj} {y : Nat} {pw' : Value} {w2 : World}
    (hown : w2.ownsRow (B + 8) 3 1 pw' ((chI ps).length + 1) ((chI ps).map (Value.int .i64) ++ [.int .i64 (y : Int)])) (hg : (X.alloc o).grownBy w2 pw.ownBlock) (hat : pw'.ownBlock = pw.ownBlock ∨ pw'.ownBlock = some (X.alloc o).heap.size) :
    Loop E V B γ1 X1 (ps ++ [y]) u pw' γ' (w2.setCell ⟨B + 2, 0, none⟩ pw') ∧ Boxed w2 (B + 2) 48 pw := by
  have hB := h.base
  have hA := h.abide (Y := X.alloc o) (World.grownBy_alloc X o none) (fun _ e => by cases e)
  have ne : ∀ b, b < B + 8 → some b ≠ pw.ownBlock := fun b hb e => by have := (owns_lt h.row e.symm).1; omega
  have g2 := grownBy_setCell' w2 (B + 2) pw'
  have p2 := hA.pb.kept hg (ne _ (by omega))
  have new' : γ' (X.alloc o).heap.size = .none := hA.st.inv.new (Nat.le_refl _)
  have st2 : Step E γ1 X1 γ' w2 := hA.st.aside hg (fun b e => ⟨by have := (owns_lt h.row e).1; omega, h.rowf b e⟩) h.low
  have rf : ∀ g, pw'.ownBlock = some g → γ' g = .none := fun g e => by
    rcases hat with h1 | h1
    · exact h.rowf g (h1.symm.trans e)
    · rw [h1] at e; cases e; exact new'
  refine ⟨⟨st2.aside g2 (fun b e => by cases e; exact ⟨by omega, h.free _ (by omega) (by omega)⟩) h.low, h.free, (hA.fo.kept hg (ne _ (by omega))).kept g2 (by simp), (hA.vb.kept hg (ne _ (by omega))).kept g2 (by simp), p2.set _, ?_, rf, h.base, ?_, h.low⟩, p2⟩
  · have e1 : chI (ps ++ [y]) = chI ps ++ [(y : Int)] := by simp [chI]
    unfold IntRow
    rw [e1, List.length_append, List.length_singleton, List.map_append]
    exact owns_same hown (fun g hgb => g2.block g (owns_lt hown hgb).2 (fun e => by cases e; have := (owns_lt hown hgb).1; omega))
  · have := h.here
    have h1 := hg.size
    have h2 := g2.size
    rw [World.size_alloc] at h1
    omega
/-- A verdict in the table. -/
theorem Loop.look (h : Loop E V B γ1 X1 ps u pw γ' X) {A k f : Nat} {s : Sel} {pv : Value} (hV : γ' V = some (.verd A k)) (hA : γ' A = some (.asked s pv f)) {y : Nat} (hy : y < E.qs.length) :
    ∃ v, X.cell? ⟨V, y, none⟩ = some (.int .u8 v) ∧ X.frozen? ⟨V, y, none⟩ = false ∧ (v = 0 ∨ (v = 1 ∧ vdV E f s k y = true) ∨ (v = 2 ∧ vdV E f s k y = false)) := by
  obtain ⟨_, o, ho, s', pv', f', hA', vs, rfl, h1, h2⟩ := h.st.inv.each V _ hV
  rw [hA] at hA'
  cases hA'
  have hv : vs[y]? = some (vs[y]'(by omega)) := List.getElem?_eq_getElem (by omega)
  have kV : Blk X V 113 (vs.map (Value.int .u8)) := ho
  obtain ⟨c, fz⟩ := cell_row kV (show (vs.map (Value.int .u8))[y]? = some (.int .u8 vs[y]) by rw [List.getElem?_map, hv]; rfl)
  exact ⟨_, c, fz, h2 y _ hv⟩
theorem Loop.note (h : Loop E V B γ1 X1 ps u pw γ' X) {A k f : Nat} {s : Sel} {pv : Value} (hV : γ' V = some (.verd A k)) (hA : γ' A = some (.asked s pv f)) {y : Nat} (hok : (u = 1 ∧ vdV E f s k y = true) ∨ (u = 2 ∧ vdV E f s k y = false)) :
    Loop E V B γ1 X1 ps u pw γ' (X.setCell ⟨V, y, none⟩ (.int .u8 u)) := by
  obtain ⟨_, o, ho, s', pv', f', hA', vs, rfl, h1, h2⟩ := h.st.inv.each V _ hV
  rw [hA] at hA'
  cases hA'
  have kV : Blk X V 113 (vs.map (Value.int .u8)) := ho
  have k2 := blk_put kV y (.int .u8 u)
  have hg := grown_set X V y (.int .u8 u)
  have hB := h.base
  have e1 : (vs.map (Value.int .u8)).set y (.int .u8 u) = (vs.set y u).map (Value.int .u8) := by rw [List.map_set]
  rw [e1] at k2
  have hs := h.st.inv.put hV hg k2 ⟨s, pv, f, hA, _, rfl, by simp [h1], fun x v hv => by
    rcases set_at hv with ⟨rfl, rfl⟩ | ⟨_, hv⟩
    · exact .inr hok
    · exact h2 x v hv⟩
  have ne : ∀ b, X1.heap.size ≤ b → b < B + 8 → some b ≠ some V := fun b h1 h2 e => by cases e; rw [h.free V h1 h2] at hV; cases hV
  refine ⟨h.st.trans hs, h.free, h.fo.kept hg (ne _ (by omega) (by omega)), h.vb.kept hg (ne _ (by omega) (by omega)), h.pb.kept hg (ne _ (by omega) (by omega)), ?_, h.rowf, h.base, Nat.le_trans h.here hg.size, h.low⟩
  exact owns_same h.row (fun g hgb => hg.block g (owns_lt h.row hgb).2 (fun e => by cases e; rw [h.rowf V hgb] at hV; cases hV))
end

end Go.Proofs.Ytgjfapdnobhkcab.Mt
