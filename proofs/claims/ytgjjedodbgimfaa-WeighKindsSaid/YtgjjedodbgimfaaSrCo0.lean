/- The document's own reader of selectors: a compound under way; the plain side, by places. -/
import Derived.Test.YtgjjedodbgimfaaSrPs
import Derived.Test.YtgjjedodbgimfaaSlCu
namespace Go.Proofs.Ytgjjedodbgimfaa.Sr
open Go.Proofs.Ytgjjedodbgimfaa.Tre
open Go Go.RowKit Sl

theorem infoCp : (Try.prog.info? 30).map (·.size) = some 5 := by kernel_rfl
theorem load_cp {w : World} {g : Nat} {a b c d e : Value} (h : Blk w g 30 [a, b, c, d, e]) : (loadVar 30 ⟨g, 0, none⟩).run Try.prog w = .ok (.agg #[a, b, c, d, e]) w :=
  run_loadVar_row w g _ 30 #[a, b, c, d, e] (0, 0) _ h Try.underlying30 rfl infoCp
theorem Cp.addId_len (c : Cp) (x : ByteArray) : (c.addId x).ids.length = c.ids.length + 1 ∧ (c.addId x).classes.length = c.classes.length ∧ (c.addId x).attrs.length = c.attrs.length ∧ (c.addId x).pss.length = c.pss.length := by cases c; simp [Cp.addId, Cp.ids, Cp.classes, Cp.attrs, Cp.pss]
theorem Cp.addClass_len (c : Cp) (x : ByteArray) : (c.addClass x).ids.length = c.ids.length ∧ (c.addClass x).classes.length = c.classes.length + 1 ∧ (c.addClass x).attrs.length = c.attrs.length ∧ (c.addClass x).pss.length = c.pss.length := by cases c; simp [Cp.addClass, Cp.ids, Cp.classes, Cp.attrs, Cp.pss]
theorem Cp.addAttr_len (c : Cp) (x : At) : (c.addAttr x).ids.length = c.ids.length ∧ (c.addAttr x).classes.length = c.classes.length ∧ (c.addAttr x).attrs.length = c.attrs.length + 1 ∧ (c.addAttr x).pss.length = c.pss.length := by cases c; simp [Cp.addAttr, Cp.ids, Cp.classes, Cp.attrs, Cp.pss]
theorem Cp.addPs_len (c : Cp) (x : Ps) : (c.addPs x).ids.length = c.ids.length ∧ (c.addPs x).classes.length = c.classes.length ∧ (c.addPs x).attrs.length = c.attrs.length ∧ (c.addPs x).pss.length = c.pss.length + 1 := by cases c; simp [Cp.addPs, Cp.ids, Cp.classes, Cp.attrs, Cp.pss]
/-- None of its rows is longer than m. -/
def Small (c : Cp) (m : Nat) : Prop := c.ids.length ≤ m ∧ c.classes.length ≤ m ∧ c.attrs.length ≤ m ∧ c.pss.length ≤ m
theorem unitV_small {L : Inner} {c c' : Cp} {t : Bt} {r r' : List Bt} {m : Nat} (h : unitV L c t r = some (c', r')) (hs : Small c m) : Small c' (m + 1) := by
  obtain ⟨h1, h2, h3, h4⟩ := hs
  unfold unitV at h
  unfold Small
  split at h
  · cases h
    obtain ⟨e1, e2, e3, e4⟩ := Cp.addId_len c t.text
    omega
  · split at h
    · obtain ⟨x, _, e⟩ := Option.map_eq_some_iff.1 h
      cases e
      obtain ⟨e1, e2, e3, e4⟩ := Cp.addAttr_len c x.1
      omega
    · split at h
      · obtain ⟨x, _, e⟩ := Option.map_eq_some_iff.1 h
        cases e
        obtain ⟨e1, e2, e3, e4⟩ := Cp.addPs_len c x.1
        omega
      · split at h
        · rename_i nn _
          split at h
          · cases h
            obtain ⟨e1, e2, e3, e4⟩ := Cp.addClass_len c nn.text
            omega
          · cases h
        · cases h
theorem infoStr3 : (Try.prog.info? 9).map (fun i => (i.zero, i.size, i.bytes)) = some (some (.string ⟨#[]⟩), 1, 16) := by kernel_rfl
theorem infoAt3 : (Try.prog.info? 38).map (fun i => (i.zero, i.size, i.bytes)) = some (some (.agg #[.string ⟨#[]⟩, .int .i64 0, .string ⟨#[]⟩]), 3, 40) := by kernel_rfl
theorem infoPs3 : (Try.prog.info? 41).map (fun i => (i.zero, i.size, i.bytes)) = some (some (.agg #[.int .i64 0, .int .i64 0, .int .i64 0, .slice none 0 0]), 4, 48) := by kernel_rfl
theorem unit_class {L : Inner} {c : Cp} {t : Bt} {ts : List Bt} {a : Nat} (h3 : ¬ t.kind = 3) (h18 : ¬ t.kind = 18) (h11 : ¬ t.kind = 11) : unitV L c t (ts.drop a) = if (at' ts a).kind = 1 then some (c.addClass (at' ts a).text, ts.drop (a + 1)) else none := by
  unfold unitV
  rw [if_neg h3, if_neg h18, if_neg h11]
  by_cases hl : a < ts.length
  · rw [at_cons hl]
  · have hz := at_none (ts := ts) (a := a) (by omega)
    rw [hz.1, hz.2]
    rfl
theorem cells_drew (w : World) (l : List Value) (ty : TypeId) : ∀ j u, l[j]? = some u → (w.alloc (.cells l.toArray ty)).drew.cell? ((⟨w.heap.size, 0, none⟩ : Addr).add j) = some u := fun j u hj => by
  rw [show (⟨w.heap.size, 0, none⟩ : Addr).add j = ⟨w.heap.size, j, none⟩ by cases j with | zero => rfl | succ j => simp [Addr.add]]
  show (w.alloc (.cells l.toArray ty)).cell? _ = _
  rw [cell_of_block (heap_alloc_new w _) j]
  simpa using hj
theorem cells_plain (w : World) (l : List Value) (ty : TypeId) : ∀ j u, l[j]? = some u → (w.alloc (.cells l.toArray ty)).cell? ((⟨w.heap.size, 0, none⟩ : Addr).add j) = some u := cells_drew w l ty
theorem units_no {L : Inner} {f : Nat} {c : Cp} {ts : List Bt} {a : Nat} (hf : (ts.drop a).length < f) (h : begU (at' ts a) = false) : unitsV L f c (ts.drop a) = some (c, ts.drop a) := by
  obtain ⟨f, rfl⟩ : ∃ g, f = g + 1 := ⟨f - 1, by omega⟩
  by_cases hl : a < ts.length
  · rw [at_cons hl]
    simp only [unitsV, h, Bool.false_eq_true, if_false]
  · rw [List.drop_eq_nil_of_le (by omega)]
    rfl
theorem begU_lt {ts : List Bt} {a : Nat} (h : begU (at' ts a) = true) : a < ts.length := at_lt (fun e => by
  unfold begU isSg at h
  simp [e] at h)
theorem units_yes {L : Inner} {f : Nat} {c : Cp} {ts : List Bt} {a : Nat} (hf : (ts.drop a).length < f) (h : begU (at' ts a) = true) : ∃ g, (ts.drop (a + 1)).length < g ∧ unitsV L f c (ts.drop a) = (unitV L c (at' ts a) (ts.drop (a + 1))).bind fun x => unitsV L g x.1 x.2 := by
  obtain ⟨f, rfl⟩ : ∃ g, f = g + 1 := ⟨f - 1, by omega⟩
  have hl := begU_lt h
  refine ⟨f, ?_, ?_⟩
  · rw [List.length_drop] at hf ⊢
    omega
  · rw [at_cons hl]
    simp only [unitsV, h, if_true]

theorem comp_yes {L : Inner} {ts : List Bt} {a0 b0 b : Nat} {tg : ByteArray} {c : Cp} (h1 : (tagV (ts.drop a0)).1 = tg) (h2 : (tagV (ts.drop a0)).2 = ts.drop b0) (h : unitsV L ((ts.drop a0).length + 1) (.mk tg [] [] [] []) (ts.drop b0) = some (c, ts.drop b)) (hb : b ≤ ts.length) (hlt : a0 < b) : compV L (ts.drop a0) = some (c, ts.drop b) := by
  unfold compV
  rw [h1, h2, h]
  simp only [Option.bind_some, List.length_drop]
  rw [if_pos (by omega)]
theorem comp_no {L : Inner} {ts : List Bt} {a0 b0 b : Nat} {tg : ByteArray} {c : Cp} (h1 : (tagV (ts.drop a0)).1 = tg) (h2 : (tagV (ts.drop a0)).2 = ts.drop b0) (h : unitsV L ((ts.drop a0).length + 1) (.mk tg [] [] [] []) (ts.drop b0) = some (c, ts.drop b)) (hlt : ¬ a0 < b) : compV L (ts.drop a0) = none := by
  unfold compV
  rw [h1, h2, h]
  simp only [Option.bind_some, List.length_drop]
  rw [if_neg (by omega)]
theorem comp_none {L : Inner} {ts : List Bt} {a0 b0 : Nat} {tg : ByteArray} (h1 : (tagV (ts.drop a0)).1 = tg) (h2 : (tagV (ts.drop a0)).2 = ts.drop b0) (h : unitsV L ((ts.drop a0).length + 1) (.mk tg [] [] [] []) (ts.drop b0) = none) : compV L (ts.drop a0) = none := by
  unfold compV
  rw [h1, h2, h]
  rfl

theorem slot_own {g m c : Nat} {q : Nat} (h : (Value.slice (some ⟨g, 0, none⟩) m c).ownBlock = some q) : q = g := by simpa [Value.ownBlock] using h.symm
abbrev nilS : Value := .slice none 0 0
/-- Where compound stands: its result, its own c, the reader. -/
structure CmSt (n₀ R : Nat) (v : Value) (ts : List Bt) (d : Nat) (w : World) (c : Cp) (i k a p : Value) (b : Nat) (bad : Bool) (W : World) : Prop where
  z : Blk W w.heap.size 30 [.string ⟨#[]⟩, nilS, nilS, nilS, nilS]
  u : CUx d (w.heap.size + 1) W (w.heap.size + 1) c i k a p
  pk : Pk n₀ W R v ts b bad (8 - (d : Int))
  but : But R w W
  hR : R < w.heap.size
section
variable {n₀ R : Nat} {v : Value} {ts : List Bt} {d : Nat} {w : World} {c : Cp} {i k a p : Value} {b : Nat} {bad : Bool} {W W' : World}
theorem CmSt.below (h : CmSt n₀ R v ts d w c i k a p b bad W) (hb : Below W.heap.size W W') : CmSt n₀ R v ts d w c i k a p b bad W' := ⟨h.z.below hb h.z.lt, h.u.below hb, h.pk.below hb, h.but.trans (But.of_below hb), h.hR⟩
theorem CmSt.go (h : CmSt n₀ R v ts d w c i k a p b bad W) {b' : Nat} {bad' : Bool} (hP : Pk n₀ W' R v ts b' bad' (8 - (d : Int))) (hb : But R W W') : CmSt n₀ R v ts d w c i k a p b' bad' W' := by
  have := h.hR
  exact ⟨hb.blk h.z (by omega), h.u.but hb (by omega), hP, h.but.trans hb, h.hR⟩
theorem CmSt.at (h : CmSt n₀ R v ts d w c i k a p b bad W) {b' : Nat} (hb : b' ≤ ts.length + 10) : CmSt n₀ R v ts d w c i k a p b' bad (W.setCell ⟨R, 1, none⟩ (.int .i64 b')) := h.go (h.pk.set hb) (But.set R W 1 _)
theorem CmSt.spoil (h : CmSt n₀ R v ts d w c i k a p b bad W) (q : Bool) : CmSt n₀ R v ts d w c i k a p b q (W.setCell ⟨R, 2, none⟩ (.bool q)) := h.go (h.pk.spoil q) (But.set R W 2 _)
/-- All but the compound, behind an append to a row of it and the store. -/
theorem CmSt.row (h : CmSt n₀ R v ts d w c i k a p b bad W) {X Y : World} (hX : Below W.heap.size W X) {r : Option Nat} (hg : X.grownBy Y r) (hr : ∀ g, r = some g → w.heap.size + 1 ≤ g) (j : Nat) (q : Value) {c' : Cp} {i' k' a' p' : Value} (hu : CUx d (w.heap.size + 1) (Y.setCell ⟨w.heap.size + 1, j, none⟩ q) (w.heap.size + 1) c' i' k' a' p') : CmSt n₀ R v ts d w c' i' k' a' p' b bad (Y.setCell ⟨w.heap.size + 1, j, none⟩ q) := by
  have h1 := h.hR
  have h2 := h.pk.low
  have hS := h.below hX
  have kY : Kept (fun b => b < w.heap.size + 1) X Y := Kept.of_grown hg (fun g e hlt => by have := hr g e; omega)
  have kZ : Kept (fun b => b < w.heap.size + 1) X (Y.setCell ⟨w.heap.size + 1, j, none⟩ q) := kY.trans (Kept.setCell Y _ q (by simp))
  refine ⟨kZ.blk hS.z (by omega), hu, ⟨kZ.blk hS.pk.blk (by omega), hS.pk.toks.below (kZ.below (Nat.le_trans hS.pk.low (Nat.le_of_lt hS.pk.lt)) (fun b hb => by omega)), hS.pk.low, hS.pk.least, hS.pk.most⟩, ?_, h1⟩
  exact ⟨kZ.os.trans hS.but.os, kZ.tape.trans hS.but.tape, kZ.output.trans hS.but.output, Nat.le_trans hS.but.size kZ.size, fun j hj hne => (kZ.block j (Nat.lt_of_lt_of_le hj hS.but.size) (by omega)).trans (hS.but.block j hj hne)⟩
end
end Go.Proofs.Ytgjjedodbgimfaa.Sr
