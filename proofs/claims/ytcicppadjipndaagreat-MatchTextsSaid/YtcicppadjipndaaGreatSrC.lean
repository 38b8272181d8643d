/- The document's own reader of selectors: a compound under way; the plain side, by places. -/
import Derived.Test.YtcicppadjipndaaGreatSrPs
import Derived.Test.YtcicppadjipndaaGreatSlCu
namespace Go.Proofs.YtcicppadjipndaaGreat.Sr
open Go.Proofs.YtcicppadjipndaaGreat.Tre
open Go Go.RowKit Sl

theorem infoCp : (Tryz.prog.info? 45).map (·.size) = some 5 := by kernel_rfl
theorem load_cp {w : World} {g : Nat} {a b c d e : Value} (h : Blk w g 45 [a, b, c, d, e]) : (loadVar 45 ⟨g, 0, none⟩).run Tryz.prog w = .ok (.agg #[a, b, c, d, e]) w :=
  run_loadVar_row w g _ 45 #[a, b, c, d, e] (0, 0) _ h Tryz.underlying45 rfl infoCp
theorem Cp.addId_len (c : Cp) (x : ByteArray) : (c.addId x).ids.length = c.ids.length + 1 ∧ (c.addId x).classes.length = c.classes.length ∧ (c.addId x).attrs.length = c.attrs.length ∧ (c.addId x).pss.length = c.pss.length := by cases c; simp [Cp.addId, Cp.ids, Cp.classes, Cp.attrs, Cp.pss]
theorem Cp.addClass_len (c : Cp) (x : ByteArray) : (c.addClass x).ids.length = c.ids.length ∧ (c.addClass x).classes.length = c.classes.length + 1 ∧ (c.addClass x).attrs.length = c.attrs.length ∧ (c.addClass x).pss.length = c.pss.length := by cases c; simp [Cp.addClass, Cp.ids, Cp.classes, Cp.attrs, Cp.pss]
theorem Cp.addAttr_len (c : Cp) (x : At) : (c.addAttr x).ids.length = c.ids.length ∧ (c.addAttr x).classes.length = c.classes.length ∧ (c.addAttr x).attrs.length = c.attrs.length + 1 ∧ (c.addAttr x).pss.length = c.pss.length := by cases c; simp [Cp.addAttr, Cp.ids, Cp.classes, Cp.attrs, Cp.pss]
theorem Cp.addPs_len (c : Cp) (x : Ps) : (c.addPs x).ids.length = c.ids.length ∧ (c.addPs x).classes.length = c.classes.length ∧ (c.addPs x).attrs.length = c.attrs.length ∧ (c.addPs x).pss.length = c.pss.length + 1 := by cases c; simp [Cp.addPs, Cp.ids, Cp.classes, Cp.attrs, Cp.pss]
/-- None of its rows is longer than m. -/
def Small (c : Cp) (m : Nat) : Prop := c.ids.length ≤ m ∧ c.classes.length ≤ m ∧ c.attrs.length ≤ m ∧ c.pss.length ≤ m
theorem unitV_small {L : Inner} {c c' : Cp} {t : Bt} {r r' : List Bt} {m : Nat} (h : unitV L c t r = some (c', r')) (hs : Small c m) : Small c' (m + 1) := by
  obtain ⟨h1, h2, h3, h4⟩ := hs
  unfold unitV at h
  unfold Small
  split at h
  · cases h
    obtain ⟨e1, e2, e3, e4⟩ := Cp.addId_len c t.text
    omega
  · split at h
    · obtain ⟨x, _, e⟩ := Option.map_eq_some_iff.1 h
      cases e
      obtain ⟨e1, e2, e3, e4⟩ := Cp.addAttr_len c x.1
      omega
    · split at h
      · obtain ⟨x, _, e⟩ := Option.map_eq_some_iff.1 h
        cases e
        obtain ⟨e1, e2, e3, e4⟩ := Cp.addPs_len c x.1
        omega
      · split at h
        · rename_i nn _
          split at h
          · cases h
            obtain ⟨e1, e2, e3, e4⟩ := Cp.addClass_len c nn.text
            omega
          · cases h
        · cases h
theorem infoStr3 : (Tryz.prog.info? 9).map (fun i => (i.zero, i.size, i.bytes)) = some (some (.string ⟨#[]⟩), 1, 16) := by kernel_rfl
theorem infoAt3 : (Tryz.prog.info? 150).map (fun i => (i.zero, i.size, i.bytes)) = some (some (.agg #[.string ⟨#[]⟩, .int .i64 0, .string ⟨#[]⟩]), 3, 40) := by kernel_rfl
theorem infoPs3 : (Tryz.prog.info? 40).map (fun i => (i.zero, i.size, i.bytes)) = some (some (.agg #[.int .i64 0, .int .i64 0, .int .i64 0, .slice none 0 0]), 4, 48) := by kernel_rfl
theorem unit_class {L : Inner} {c : Cp} {t : Bt} {ts : List Bt} {a : Nat} (h3 : ¬ t.kind = 3) (h18 : ¬ t.kind = 18) (h11 : ¬ t.kind = 11) : unitV L c t (ts.drop a) = if (at' ts a).kind = 1 then some (c.addClass (at' ts a).text, ts.drop (a + 1)) else none := by
  unfold unitV
  rw [if_neg h3, if_neg h18, if_neg h11]
  by_cases hl : a < ts.length
  · rw [at_cons hl]
  · have hz := at_none (ts := ts) (a := a) (by omega)
    rw [hz.1, hz.2]
    rfl
theorem cells_drew (w : World) (l : List Value) (ty : TypeId) : ∀ j u, l[j]? = some u → (w.alloc (.cells l.toArray ty)).drew.cell? ((⟨w.heap.size, 0, none⟩ : Addr).add j) = some u := fun j u hj => by
  rw [show (⟨w.heap.size, 0, none⟩ : Addr).add j = ⟨w.heap.size, j, none⟩ by cases j with | zero => rfl | succ j => simp [Addr.add]]
  show (w.alloc (.cells l.toArray ty)).cell? _ = _
  rw [cell_of_block (heap_alloc_new w _) j]
  simpa using hj
theorem cells_plain (w : World) (l : List Value) (ty : TypeId) : ∀ j u, l[j]? = some u → (w.alloc (.cells l.toArray ty)).cell? ((⟨w.heap.size, 0, none⟩ : Addr).add j) = some u := cells_drew w l ty
theorem units_no {L : Inner} {f : Nat} {c : Cp} {ts : List Bt} {a : Nat} (hf : (ts.drop a).length < f) (h : begU (at' ts a) = false) : unitsV L f c (ts.drop a) = some (c, ts.drop a) := by
  obtain ⟨f, rfl⟩ : ∃ g, f = g + 1 := ⟨f - 1, by omega⟩
  by_cases hl : a < ts.length
  · rw [at_cons hl]
    simp only [unitsV, h, Bool.false_eq_true, if_false]
  · rw [List.drop_eq_nil_of_le (by omega)]
    rfl
theorem begU_lt {ts : List Bt} {a : Nat} (h : begU (at' ts a) = true) : a < ts.length := at_lt (fun e => by
  unfold begU isSg at h
  simp [e] at h)
theorem units_yes {L : Inner} {f : Nat} {c : Cp} {ts : List Bt} {a : Nat} (hf : (ts.drop a).length < f) (h : begU (at' ts a) = true) : ∃ g, (ts.drop (a + 1)).length < g ∧ unitsV L f c (ts.drop a) = (unitV L c (at' ts a) (ts.drop (a + 1))).bind fun x => unitsV L g x.1 x.2 := by
  obtain ⟨f, rfl⟩ : ∃ g, f = g + 1 := ⟨f - 1, by omega⟩
  have hl := begU_lt h
  refine ⟨f, ?_, ?_⟩
  · rw [List.length_drop] at hf ⊢
    omega
  · rw [at_cons hl]
    simp only [unitsV, h, if_true]

theorem comp_yes {L : Inner} {ts : List Bt} {a0 b0 b : Nat} {tg : ByteArray} {c : Cp} (h1 : (tagV (ts.drop a0)).1 = tg) (h2 : (tagV (ts.drop a0)).2 = ts.drop b0) (h : unitsV L ((ts.drop a0).length + 1) (.mk tg [] [] [] []) (ts.drop b0) = some (c, ts.drop b)) (hb : b ≤ ts.length) (hlt : a0 < b) : compV L (ts.drop a0) = some (c, ts.drop b) := by
  unfold compV
  rw [h1, h2, h]
  simp only [Option.bind_some, List.length_drop]
  rw [if_pos (by omega)]
theorem comp_no {L : Inner} {ts : List Bt} {a0 b0 b : Nat} {tg : ByteArray} {c : Cp} (h1 : (tagV (ts.drop a0)).1 = tg) (h2 : (tagV (ts.drop a0)).2 = ts.drop b0) (h : unitsV L ((ts.drop a0).length + 1) (.mk tg [] [] [] []) (ts.drop b0) = some (c, ts.drop b)) (hlt : ¬ a0 < b) : compV L (ts.drop a0) = none := by
  unfold compV
  rw [h1, h2, h]
  simp only [Option.bind_some, List.length_drop]
  rw [if_neg (by omega)]
theorem comp_none {L : Inner} {ts : List Bt} {a0 b0 : Nat} {tg : ByteArray} (h1 : (tagV (ts.drop a0)).1 = tg) (h2 : (tagV (ts.drop a0)).2 = ts.drop b0) (h : unitsV L ((ts.drop a0).length + 1) (.mk tg [] [] [] []) (ts.drop b0) = none) : compV L (ts.drop a0) = none := by
  unfold compV
  rw [h1, h2, h]
  rfl

theorem slot_own {g m c : Nat} {q : Nat} (h : (Value.slice (some ⟨g, 0, none⟩) m c).ownBlock = some q) : q = g := by simpa [Value.ownBlock] using h.symm
abbrev nilS : Value := .slice none 0 0
/-- Where compound stands: its result, its own c, the reader. -/
structure CmSt (n₀ R : Nat) (v : Value) (ts : List Bt) (d : Nat) (w : World) (c : Cp) (i k a p : Value) (b : Nat) (bad : Bool) (W : World) : Prop where
  z : Blk W w.heap.size 45 [.string ⟨#[]⟩, nilS, nilS, nilS, nilS]
  u : CUx d (w.heap.size + 1) W (w.heap.size + 1) c i k a p
  pk : Pk n₀ W R v ts b bad (8 - (d : Int))
  but : But R w W
  hR : R < w.heap.size
section
variable {n₀ R : Nat} {v : Value} {ts : List Bt} {d : Nat} {w : World} {c : Cp} {i k a p : Value} {b : Nat} {bad : Bool} {W W' : World}
theorem CmSt.below (h : CmSt n₀ R v ts d w c i k a p b bad W) (hb : Below W.heap.size W W') : CmSt n₀ R v ts d w c i k a p b bad W' := ⟨h.z.below hb h.z.lt, h.u.below hb, h.pk.below hb, h.but.trans (But.of_below hb), h.hR⟩
theorem CmSt.go (h : CmSt n₀ R v ts d w c i k a p b bad W) {b' : Nat} {bad' : Bool} (hP : Pk n₀ W' R v ts b' bad' (8 - (d : Int))) (hb : But R W W') : CmSt n₀ R v ts d w c i k a p b' bad' W' := by
  have := h.hR
  exact ⟨hb.blk h.z (by omega), h.u.but hb (by omega), hP, h.but.trans hb, h.hR⟩
theorem CmSt.at (h : CmSt n₀ R v ts d w c i k a p b bad W) {b' : Nat} (hb : b' ≤ ts.length + 10) : CmSt n₀ R v ts d w c i k a p b' bad (W.setCell ⟨R, 1, none⟩ (.int .i64 b')) := h.go (h.pk.set hb) (But.set R W 1 _)
theorem CmSt.spoil (h : CmSt n₀ R v ts d w c i k a p b bad W) (q : Bool) : CmSt n₀ R v ts d w c i k a p b q (W.setCell ⟨R, 2, none⟩ (.bool q)) := h.go (h.pk.spoil q) (But.set R W 2 _)
/-- All but the compound, behind an append to a row of it and the store. -/
theorem CmSt.row (h : CmSt n₀ R v ts d w c i k a p b bad W) {X Y : World} (hX : Below W.heap.size W X) {r : Option Nat} (hg : X.grownBy Y r) (hr : ∀ g, r = some g → w.heap.size + 1 ≤ g) (j : Nat) (q : Value) {c' : Cp} {i' k' a' p' : Value} (hu : CUx d (w.heap.size + 1) (Y.setCell ⟨w.heap.size + 1, j, none⟩ q) (w.heap.size + 1) c' i' k' a' p') : CmSt n₀ R v ts d w c' i' k' a' p' b bad (Y.setCell ⟨w.heap.size + 1, j, none⟩ q) := by
  have h1 := h.hR
  have h2 := h.pk.low
  have hS := h.below hX
  have kY : Kept (fun b => b < w.heap.size + 1) X Y := Kept.of_grown hg (fun g e hlt => by have := hr g e; omega)
  have kZ : Kept (fun b => b < w.heap.size + 1) X (Y.setCell ⟨w.heap.size + 1, j, none⟩ q) := kY.trans (Kept.setCell Y _ q (by simp))
  refine ⟨kZ.blk hS.z (by omega), hu, ⟨kZ.blk hS.pk.blk (by omega), hS.pk.toks.below (kZ.below (Nat.le_trans hS.pk.low (Nat.le_of_lt hS.pk.lt)) (fun b hb => by omega)), hS.pk.low, hS.pk.least, hS.pk.most⟩, ?_, h1⟩
  exact ⟨kZ.os.trans hS.but.os, kZ.tape.trans hS.but.tape, kZ.output.trans hS.but.output, Nat.le_trans hS.but.size kZ.size, fun j hj hne => (kZ.block j (Nat.lt_of_lt_of_le hj hS.but.size) (by omega)).trans (hS.but.block j hj hne)⟩
end
end Go.Proofs.YtcicppadjipndaaGreat.Sr

/- The document's own reader of selectors: a compound (compound). -/
namespace Go.Proofs.YtcicppadjipndaaGreat.Sr
open Go.Proofs.YtcicppadjipndaaGreat.Tre
open Go Go.RowKit Sl

/-- What compound hands back. -/
def CompOut (n₀ R : Nat) (v : Value) (ts : List Bt) (d : Nat) (w : World) (a : Nat) (V : Option (Cp × List Bt)) (e : Ending) (w' : World) : Prop :=
  ∃ (c : Cp) (i k a' p : Value) (b : Nat) (bad : Bool), e = .returned (.agg #[.string c.tag, i, k, a', p]) ∧ CpT (SelsAt d (fun b => w.heap.size ≤ b) w') (fun b => w.heap.size ≤ b) w' [.string c.tag, i, k, a', p] c ∧ Pk n₀ w' R v ts b bad (8 - (d : Int)) ∧ a ≤ b ∧ ((bad = false ∧ V = some (c, ts.drop b) ∧ b ≤ ts.length) ∨ (V = none ∧ (bad = true ∨ bad = false ∧ isSg (at' ts b) 46 = true))) ∧ But R w w'
theorem CmSt.out {n₀ R : Nat} {v : Value} {ts : List Bt} {d : Nat} {w : World} {c : Cp} {i k a' p : Value} {b : Nat} {bad : Bool} {W : World} (h : CmSt n₀ R v ts d w c i k a' p b bad W) {a : Nat} {V : Option (Cp × List Bt)} (hab : a ≤ b) (hv : (bad = false ∧ V = some (c, ts.drop b) ∧ b ≤ ts.length) ∨ (V = none ∧ (bad = true ∨ bad = false ∧ isSg (at' ts b) 46 = true))) :
    (loadVar 45 ⟨w.heap.size, 0, none⟩).run Tryz.prog (set5 W w.heap.size (.string c.tag) i k a' p) = .ok (.agg #[.string c.tag, i, k, a', p]) (set5 W w.heap.size (.string c.tag) i k a' p) ∧
    CompOut n₀ R v ts d w a V (.returned (.agg #[.string c.tag, i, k, a', p])) (set5 W w.heap.size (.string c.tag) i k a' p) := by
  have h1 := h.hR
  have h2 := h.pk.low
  have g := grown_set5 W w.heap.size (.string c.tag) i k a' p
  have fr : Fr (fun b => w.heap.size + 1 ≤ b) (fun b => w.heap.size ≤ b) W (set5 W w.heap.size (.string c.tag) i k a' p) := ⟨g.size, fun x hx hl => ⟨g.block x hl.lt (fun e => by cases e; omega), by omega⟩⟩
  refine ⟨load_cp (blk_set5 h.z _ _ _ _ _), c, i, k, a', p, b, bad, rfl, h.u.done.fr fr (fun _ _ hq => SelsAt.fr d hq fr), ?_, hab, hv, ?_⟩
  · exact ((((h.pk.other (by omega) (by omega) _).other (by omega) (by omega) _).other (by omega) (by omega) _).other (by omega) (by omega) _).other (by omega) (by omega) _
  · exact ((((h.but.fresh (Nat.le_refl _) _).fresh (Nat.le_refl _) _).fresh (Nat.le_refl _) _).fresh (Nat.le_refl _) _).fresh (Nat.le_refl _) _
theorem CUx.tag {d n : Nat} {W : World} {C : Nat} {t : ByteArray} (h : CUx d n W C (.mk t [] [] [] []) nilS nilS nilS nilS) (tg : ByteArray) : CUx d n (W.setCell ⟨C, 0, none⟩ (.string tg)) C (.mk tg [] [] [] []) nilS nilS nilS nilS :=
  ⟨blk_put h.blk 0 _, h.nC, UndRow.nil _ _ _ _ _ _, UndRow.nil _ _ _ _ _ _, UndRow.nil _ _ _ _ _ _, UndRow.nil _ _ _ _ _ _, fun g hg => by simp [Value.ownBlock] at hg⟩
/-- The tag has been read. -/
def TagIs (ts : List Bt) (a : Nat) (tg : ByteArray) (b0 m : Nat) : Prop := (tagV (ts.drop a)).1 = tg ∧ (tagV (ts.drop a)).2 = ts.drop b0 ∧ b0 ≤ ts.length ∧ ((m = 0 ∧ b0 = a) ∨ (m = 1 ∧ b0 = a + 1))
theorem tag_at (ts : List Bt) (a : Nat) : tagV (ts.drop a) = if isSg (at' ts a) 42 then (⟨#[]⟩, ts.drop (a + 1)) else if (at' ts a).kind = 1 then (lowS (at' ts a).text, ts.drop (a + 1)) else (⟨#[]⟩, ts.drop a) := by
  by_cases hl : a < ts.length
  · rw [at_cons hl]; rfl
  · rw [(at_none (by omega)).1, (at_none (by omega)).2, List.drop_eq_nil_of_le (by omega)]; rfl
/-- Where the units' loop stands. -/
def CoV (L : Inner) (ts : List Bt) (a : Nat) (U : Option (Cp × List Bt)) (m b : Nat) (bad : Bool) (c : Cp) : Prop :=
  a ≤ b ∧ Small c b ∧ (m = 0 ↔ b = a) ∧ m ≤ b ∧ (bad = true → U = none) ∧ (bad = false → b ≤ ts.length ∧ ∃ f, (ts.drop b).length < f ∧ unitsV L f c (ts.drop b) = U)
theorem Small.mono {c : Cp} {m n : Nat} (h : Small c m) (hmn : m ≤ n) : Small c n := ⟨Nat.le_trans h.1 hmn, Nat.le_trans h.2.1 hmn, Nat.le_trans h.2.2.1 hmn, Nat.le_trans h.2.2.2 hmn⟩
theorem CoV.yes {L : Inner} {ts : List Bt} {a : Nat} {U : Option (Cp × List Bt)} {m b : Nat} {c : Cp} (h : CoV L ts a U m b false c) (hU : begU (at' ts b) = true) {c' : Cp} {b' : Nat} (hb : b + 1 ≤ b') (hl : b' ≤ ts.length) (hu : unitV L c (at' ts b) (ts.drop (b + 1)) = some (c', ts.drop b')) : CoV L ts a U (m + 1) b' false c' := by
  obtain ⟨h1, h2, h3, h4, _, h6⟩ := h
  obtain ⟨h7, f, h8, h9⟩ := h6 rfl
  obtain ⟨g, hg, hv⟩ := units_yes (L := L) (c := c) h8 hU
  refine ⟨by omega, (unitV_small hu h2).mono hb, by omega, by omega, fun h => (by cases h), fun _ => ⟨hl, g, ?_, ?_⟩⟩
  · rw [List.length_drop] at hg ⊢; omega
  · rw [← h9, hv, hu]; rfl
theorem CoV.no {L : Inner} {ts : List Bt} {a : Nat} {U : Option (Cp × List Bt)} {m b : Nat} {c : Cp} (h : CoV L ts a U m b false c) (hU : begU (at' ts b) = true) {c' : Cp} {b' : Nat} (hb : b + 1 ≤ b') (hs : Small c' (b + 1)) (hu : unitV L c (at' ts b) (ts.drop (b + 1)) = none) : CoV L ts a U (m + 1) b' true c' := by
  obtain ⟨h1, h2, h3, h4, _, h6⟩ := h
  obtain ⟨h7, f, h8, h9⟩ := h6 rfl
  obtain ⟨g, hg, hv⟩ := units_yes (L := L) (c := c) h8 hU
  refine ⟨by omega, hs.mono hb, by omega, by omega, fun _ => ?_, fun h => by cases h⟩
  rw [← h9, hv, hu]; rfl
theorem Small.addId {c : Cp} {m : Nat} (h : Small c m) (x : ByteArray) : Small (c.addId x) (m + 1) := by
  obtain ⟨e1, e2, e3, e4⟩ := Cp.addId_len c x
  obtain ⟨h1, h2, h3, h4⟩ := h
  exact ⟨by omega, by omega, by omega, by omega⟩
theorem Small.addClass {c : Cp} {m : Nat} (h : Small c m) (x : ByteArray) : Small (c.addClass x) (m + 1) := by
  obtain ⟨e1, e2, e3, e4⟩ := Cp.addClass_len c x
  obtain ⟨h1, h2, h3, h4⟩ := h
  exact ⟨by omega, by omega, by omega, by omega⟩
theorem Small.addAttr {c : Cp} {m : Nat} (h : Small c m) (x : At) : Small (c.addAttr x) (m + 1) := by
  obtain ⟨e1, e2, e3, e4⟩ := Cp.addAttr_len c x
  obtain ⟨h1, h2, h3, h4⟩ := h
  exact ⟨by omega, by omega, by omega, by omega⟩
theorem Small.addPs {c : Cp} {m : Nat} (h : Small c m) (x : Ps) : Small (c.addPs x) (m + 1) := by
  obtain ⟨e1, e2, e3, e4⟩ := Cp.addPs_len c x
  obtain ⟨h1, h2, h3, h4⟩ := h
  exact ⟨by omega, by omega, by omega, by omega⟩
/-- The end of the loop: what the compound is. -/
theorem CoV.done {L : Inner} {ts : List Bt} {a b0 : Nat} {tg : ByteArray} {m b m0 : Nat} {c : Cp} (hT : TagIs ts a tg b0 m0) (h : CoV L ts a (unitsV L ((ts.drop a).length + 1) (.mk tg [] [] [] []) (ts.drop b0)) m b false c) (hn : begU (at' ts b) = false) :
    (decide (m = 0) = false ∧ compV L (ts.drop a) = some (c, ts.drop b) ∧ b ≤ ts.length) ∨ (compV L (ts.drop a) = none ∧ (decide (m = 0) = true ∨ decide (m = 0) = false ∧ isSg (at' ts b) 46 = true)) := by
  obtain ⟨h1, h2, h3, h4, _, h6⟩ := h
  obtain ⟨h7, f, h8, h9⟩ := h6 rfl
  rw [units_no h8 hn] at h9
  by_cases hm : m = 0
  · exact .inr ⟨comp_no hT.1 hT.2.1 h9.symm (by omega), .inl (decide_eq_true hm)⟩
  · exact .inl ⟨decide_eq_false hm, comp_yes hT.1 hT.2.1 h9.symm h7 (by omega), h7⟩
theorem CoV.dot {L : Inner} {ts : List Bt} {a b0 : Nat} {tg : ByteArray} {m b m0 : Nat} {c : Cp} (hT : TagIs ts a tg b0 m0) (h : CoV L ts a (unitsV L ((ts.drop a).length + 1) (.mk tg [] [] [] []) (ts.drop b0)) m b false c) (hd : isSg (at' ts b) 46 = true) (hn : ¬ (at' ts (b + 1)).kind = 1) :
    (decide (m = 0) = false ∧ compV L (ts.drop a) = some (c, ts.drop b) ∧ b ≤ ts.length) ∨ (compV L (ts.drop a) = none ∧ (decide (m = 0) = true ∨ decide (m = 0) = false ∧ isSg (at' ts b) 46 = true)) := by
  obtain ⟨h1, h2, h3, h4, _, h6⟩ := h
  obtain ⟨h7, f, h8, h9⟩ := h6 rfl
  have hk : (at' ts b).kind = 10 ∧ (at' ts b).c = 46 := by simpa [isSg] using hd
  have hU : begU (at' ts b) = true := by unfold begU; rw [hd]; simp
  obtain ⟨g, hg, hv⟩ := units_yes (L := L) (c := c) h8 hU
  rw [unit_class (by omega) (by omega) (by omega), if_neg hn] at hv
  rw [hv] at h9
  refine .inr ⟨comp_none hT.1 hT.2.1 h9.symm, ?_⟩
  by_cases hm : m = 0
  · exact .inl (decide_eq_true hm)
  · exact .inr ⟨decide_eq_false hm, hd⟩
theorem CoV.bad {L : Inner} {ts : List Bt} {a b0 : Nat} {tg : ByteArray} {m b m0 : Nat} {c : Cp} (hT : TagIs ts a tg b0 m0) (h : CoV L ts a (unitsV L ((ts.drop a).length + 1) (.mk tg [] [] [] []) (ts.drop b0)) m b true c) : compV L (ts.drop a) = none := comp_none hT.1 hT.2.1 (h.2.2.2.2.1 rfl)
theorem CoV.start {L : Inner} {ts : List Bt} {a b0 m0 : Nat} {tg : ByteArray} (hT : TagIs ts a tg b0 m0) : CoV L ts a (unitsV L ((ts.drop a).length + 1) (.mk tg [] [] [] []) (ts.drop b0)) m0 b0 false (.mk tg [] [] [] []) := by
  obtain ⟨h1, h2, h3, h4⟩ := hT
  refine ⟨by omega, ⟨Nat.zero_le _, Nat.zero_le _, Nat.zero_le _, Nat.zero_le _⟩, by omega, by omega, fun h => (by cases h), fun _ => ⟨h3, _, ?_, rfl⟩⟩
  rw [List.length_drop, List.length_drop]; omega

end Go.Proofs.YtcicppadjipndaaGreat.Sr
