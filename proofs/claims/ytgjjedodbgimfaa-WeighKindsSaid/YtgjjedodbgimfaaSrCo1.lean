/- The document's own reader of selectors: a compound (compound). -/
import Derived.Test.YtgjjedodbgimfaaSrCo0
namespace Go.Proofs.Ytgjjedodbgimfaa.Sr
open Go.Proofs.Ytgjjedodbgimfaa.Tre
open Go Go.RowKit Sl

/-- What compound hands back. -/
def CompOut (n₀ R : Nat) (v : Value) (ts : List Bt) (d : Nat) (w : World) (a : Nat) (V : Option (Cp × List Bt)) (e : Ending) (w' : World) : Prop :=
  ∃ (c : Cp) (i k a' p : Value) (b : Nat) (bad : Bool), e = .returned (.agg #[.string c.tag, i, k, a', p]) ∧ CpT (SelsAt d (fun b => w.heap.size ≤ b) w') (fun b => w.heap.size ≤ b) w' [.string c.tag, i, k, a', p] c ∧ Pk n₀ w' R v ts b bad (8 - (d : Int)) ∧ a ≤ b ∧ ((bad = false ∧ V = some (c, ts.drop b) ∧ b ≤ ts.length) ∨ (V = none ∧ (bad = true ∨ bad = false ∧ isSg (at' ts b) 46 = true))) ∧ But R w w'
theorem CmSt.out {n₀ R : Nat} {v : Value} {ts : List Bt} {d : Nat} {w : World} {c : Cp} {i k a' p : Value} {b : Nat} {bad : Bool} {W : World} (h : CmSt n₀ R v ts d w c i k a' p b bad W) {a : Nat} {V : Option (Cp × List Bt)} (hab : a ≤ b) (hv : (bad = false ∧ V = some (c, ts.drop b) ∧ b ≤ ts.length) ∨ (V = none ∧ (bad = true ∨ bad = false ∧ isSg (at' ts b) 46 = true))) :
    (loadVar 30 ⟨w.heap.size, 0, none⟩).run Try.prog (set5 W w.heap.size (.string c.tag) i k a' p) = .ok (.agg #[.string c.tag, i, k, a', p]) (set5 W w.heap.size (.string c.tag) i k a' p) ∧
    CompOut n₀ R v ts d w a V (.returned (.agg #[.string c.tag, i, k, a', p])) (set5 W w.heap.size (.string c.tag) i k a' p) := by
  have h1 := h.hR
  have h2 := h.pk.low
  have g := grown_set5 W w.heap.size (.string c.tag) i k a' p
  have fr : Fr (fun b => w.heap.size + 1 ≤ b) (fun b => w.heap.size ≤ b) W (set5 W w.heap.size (.string c.tag) i k a' p) := ⟨g.size, fun x hx hl => ⟨g.block x hl.lt (fun e => by cases e; omega), by omega⟩⟩
  refine ⟨load_cp (blk_set5 h.z _ _ _ _ _), c, i, k, a', p, b, bad, rfl, h.u.done.fr fr (fun _ _ hq => SelsAt.fr d hq fr), ?_, hab, hv, ?_⟩
  · exact ((((h.pk.other (by omega) (by omega) _).other (by omega) (by omega) _).other (by omega) (by omega) _).other (by omega) (by omega) _).other (by omega) (by omega) _
  · exact ((((h.but.fresh (Nat.le_refl _) _).fresh (Nat.le_refl _) _).fresh (Nat.le_refl _) _).fresh (Nat.le_refl _) _).fresh (Nat.le_refl _) _
theorem CUx.tag {d n : Nat} {W : World} {C : Nat} {t : ByteArray} (h : CUx d n W C (.mk t [] [] [] []) nilS nilS nilS nilS) (tg : ByteArray) : CUx d n (W.setCell ⟨C, 0, none⟩ (.string tg)) C (.mk tg [] [] [] []) nilS nilS nilS nilS :=
  ⟨blk_put h.blk 0 _, h.nC, UndRow.nil _ _ _ _ _ _, UndRow.nil _ _ _ _ _ _, UndRow.nil _ _ _ _ _ _, UndRow.nil _ _ _ _ _ _, fun g hg => by simp [Value.ownBlock] at hg⟩
/-- The tag has been read. -/
def TagIs (ts : List Bt) (a : Nat) (tg : ByteArray) (b0 m : Nat) : Prop := (tagV (ts.drop a)).1 = tg ∧ (tagV (ts.drop a)).2 = ts.drop b0 ∧ b0 ≤ ts.length ∧ ((m = 0 ∧ b0 = a) ∨ (m = 1 ∧ b0 = a + 1))
theorem tag_at (ts : List Bt) (a : Nat) : tagV (ts.drop a) = if isSg (at' ts a) 42 then (⟨#[]⟩, ts.drop (a + 1)) else if (at' ts a).kind = 1 then (lowS (at' ts a).text, ts.drop (a + 1)) else (⟨#[]⟩, ts.drop a) := by
  by_cases hl : a < ts.length
  · rw [at_cons hl]; rfl
  · rw [(at_none (by omega)).1, (at_none (by omega)).2, List.drop_eq_nil_of_le (by omega)]; rfl
/-- Where the units' loop stands. -/
def CoV (L : Inner) (ts : List Bt) (a : Nat) (U : Option (Cp × List Bt)) (m b : Nat) (bad : Bool) (c : Cp) : Prop :=
  a ≤ b ∧ Small c b ∧ (m = 0 ↔ b = a) ∧ m ≤ b ∧ (bad = true → U = none) ∧ (bad = false → b ≤ ts.length ∧ ∃ f, (ts.drop b).length < f ∧ unitsV L f c (ts.drop b) = U)
theorem Small.mono {c : Cp} {m n : Nat} (h : Small c m) (hmn : m ≤ n) : Small c n := ⟨Nat.le_trans h.1 hmn, Nat.le_trans h.2.1 hmn, Nat.le_trans h.2.2.1 hmn, Nat.le_trans h.2.2.2 hmn⟩
theorem CoV.yes {L : Inner} {ts : List Bt} {a : Nat} {U : Option (Cp × List Bt)} {m b : Nat} {c : Cp} (h : CoV L ts a U m b false c) (hU : begU (at' ts b) = true) {c' : Cp} {b' : Nat} (hb : b + 1 ≤ b') (hl : b' ≤ ts.length) (hu : unitV L c (at' ts b) (ts.drop (b + 1)) = some (c', ts.drop b')) : CoV L ts a U (m + 1) b' false c' := by
  obtain ⟨h1, h2, h3, h4, _, h6⟩ := h
  obtain ⟨h7, f, h8, h9⟩ := h6 rfl
  obtain ⟨g, hg, hv⟩ := units_yes (L := L) (c := c) h8 hU
  refine ⟨by omega, (unitV_small hu h2).mono hb, by omega, by omega, fun h => (by cases h), fun _ => ⟨hl, g, ?_, ?_⟩⟩
  · rw [List.length_drop] at hg ⊢; omega
  · rw [← h9, hv, hu]; rfl
theorem CoV.no {L : Inner} {ts : List Bt} {a : Nat} {U : Option (Cp × List Bt)} {m b : Nat} {c : Cp} (h : CoV L ts a U m b false c) (hU : begU (at' ts b) = true) {c' : Cp} {b' : Nat} (hb : b + 1 ≤ b') (hs : Small c' (b + 1)) (hu : unitV L c (at' ts b) (ts.drop (b + 1)) = none) : CoV L ts a U (m + 1) b' true c' := by
  obtain ⟨h1, h2, h3, h4, _, h6⟩ := h
  obtain ⟨h7, f, h8, h9⟩ := h6 rfl
  obtain ⟨g, hg, hv⟩ := units_yes (L := L) (c := c) h8 hU
  refine ⟨by omega, hs.mono hb, by omega, by omega, fun _ => ?_, fun h => by cases h⟩
  rw [← h9, hv, hu]; rfl
theorem Small.addId {c : Cp} {m : Nat} (h : Small c m) (x : ByteArray) : Small (c.addId x) (m + 1) := by
  obtain ⟨e1, e2, e3, e4⟩ := Cp.addId_len c x
  obtain ⟨h1, h2, h3, h4⟩ := h
  exact ⟨by omega, by omega, by omega, by omega⟩
theorem Small.addClass {c : Cp} {m : Nat} (h : Small c m) (x : ByteArray) : Small (c.addClass x) (m + 1) := by
  obtain ⟨e1, e2, e3, e4⟩ := Cp.addClass_len c x
  obtain ⟨h1, h2, h3, h4⟩ := h
  exact ⟨by omega, by omega, by omega, by omega⟩
theorem Small.addAttr {c : Cp} {m : Nat} (h : Small c m) (x : At) : Small (c.addAttr x) (m + 1) := by
  obtain ⟨e1, e2, e3, e4⟩ := Cp.addAttr_len c x
  obtain ⟨h1, h2, h3, h4⟩ := h
  exact ⟨by omega, by omega, by omega, by omega⟩
theorem Small.addPs {c : Cp} {m : Nat} (h : Small c m) (x : Ps) : Small (c.addPs x) (m + 1) := by
  obtain ⟨e1, e2, e3, e4⟩ := Cp.addPs_len c x
  obtain ⟨h1, h2, h3, h4⟩ := h
  exact ⟨by omega, by omega, by omega, by omega⟩
/-- The end of the loop: what the compound is. -/
theorem CoV.done {L : Inner} {ts : List Bt} {a b0 : Nat} {tg : ByteArray} {m b m0 : Nat} {c : Cp} (hT : TagIs ts a tg b0 m0) (h : CoV L ts a (unitsV L ((ts.drop a).length + 1) (.mk tg [] [] [] []) (ts.drop b0)) m b false c) (hn : begU (at' ts b) = false) :
    (decide (m = 0) = false ∧ compV L (ts.drop a) = some (c, ts.drop b) ∧ b ≤ ts.length) ∨ (compV L (ts.drop a) = none ∧ (decide (m = 0) = true ∨ decide (m = 0) = false ∧ isSg (at' ts b) 46 = true)) := by
  obtain ⟨h1, h2, h3, h4, _, h6⟩ := h
  obtain ⟨h7, f, h8, h9⟩ := h6 rfl
  rw [units_no h8 hn] at h9
  by_cases hm : m = 0
  · exact .inr ⟨comp_no hT.1 hT.2.1 h9.symm (by omega), .inl (decide_eq_true hm)⟩
  · exact .inl ⟨decide_eq_false hm, comp_yes hT.1 hT.2.1 h9.symm h7 (by omega), h7⟩
theorem CoV.dot {L : Inner} {ts : List Bt} {a b0 : Nat} {tg : ByteArray} {m b m0 : Nat} {c : Cp} (hT : TagIs ts a tg b0 m0) (h : CoV L ts a (unitsV L ((ts.drop a).length + 1) (.mk tg [] [] [] []) (ts.drop b0)) m b false c) (hd : isSg (at' ts b) 46 = true) (hn : ¬ (at' ts (b + 1)).kind = 1) :
    (decide (m = 0) = false ∧ compV L (ts.drop a) = some (c, ts.drop b) ∧ b ≤ ts.length) ∨ (compV L (ts.drop a) = none ∧ (decide (m = 0) = true ∨ decide (m = 0) = false ∧ isSg (at' ts b) 46 = true)) := by
  obtain ⟨h1, h2, h3, h4, _, h6⟩ := h
  obtain ⟨h7, f, h8, h9⟩ := h6 rfl
  have hk : (at' ts b).kind = 10 ∧ (at' ts b).c = 46 := by simpa [isSg] using hd
  have hU : begU (at' ts b) = true := by unfold begU; rw [hd]; simp
  obtain ⟨g, hg, hv⟩ := units_yes (L := L) (c := c) h8 hU
  rw [unit_class (by omega) (by omega) (by omega), if_neg hn] at hv
  rw [hv] at h9
  refine .inr ⟨comp_none hT.1 hT.2.1 h9.symm, ?_⟩
  by_cases hm : m = 0
  · exact .inl (decide_eq_true hm)
  · exact .inr ⟨decide_eq_false hm, hd⟩
theorem CoV.bad {L : Inner} {ts : List Bt} {a b0 : Nat} {tg : ByteArray} {m b m0 : Nat} {c : Cp} (hT : TagIs ts a tg b0 m0) (h : CoV L ts a (unitsV L ((ts.drop a).length + 1) (.mk tg [] [] [] []) (ts.drop b0)) m b true c) : compV L (ts.drop a) = none := comp_none hT.1 hT.2.1 (h.2.2.2.2.1 rfl)
theorem CoV.start {L : Inner} {ts : List Bt} {a b0 m0 : Nat} {tg : ByteArray} (hT : TagIs ts a tg b0 m0) : CoV L ts a (unitsV L ((ts.drop a).length + 1) (.mk tg [] [] [] []) (ts.drop b0)) m0 b0 false (.mk tg [] [] [] []) := by
  obtain ⟨h1, h2, h3, h4⟩ := hT
  refine ⟨by omega, ⟨Nat.zero_le _, Nat.zero_le _, Nat.zero_le _, Nat.zero_le _⟩, by omega, by omega, fun h => (by cases h), fun _ => ⟨h3, _, ?_, rfl⟩⟩
  rw [List.length_drop, List.length_drop]; omega

end Go.Proofs.Ytgjjedodbgimfaa.Sr
