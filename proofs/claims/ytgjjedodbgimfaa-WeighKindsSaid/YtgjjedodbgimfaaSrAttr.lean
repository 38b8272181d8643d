/- The document's own reader of selectors: a condition of an attribute (attr). -/
import Derived.Test.YtgjjedodbgimfaaSrNth
namespace Go.Proofs.Ytgjjedodbgimfaa.Sr
open Go.Proofs.Ytgjjedodbgimfaa.Tre
open Go Go.RowKit Sl

theorem infoAt : (Try.prog.info? 38).map (·.size) = some 3 := by kernel_rfl
theorem load_at {w : World} {g : Nat} {a b c : Value} (h : Blk w g 38 [a, b, c]) : (loadVar 38 ⟨g, 0, none⟩).run Try.prog w = .ok (.agg #[a, b, c]) w :=
  run_loadVar_row w g _ 38 #[a, b, c] (0, 0) _ h Try.underlying38 rfl infoAt
/-- Where attr stands: its result, its own a, the reader. -/
structure AtSt (n₀ R : Nat) (v : Value) (ts : List Bt) (deep : Int) (w : World) (X : Nat) (x : At) (b : Nat) (bad : Bool) (W : World) : Prop where
  z : Blk W w.heap.size 38 [.string ⟨#[]⟩, .int .i64 0, .string ⟨#[]⟩]
  x : Blk W X 38 [.string x.name, .int .i64 x.op, .string x.text]
  p : Pk n₀ W R v ts b bad deep
  but : But R w W
  hX : w.heap.size < X
  hR : R < w.heap.size
section
variable {n₀ R : Nat} {v : Value} {ts : List Bt} {deep : Int} {w : World} {X : Nat} {x : At} {b : Nat} {bad : Bool} {W W' : World}
theorem AtSt.below (h : AtSt n₀ R v ts deep w X x b bad W) (hb : Below W.heap.size W W') : AtSt n₀ R v ts deep w X x b bad W' := ⟨h.z.below hb h.z.lt, h.x.below hb h.x.lt, h.p.below hb, h.but.trans (But.of_below hb), h.hX, h.hR⟩
theorem AtSt.go (h : AtSt n₀ R v ts deep w X x b bad W) {b' : Nat} {bad' : Bool} (hP : Pk n₀ W' R v ts b' bad' deep) (hb : But R W W') : AtSt n₀ R v ts deep w X x b' bad' W' := by
  have := h.hX
  have := h.hR
  exact ⟨hb.blk h.z (by omega), hb.blk h.x (by omega), hP, h.but.trans hb, h.hX, h.hR⟩
theorem AtSt.at (h : AtSt n₀ R v ts deep w X x b bad W) {b' : Nat} (hb : b' ≤ ts.length + 10) : AtSt n₀ R v ts deep w X x b' bad (W.setCell ⟨R, 1, none⟩ (.int .i64 b')) := h.go (h.p.set hb) (But.set R W 1 _)
theorem AtSt.spoil (h : AtSt n₀ R v ts deep w X x b bad W) : AtSt n₀ R v ts deep w X x b true (W.setCell ⟨R, 2, none⟩ (.bool true)) := h.go (h.p.spoil true) (But.set R W 2 _)
theorem AtSt.op (h : AtSt n₀ R v ts deep w X x b bad W) (o : Int) : AtSt n₀ R v ts deep w X ⟨x.name, o, x.text⟩ b bad (W.setCell ⟨X, 1, none⟩ (.int .i64 o)) := by
  have := h.hX
  have := h.hR
  have := h.p.low
  exact ⟨Blk.other h.z (by omega) _, blk_put h.x 1 _, h.p.other (by omega) (by omega) _, Kept.fresh h.but (by omega) _, h.hX, h.hR⟩
theorem AtSt.text (h : AtSt n₀ R v ts deep w X x b bad W) (s : ByteArray) : AtSt n₀ R v ts deep w X ⟨x.name, x.op, s⟩ b bad (W.setCell ⟨X, 2, none⟩ (.string s)) := by
  have := h.hX
  have := h.hR
  have := h.p.low
  exact ⟨Blk.other h.z (by omega) _, blk_put h.x 2 _, h.p.other (by omega) (by omega) _, Kept.fresh h.but (by omega) _, h.hX, h.hR⟩
/-- What attr hands back. -/
def AttrOut (n₀ R : Nat) (v : Value) (ts : List Bt) (deep : Int) (w : World) (a : Nat) (V : Option (At × List Bt)) (e : Ending) (w' : World) : Prop :=
  ∃ (x : At) (b : Nat) (bad : Bool), e = .returned (.agg #[.string x.name, .int .i64 x.op, .string x.text]) ∧ Pk n₀ w' R v ts b bad deep ∧ a ≤ b ∧ ((bad = false ∧ V = some (x, ts.drop b) ∧ b ≤ ts.length) ∨ (bad = true ∧ V = none)) ∧ But R w w'
theorem AtSt.out (h : AtSt n₀ R v ts deep w X x b bad W) {a : Nat} {V : Option (At × List Bt)} (hab : a ≤ b) (hv : (bad = false ∧ V = some (x, ts.drop b) ∧ b ≤ ts.length) ∨ (bad = true ∧ V = none)) :
    (loadVar 38 ⟨w.heap.size, 0, none⟩).run Try.prog (set3 W w.heap.size (.string x.name) (.int .i64 x.op) (.string x.text)) = .ok (.agg #[.string x.name, .int .i64 x.op, .string x.text]) (set3 W w.heap.size (.string x.name) (.int .i64 x.op) (.string x.text)) ∧
    AttrOut n₀ R v ts deep w a V (.returned (.agg #[.string x.name, .int .i64 x.op, .string x.text])) (set3 W w.heap.size (.string x.name) (.int .i64 x.op) (.string x.text)) := by
  have h1 := h.hR
  have h2 := h.p.low
  refine ⟨load_at (blk_set3 h.z _ _ _), x, b, bad, rfl, ?_, hab, hv, ?_⟩
  · exact ((h.p.other (by omega) (by omega) _).other (by omega) (by omega) _).other (by omega) (by omega) _
  · exact ((h.but.fresh (Nat.le_refl _) _).fresh (Nat.le_refl _) _).fresh (Nat.le_refl _) _
end
/-! ### the plain side, by places -/
/-- Behind the name. -/
def attr1 (nm : ByteArray) (r : List Bt) : Option (At × List Bt) := match dropW r with
  | [] => none
  | t :: r3 => if t.kind = 19 then some (⟨nm, 0, ⟨#[]⟩⟩, r3) else (opV (t :: r3)).bind fun o => match dropW o.2 with
    | [] => none
    | h :: r5 => if h.kind = 1 ∨ h.kind = 4 then match dropW r5 with
        | e :: r6 => if e.kind = 19 then some (⟨nm, o.1, h.text⟩, r6) else none
        | [] => none
      else none
/-- Behind the operator. -/
def attr2 (nm : ByteArray) (o : Int) (r : List Bt) : Option (At × List Bt) := match dropW r with
  | [] => none
  | h :: r5 => if h.kind = 1 ∨ h.kind = 4 then match dropW r5 with
      | e :: r6 => if e.kind = 19 then some (⟨nm, o, h.text⟩, r6) else none
      | [] => none
    else none
theorem attr_0 {ts : List Bt} {a b : Nat} (h : ts.drop b = dropW (ts.drop a)) : attrV (ts.drop a) = if (at' ts b).kind = 1 then attr1 (lowS (at' ts b).text) (ts.drop (b + 1)) else none := by
  unfold attrV
  rw [← h]
  by_cases hl : b < ts.length
  · rw [at_cons hl]; rfl
  · rw [(at_none (by omega)).1, (at_none (by omega)).2]; rfl
theorem attr_1 {nm : ByteArray} {ts : List Bt} {a b : Nat} (h : ts.drop b = dropW (ts.drop a)) : attr1 nm (ts.drop a) = if (at' ts b).kind = 19 then some (⟨nm, 0, ⟨#[]⟩⟩, ts.drop (b + 1)) else (opV (ts.drop b)).bind fun o => attr2 nm o.1 o.2 := by
  unfold attr1
  rw [← h]
  by_cases hl : b < ts.length
  · rw [at_cons hl]; rfl
  · rw [(at_none (by omega)).1, (at_none (by omega)).2]; rfl
theorem attr_2 {nm : ByteArray} {o : Int} {ts : List Bt} {a b : Nat} (h : ts.drop b = dropW (ts.drop a)) {c : Nat} (hc : ts.drop c = dropW (ts.drop (b + 1))) : attr2 nm o (ts.drop a) = if (at' ts b).kind = 1 ∨ (at' ts b).kind = 4 then (if (at' ts c).kind = 19 then some (⟨nm, o, (at' ts b).text⟩, ts.drop (c + 1)) else none) else none := by
  unfold attr2
  rw [← h]
  by_cases hl : b < ts.length
  · rw [at_cons hl]
    simp only [← hc]
    by_cases hl : c < ts.length
    · rw [at_cons hl]
    · rw [(at_none (ts := ts) (a := c) (by omega)).1, (at_none (ts := ts) (a := c) (by omega)).2]; rfl
  · rw [(at_none (by omega)).1, (at_none (by omega)).2]; rfl
theorem attr_2no {nm : ByteArray} {o : Int} {ts : List Bt} {a b : Nat} (h : ts.drop b = dropW (ts.drop a)) (h1 : ¬ ((at' ts b).kind = 1 ∨ (at' ts b).kind = 4)) : attr2 nm o (ts.drop a) = none := by
  unfold attr2
  rw [← h]
  by_cases hl : b < ts.length
  · rw [at_cons hl]
    simp only [if_neg h1]
  · rw [(at_none (by omega)).1]
/-- The operator that stands ahead of '='; 0: none. -/
def op5 (c : Int) : Int := if c = 126 then 2 else if c = 124 then 3 else if c = 94 then 4 else if c = 36 then 5 else if c = 42 then 6 else 0
def l5 : List Int := [126, 124, 94, 36, 42]
def opTo : Nat → Int → Int
  | 0, _ => 0
  | k + 1, c => if l5.getD k 0 = c then 2 + k else opTo k c
theorem opTo_5 (c : Int) : opTo 5 c = op5 c := by
  simp only [opTo, l5, op5, List.getD_cons_zero, List.getD_cons_succ]
  by_cases e1 : c = 126 <;> by_cases e2 : c = 124 <;> by_cases e3 : c = 94 <;> by_cases e4 : c = 36 <;> by_cases e5 : c = 42 <;> first | omega | (subst_vars; first | rfl | decide) | (simp [e1, e2, e3, e4, e5, eq_comm])
/-- What is known behind the operator. -/
def OpV (V : Option (At × List Bt)) (low : ByteArray) (ts : List Bt) (a : Nat) (o : Int) (c' : Nat) : Prop := a ≤ c' ∧ (o ≠ 0 ∧ V = attr2 low o (ts.drop c') ∧ c' ≤ ts.length ∨ o = 0 ∧ V = none)
theorem op_is {ts : List Bt} {b : Nat} (h : (at' ts b).kind = 10 ∧ (at' ts b).c = 61) : opV (ts.drop b) = some (1, ts.drop (b + 1)) := by
  have hl : b < ts.length := at_lt (by rw [h.1]; decide)
  rw [at_cons hl]
  generalize at' ts b = T at *
  simp [opV, opOf, isSg, h.1, h.2]
theorem op_two {ts : List Bt} {b : Nat} (h : (at' ts b).kind = 10) (h1 : ¬ (at' ts b).c = 61) (h2 : (at' ts (b + 1)).kind = 10 ∧ (at' ts (b + 1)).c = 61) : opV (ts.drop b) = if op5 (at' ts b).c = 0 then none else some (op5 (at' ts b).c, ts.drop (b + 2)) := by
  have hl : b < ts.length := at_lt (by rw [h]; decide)
  have hl2 : b + 1 < ts.length := at_lt (by rw [h2.1]; decide)
  rw [at_cons hl, at_cons hl2]
  generalize at' ts b = T at *
  generalize at' ts (b + 1) = U at *
  simp only [opV, opOf, isSg, h, h2.1, h2.2, op5]
  by_cases e1 : T.c = 126 <;> by_cases e2 : T.c = 124 <;> by_cases e3 : T.c = 94 <;> by_cases e4 : T.c = 36 <;> by_cases e5 : T.c = 42 <;> simp [e1, e2, e3, e4, e5, h1] <;> omega
theorem op_none {ts : List Bt} {b : Nat} (h1 : ¬ ((at' ts b).kind = 10 ∧ (at' ts b).c = 61)) (h2 : (at' ts b).kind = 10 → ¬ ((at' ts (b + 1)).kind = 10 ∧ (at' ts (b + 1)).c = 61)) : opV (ts.drop b) = none := by
  by_cases hl : b < ts.length
  · rw [at_cons hl]
    have hn : ∀ U, (ts.drop (b + 1)).head? = some U → U = at' ts (b + 1) := fun U hU => by rw [at_drop, hU]; rfl
    generalize at' ts b = T at *
    simp only [opV]
    have e : isSg T 61 = false := by simpa [isSg] using h1
    rw [e]
    by_cases hk : T.kind = 10
    · cases hd : ts.drop (b + 1) with
      | nil => cases opOf T <;> rfl
      | cons U r =>
        have := hn U (by rw [hd]; rfl)
        subst this
        have e2 : isSg (at' ts (b + 1)) 61 = false := by simpa [isSg] using h2 hk
        simp only [e2]
        cases opOf T <;> rfl
    · have : opOf T = none := by simp [opOf, isSg, hk]
      rw [this]
      rfl
  · rw [(at_none (by omega)).1]
    rfl

end Go.Proofs.Ytgjjedodbgimfaa.Sr
