/- The document's own word (which word of a list a text is); what a pseudo-class is, by places. -/
import Derived.Test.YtcicppadjipndaaGreatSrB
namespace Go.Proofs.YtcicppadjipndaaGreat.Sr
open Go.Proofs.YtcicppadjipndaaGreat.Tre
open Go Go.RowKit Sl

def idx : List (List UInt8) → List UInt8 → Option Nat
  | [], _ => none
  | x :: l, s => if x = s then some 0 else (idx l s).map (· + 1)
theorem beq_false {s x : ByteArray} (h : ¬ s = x) : (s.toList == x.toList) = false := by
  rw [ByteArray.toList_eq, ByteArray.toList_eq, beq_eq_false_iff_ne]
  intro e
  exact h (by
    cases s; cases x
    simp only [ByteArray.mk.injEq]
    exact Array.toList_inj.1 e)
/-- THE SLICE OF STRINGS IN THE BLOCK g HOLDS ss. -/
def StrsIn (W : World) (g : Nat) (ss : List (List UInt8)) : Prop := ∀ j s, ss[j]? = some s → W.cell? ⟨g, 0 + j, none⟩ = some (.string ⟨s.toArray⟩)
theorem StrsIn.below {X Y : World} {g n : Nat} {ss : List (List UInt8)} (h : StrsIn X g ss) (hb : Below n X Y) (hg : g < n) : StrsIn Y g ss := fun j s hj => (hb.cell (p := ⟨g, 0 + j, none⟩) hg).trans (h j s hj)
def strCells (ss : List (List UInt8)) : List Value := ss.map fun s => .string ⟨s.toArray⟩
theorem StrsIn.new (w : World) (ss : List (List UInt8)) (t : TypeId) : StrsIn (w.alloc (.cells (strCells ss).toArray t)) w.heap.size ss := fun j s hj => by
  rw [cell_of_block (heap_alloc_new w _), Nat.zero_add, List.getElem?_toArray, strCells, List.getElem?_map, hj]
  rfl
def idxV (l : List (List UInt8)) (s : List UInt8) : Int × Bool := match idx l s with
  | some n => ((n : Int), true)
  | none => (0, false)
theorem idx_lt : ∀ {l : List (List UInt8)} {s : List UInt8} {n : Nat}, idx l s = some n → n < l.length
  | x :: l, s, n, h => by
    unfold idx at h
    split at h
    · cases h; simp
    · obtain ⟨m, hm, rfl⟩ := Option.map_eq_some_iff.1 h
      have := idx_lt hm
      simp
      omega
/-- None of the first k; the rest is asked. -/
def Left (l : List (List UInt8)) (s : List UInt8) (k : Nat) : Prop := idx l s = (idx (l.drop k) s).map (· + k)
theorem Left.start (l : List (List UInt8)) (s : List UInt8) : Left l s 0 := by
  unfold Left
  cases h : idx l s <;> simp [h]
theorem Left.next {l : List (List UInt8)} {s x : List UInt8} {k : Nat} (h : Left l s k) (hx : l[k]? = some x) (hne : ¬ x = s) : Left l s (k + 1) := by
  obtain ⟨hk, rfl⟩ := List.getElem?_eq_some_iff.1 hx
  unfold Left at *
  rw [h, List.drop_eq_getElem_cons hk, idx, if_neg hne, Option.map_map]
  congr 1
  funext n
  simp
  omega
theorem Left.hit {l : List (List UInt8)} {s x : List UInt8} {k : Nat} (h : Left l s k) (hx : l[k]? = some x) (he : x = s) : idxV l s = ((k : Int), true) := by
  obtain ⟨hk, rfl⟩ := List.getElem?_eq_some_iff.1 hx
  unfold Left at h
  unfold idxV
  rw [h, List.drop_eq_getElem_cons hk, idx, if_pos he]
  simp
theorem Left.none {l : List (List UInt8)} {s : List UInt8} {k : Nat} (h : Left l s k) (hk : l.length ≤ k) : idxV l s = (0, false) := by
  unfold Left at h
  rw [List.drop_eq_nil_of_le hk] at h
  unfold idxV
  rw [h]
  rfl

set_option maxRecDepth 100000 in
set_option maxHeartbeats 1000000 in
theorem refWord_any (s : ByteArray) (g cap : Nat) (ss : List (List UInt8)) (w : World) (hS : StrsIn w g ss) (_hl : ss.length ≤ 100) :
    Calls Tryz.prog 124 #[.string s, .slice (some ⟨g, 0, none⟩) ss.length cap] w fun e w' => e = .returned (.tuple #[.int .i64 (idxV ss s.data.toList).1, .bool (idxV ss s.data.toList).2]) ∧ w' = w := by
  obtain ⟨V, hV⟩ : ∃ V, idxV ss s.data.toList = V := ⟨_, rfl⟩
  rw [hV]
  go_enter Tryz.func124, Tryz.ntmps124
  go_wp2
  go_loopw [6] (fun i wr => ∃ k : Nat, i = .int .i64 k ∧ k ≤ ss.length ∧ Hid (Left ss s.data.toList k) ∧ w = wr) (fun i _ => ss.length - (intOf i).toNat)
  case atStart => exact ⟨0, rfl, Nat.zero_le _, Left.start _ _, rfl⟩
  case round =>
    obtain ⟨k, rfl, hk, HL, rfl⟩ := hrel
    by_cases hlt : k < ss.length
    · have hki : (k : Int) < (ss.length : Int) := by omega
      obtain ⟨x, hx⟩ : ∃ x, ss[k]? = some x := ⟨_, List.getElem?_eq_getElem hlt⟩
      have hc := hS k x hx
      rw [Nat.zero_add] at hc
      have hxe : (⟨x.toArray⟩ : ByteArray) = s ↔ x = s.data.toList := ⟨fun e => by rw [← e], fun e => by rw [e]⟩
      generalize (⟨x.toArray⟩ : ByteArray) = xs at hc hxe
      by_cases he : xs = s
      · subst he
        obtain rfl : ((k : Int), true) = V := by rw [← hV]; exact (Left.hit HL hx (hxe.1 rfl)).symm
        clear hV hS hx hxe HL
        go_wp2
        go_ret2
        exact ⟨rfl, rfl⟩
      · have HL' : Hid (Left ss s.data.toList (k + 1)) := Left.next HL hx (fun e => he (hxe.2 e))
        have hne := beq_false he
        clear hV hx hxe HL hS
        go_wp2
        exact ⟨⟨k + 1, by go_num, by omega, HL', trivial⟩, by simp [intOf]; omega⟩
    · have hki : ¬ (k : Int) < (ss.length : Int) := by omega
      obtain rfl : ((0 : Int), false) = V := by rw [← hV]; exact (Left.none HL (by omega)).symm
      clear hV HL hS
      go_wp2
      go_ret2
      exact ⟨rfl, rfl⟩

/-! ### pseudo-classes, by places -/
def wordsP : List (List UInt8) := [rootT, firstT, lastT, onlyT, emptyT]
theorem plain_idx (w : List UInt8) : plainV w = (idx wordsP w).map (fun n => 1 + (n : Int)) := by
  simp only [plainV, wordsP, idx]
  by_cases h1 : w = rootT
  · subst h1; rfl
  by_cases h2 : w = firstT
  · subst h2; rfl
  by_cases h3 : w = lastT
  · subst h3; rfl
  by_cases h4 : w = onlyT
  · subst h4; rfl
  by_cases h5 : w = emptyT
  · subst h5; rfl
  simp [h1, h2, h3, h4, h5, Ne.symm h1, Ne.symm h2, Ne.symm h3, Ne.symm h4, Ne.symm h5]
/-- What a list is that is read to its own end: up to the end of the tokens, or up to a parenthesis. -/
def listX (d : Nat) (r : List Bt) : Option (List Sel × List Bt) := (listV d r).bind fun x =>
  if d = 8 then (match x.2 with
    | [] => some (x.1, [])
    | _ => none)
  else match x.2 with
    | e :: r2 => if e.kind = 17 then some (x.1, r2) else none
    | [] => none
theorem listed_x {d : Nat} (hd : d < 8) (k : Int) (r : List Bt) : listedV (innerV (d + 1)) k r = (listX d r).map fun x => (.mk k 0 0 x.1, x.2) := by
  unfold listedV listX
  show (listV d r).bind _ = _
  cases listV d r with
  | none => rfl
  | some x =>
    obtain ⟨l, r2⟩ := x
    simp only [Option.bind_some]
    rw [if_neg (by omega)]
    cases r2 with
    | nil => rfl
    | cons e r2 =>
      by_cases h : e.kind = 17
      · simp [h]
      · simp [h]
theorem listed_0 (k : Int) (r : List Bt) : listedV (innerV 0) k r = none := rfl
theorem ps_at (L : Inner) (ts : List Bt) (a : Nat) : pseudoV L (ts.drop a) =
    if (at' ts a).kind = 1 then (plainV (lowOf (at' ts a))).map fun k => (.mk k 0 0 [], ts.drop (a + 1))
    else if (at' ts a).kind = 20 then
      if lowOf (at' ts a) = nthT then (nthV (ts.drop (a + 1))).map fun x => (.mk 6 x.1 x.2.1 [], x.2.2)
      else if lowOf (at' ts a) = notT then listedV L 7 (ts.drop (a + 1))
      else if lowOf (at' ts a) = isT then listedV L 8 (ts.drop (a + 1))
      else none
    else none := by
  by_cases hl : a < ts.length
  · rw [at_cons hl]; rfl
  · rw [(at_none (by omega)).1, (at_none (by omega)).2]; rfl
/-- What pseudo hands back. -/
def PsOut (n₀ R : Nat) (v : Value) (ts : List Bt) (d : Nat) (w : World) (a : Nat) (V : Option (Ps × List Bt)) (e : Ending) (w' : World) : Prop :=
  ∃ (x : Ps) (y : Value) (b : Nat) (bad : Bool), e = .returned (.agg #[.int .i64 x.kind, .int .i64 x.a, .int .i64 x.b, y]) ∧ SelsAt d (fun b => w.heap.size ≤ b) w' y x.list ∧ Pk n₀ w' R v ts b bad (8 - (d : Int)) ∧ a + 1 ≤ b ∧ ((bad = false ∧ V = some (x, ts.drop b) ∧ b ≤ ts.length) ∨ (bad = true ∧ V = none)) ∧ But R w w'
/-- What inner hands back. -/
def InOut (n₀ R : Nat) (v : Value) (ts : List Bt) (d : Nat) (w : World) (a : Nat) (e : Ending) (w' : World) : Prop :=
  ∃ (l : List Sel) (y : Value) (b : Nat) (bad : Bool), e = .returned y ∧ SelsAt d (fun b => w.heap.size ≤ b) w' y l ∧ Pk n₀ w' R v ts b bad (8 - (d : Int)) ∧ a ≤ b ∧ ((bad = false ∧ (∀ k, listedV (innerV d) k (ts.drop a) = some (.mk k 0 0 l, ts.drop b)) ∧ b ≤ ts.length) ∨ (bad = true ∧ ∀ k, listedV (innerV d) k (ts.drop a) = none)) ∧ But R w w'
def InOK (n₀ d : Nat) : Prop := ∀ (R : Nat) (v : Value) (ts : List Bt) (a : Nat) (w : World), Pk n₀ w R v ts a false (8 - (d : Int)) → a ≤ ts.length → Sl.Good ts → Calls Tryz.prog 126 #[.pointer (some ⟨R, 0, none⟩)] w (InOut n₀ R v ts d w a)
/-- Where pseudo stands: its result, its token, the reader. -/
structure PsSt (n₀ R : Nat) (v : Value) (ts : List Bt) (deep : Int) (w : World) (X : Nat) (T : Bt) (b : Nat) (bad : Bool) (W : World) : Prop where
  z : Blk W w.heap.size 40 [.int .i64 0, .int .i64 0, .int .i64 0, .slice none 0 0]
  t : Blk W X 105 [.int .i64 T.kind, .string T.text, .int .i64 T.n, .bool T.whole, .int .i64 T.c]
  p : Pk n₀ W R v ts b bad deep
  but : But R w W
  hX : w.heap.size < X
  hR : R < w.heap.size
section
variable {n₀ R : Nat} {v : Value} {ts : List Bt} {deep : Int} {w : World} {X : Nat} {T : Bt} {b : Nat} {bad : Bool} {W W' : World}
theorem PsSt.below (h : PsSt n₀ R v ts deep w X T b bad W) (hb : Below W.heap.size W W') : PsSt n₀ R v ts deep w X T b bad W' := ⟨h.z.below hb h.z.lt, h.t.below hb h.t.lt, h.p.below hb, h.but.trans (But.of_below hb), h.hX, h.hR⟩
theorem PsSt.go (h : PsSt n₀ R v ts deep w X T b bad W) {b' : Nat} {bad' : Bool} (hP : Pk n₀ W' R v ts b' bad' deep) (hb : But R W W') : PsSt n₀ R v ts deep w X T b' bad' W' := by
  have := h.hX
  have := h.hR
  exact ⟨hb.blk h.z (by omega), hb.blk h.t (by omega), hP, h.but.trans hb, h.hX, h.hR⟩
theorem PsSt.at (h : PsSt n₀ R v ts deep w X T b bad W) {b' : Nat} (hb : b' ≤ ts.length + 10) : PsSt n₀ R v ts deep w X T b' bad (W.setCell ⟨R, 1, none⟩ (.int .i64 b')) := h.go (h.p.set hb) (But.set R W 1 _)
theorem PsSt.spoil (h : PsSt n₀ R v ts deep w X T b bad W) : PsSt n₀ R v ts deep w X T b true (W.setCell ⟨R, 2, none⟩ (.bool true)) := h.go (h.p.spoil true) (But.set R W 2 _)
end
theorem PsSt.out {n₀ R : Nat} {v : Value} {ts : List Bt} {d : Nat} {w : World} {X : Nat} {T : Bt} {b : Nat} {bad : Bool} {W : World} (h : PsSt n₀ R v ts (8 - (d : Int)) w X T b bad W) {a : Nat} {V : Option (Ps × List Bt)} (hab : a + 1 ≤ b) (x : Ps) (y : Value) (hy : SelsAt d (fun b => w.heap.size < b) W y x.list) (hv : (bad = false ∧ V = some (x, ts.drop b) ∧ b ≤ ts.length) ∨ (bad = true ∧ V = none)) :
    (loadVar 40 ⟨w.heap.size, 0, none⟩).run Tryz.prog (set4 W w.heap.size (.int .i64 x.kind) (.int .i64 x.a) (.int .i64 x.b) y) = .ok (.agg #[.int .i64 x.kind, .int .i64 x.a, .int .i64 x.b, y]) (set4 W w.heap.size (.int .i64 x.kind) (.int .i64 x.a) (.int .i64 x.b) y) ∧
    PsOut n₀ R v ts d w a V (.returned (.agg #[.int .i64 x.kind, .int .i64 x.a, .int .i64 x.b, y])) (set4 W w.heap.size (.int .i64 x.kind) (.int .i64 x.a) (.int .i64 x.b) y) := by
  have h1 := h.hR
  have h2 := h.p.low
  refine ⟨load_ps (blk_set4 h.z _ _ _ _), x, y, b, bad, rfl, ?_, ?_, hab, hv, ?_⟩
  · refine hy.fr d ⟨(grown_set4 W _ _ _ _ _).size, fun c hc hl => ⟨(grown_set4 W w.heap.size _ _ _ _).block c hl.lt (fun e => ?_), by omega⟩⟩
    cases e
    omega
  · exact h.p.other4 (by omega) (by omega) _ _ _ _
  · exact But.fresh4 h.but (Nat.le_refl _) _ _ _ _

end Go.Proofs.YtcicppadjipndaaGreat.Sr
