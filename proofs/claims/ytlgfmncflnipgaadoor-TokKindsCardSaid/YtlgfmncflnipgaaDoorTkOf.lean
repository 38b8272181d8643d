/- Slices of tokens in memory; the laws' own SameTokens at two slices of one list; the laws' own Of at every slice of bytes. -/
import Derived.Test.YtlgfmncflnipgaaDoorTkAll
import Derived.Test.YtlgfmncflnipgaaDoorBack
import Derived.Test.YtlgfmncflnipgaaDoorBsF
import Derived.Lib.SlBytesConst
import Derived.Lib.ConvBytes
namespace Go.Proofs.YtlgfmncflnipgaaDoor
open Go Go.RowKit Go.Shelf

/-- The cells of the token t at a place. -/
def CellsAt (W : World) (bk o : Nat) (t : Tk) : Prop :=
  W.cell? ⟨bk, o, none⟩ = some (.int .i64 t.kind) ∧ W.cell? ⟨bk, o + 1, none⟩ = some (.string (txtOf t.text)) ∧ W.cell? ⟨bk, o + 2, none⟩ = some (.int .i64 t.n) ∧ W.cell? ⟨bk, o + 3, none⟩ = some (.bool t.whole) ∧ W.cell? ⟨bk, o + 4, none⟩ = some (.int .i64 t.c)
/-- THE SLICE VALUE v HOLDS THE TOKENS ts, in a block below n₀. -/
def TksAt (n₀ : Nat) (W : World) (v : Value) (ts : List Tk) : Prop :=
  (ts = [] ∧ ∃ p cap, v = .slice p 0 cap) ∨ ∃ bk off cap, v = .slice (some ⟨bk, off, none⟩) ts.length cap ∧ bk < n₀ ∧ ∀ j t, ts[j]? = some t → CellsAt W bk (off + j * 5) t
theorem TksAt.below {n₀ : Nat} {X Y : World} {v : Value} {l : List Tk} (h : TksAt n₀ X v l) (hb : Below n₀ X Y) : TksAt n₀ Y v l := by
  rcases h with h | ⟨bk, off, cap, rfl, hbk, h⟩
  · exact .inl h
  · refine .inr ⟨bk, off, cap, rfl, hbk, fun j t hj => ?_⟩
    obtain ⟨h0, h1, h2, h3, h4⟩ := h j t hj
    exact ⟨(hb.cell (p := ⟨bk, _, none⟩) hbk).trans h0, (hb.cell (p := ⟨bk, _, none⟩) hbk).trans h1, (hb.cell (p := ⟨bk, _, none⟩) hbk).trans h2, (hb.cell (p := ⟨bk, _, none⟩) hbk).trans h3, (hb.cell (p := ⟨bk, _, none⟩) hbk).trans h4⟩
theorem TksAt.mono {n₀ n₁ : Nat} {X : World} {v : Value} {l : List Tk} (h : TksAt n₀ X v l) (hn : n₀ ≤ n₁) : TksAt n₁ X v l := by
  rcases h with h | ⟨bk, off, cap, rfl, hbk, h⟩
  · exact .inl h
  · exact .inr ⟨bk, off, cap, rfl, by omega, h⟩
theorem TksAt.len {n₀ : Nat} {X : World} {v : Value} {l : List Tk} (h : TksAt n₀ X v l) : ∃ p cap, v = .slice p l.length cap := by
  rcases h with ⟨rfl, p, cap, rfl⟩ | ⟨bk, off, cap, rfl, _⟩
  · exact ⟨_, _, rfl⟩
  · exact ⟨_, _, rfl⟩
theorem tksCells_length : ∀ l : List Tk, (tksCells l).length = l.length * 5
  | [] => rfl
  | t :: l => by
    have := tksCells_length l
    unfold tksCells at this ⊢
    rw [List.flatMap_cons, List.length_append, this, List.length_cons]
    show 5 + _ = _
    omega
theorem tksCells_at : ∀ (l : List Tk) (j : Nat) (t : Tk), l[j]? = some t → ∀ i, i < 5 → (tksCells l)[j * 5 + i]? = (tkCells t)[i]?
  | [], j, t, h => by simp at h
  | x :: l, 0, t, h => by
    intro i hi
    obtain rfl : x = t := by simpa using h
    unfold tksCells
    rw [List.flatMap_cons, Nat.zero_mul, Nat.zero_add, List.getElem?_append_left (by show i < 5; exact hi)]
  | x :: l, j + 1, t, h => by
    intro i hi
    have ih := tksCells_at l j t (by simpa using h) i hi
    unfold tksCells at ih ⊢
    rw [List.flatMap_cons, List.getElem?_append_right (by show 5 ≤ _; omega), ← ih]
    congr 1
    show (j + 1) * 5 + i - 5 = _
    omega
/-- A row of tokens that the call owns. -/
theorem TksAt.of_owns {X : World} {b : Nat} {v : Value} {l : List Tk} (h : X.ownsRow b 27 5 v l.length (tksCells l)) : TksAt X.heap.size X v l := by
  rcases h.2 with ⟨hv, hm⟩ | ⟨g, cap, cur, hv, hg, hb, h1, h2, h3, h4⟩
  · exact .inl ⟨List.length_eq_zero_iff.1 hm, none, 0, hv⟩
  · refine .inr ⟨g, 0, cap, hv, (Array.getElem?_eq_some_iff.1 hb).1, fun j t hj => ?_⟩
    have hlt : j < l.length := (List.getElem?_eq_some_iff.1 hj).1
    have key : ∀ i, i < 5 → X.cell? ⟨g, 0 + j * 5 + i, none⟩ = (tkCells t)[i]? := fun i hi => by
      rw [cell_of_block hb, Nat.zero_add, ← tksCells_at l j t hj i hi, ← h4, List.getElem?_take_of_lt (by omega)]
      simp
    exact ⟨key 0 (by omega), key 1 (by omega), key 2 (by omega), key 3 (by omega), key 4 (by omega)⟩


/-! ### the laws' own Of -/
/-- What the walks ask of the world. -/
def LTabs (n₀ : Nat) (W : World) : Prop := Tabs n₀ W ∧ RTabs n₀ W
theorem LTabs.below {n₀ : Nat} {X Y : World} (h : LTabs n₀ X) (hb : Below n₀ X Y) : LTabs n₀ Y := ⟨h.1.below hb, h.2.below hb⟩
theorem LTabs.mono {n₀ n₁ : Nat} {X : World} (h : LTabs n₀ X) (hn : n₀ ≤ n₁) : LTabs n₁ X := ⟨h.1.mono hn, h.2.mono hn⟩
theorem LTabs.next {X Y : World} (h : LTabs X.heap.size X) (hb : Below X.heap.size X Y) : LTabs Y.heap.size Y := (h.below hb).mono hb.size
/-- The tokens of bytes. -/
def tksOf (bs : List UInt8) : List Tk := toks nvOf (prep (ipts bs))
theorem prep_fixed (bs : List UInt8) : (prep (ipts bs)).map fixC = prep (ipts bs) := map_fixC_same _ (fun p hp => (prepared_clean bs p hp).2.2.2)
theorem prep_len (bs : List UInt8) : (prep (ipts bs)).length ≤ bs.length := Nat.le_trans (prep_length_le _) (ipts_length_le _)
theorem tksOf_len (bs : List UInt8) : (tksOf bs).length ≤ bs.length := Nat.le_trans (toks_le _ _) (prep_len bs)

set_option maxHeartbeats 1000000 in
theorem ofB_any (v : Value) (bs : List UInt8) (w : World) (hB : BytesAt w.heap.size w v bs) (hT : LTabs w.heap.size w) (hl : bs.length ≤ 1000000) :
    Calls Tryd.prog 5 #[v] w fun e w' => ∃ v', e = .returned v' ∧ w'.ownsRow w.heap.size 27 5 v' (tksOf bs).length (tksCells (tksOf bs)) ∧ Below w.heap.size w w' := by
  have h1 := prepare_any v bs w hB hT.1 (by omega)
  obtain ⟨p, cap, rfl⟩ := bytes_list hB
  go_enter Tryd.func5, Tryd.ntmps5
  go_wp2_with fail
  refine h1.mono ?_
  clear h1
  rintro e w1 ⟨v1, rfl, hr1, b1⟩
  have h2 := tokens_any v1 (prep (ipts bs)) w1 (IntsAt.of_owns hr1 rfl) (by have := prep_len bs; omega) (hT.next b1).2
  rw [prep_fixed] at h2
  go_wp2_with fail
  refine h2.mono ?_
  clear h2
  rintro e w2 ⟨v2, rfl, hr2, b2⟩
  go_wp2
  go_ret
  exact ⟨v2, rfl, owns_base hr2 b1.size, b1.trans (b2.mono b1.size)⟩

/-- Bytes in a new block. -/
theorem bytes_new (w : World) (l : List UInt8) (t : TypeId) (fz : Nat × Nat) (hl : l.length ≤ 1000000) : BytesAt (w.heap.size + 1) (w.alloc (.cells (ubytes l).toArray t fz)) (.slice (some ⟨w.heap.size, 0, none⟩) l.length l.length) l :=
  .inr ⟨w.heap.size, 0, l.length, rfl, Nat.le_refl _, by unfold maxLen; omega, by omega, fun j u hj => by
    rw [cell_of_block (World.alloc_heap_new w _) _, Nat.zero_add]
    unfold ubytes
    simp [hj]⟩
theorem alive_toks : tksOf [97, 58, 49, 46, 53, 101, 109] = [⟨1, [97], 0, false, 0⟩, ⟨11, [], 0, false, 0⟩, ⟨8, [101, 109], 1500, false, 0⟩] := by decide +kernel
theorem alive_txt1 : txtOf [97] = ⟨#[97]⟩ := by decide +kernel
theorem alive_txt2 : txtOf [101, 109] = ⟨#[101, 109]⟩ := by decide +kernel

set_option maxRecDepth 100000 in
set_option maxHeartbeats 2000000 in
theorem alive_any (w : World) (hT : LTabs w.heap.size w) :
    Calls Tryd.prog 4 #[] w fun e w' => e = .returned (.bool true) ∧ Below w.heap.size w w' := by
  have hcv := Lib.run_convert_bytes_const (P := Tryd.prog) w 22 5 #[.int .u8 97, .int .u8 58, .int .u8 49, .int .u8 46, .int .u8 53, .int .u8 101, .int .u8 109] 7 7 Tryd.underlying22 Tryd.underlying5
  have hb : Below w.heap.size w (w.alloc (.cells #[.int .u8 97, .int .u8 58, .int .u8 49, .int .u8 46, .int .u8 53, .int .u8 101, .int .u8 109] 5 (7, 7 + 1))) := (Below.refl _ w).alloc (Nat.le_refl _) _
  have hB : BytesAt (w.alloc (.cells #[.int .u8 97, .int .u8 58, .int .u8 49, .int .u8 46, .int .u8 53, .int .u8 101, .int .u8 109] 5 (7, 7 + 1))).heap.size (w.alloc (.cells #[.int .u8 97, .int .u8 58, .int .u8 49, .int .u8 46, .int .u8 53, .int .u8 101, .int .u8 109] 5 (7, 7 + 1))) (.slice (some ⟨w.heap.size, 0, none⟩) 7 7) [97, 58, 49, 46, 53, 101, 109] := by
    have := bytes_new w [97, 58, 49, 46, 53, 101, 109] 5 (7, 7 + 1) (by decide)
    rwa [← World.size_alloc w] at this
  have h1 := prepare_any _ _ _ hB (hT.next hb).1 (by simp)
  go_enter Tryd.func4, Tryd.ntmps4
  go_wp2_with fail
  generalize w.alloc (.cells #[.int .u8 97, .int .u8 58, .int .u8 49, .int .u8 46, .int .u8 53, .int .u8 101, .int .u8 109] 5 (7, 7 + 1)) = w0 at *
  refine h1.mono ?_
  clear h1 hB hcv
  rintro e w1 ⟨v1, rfl, hr1, b1⟩
  have b01 := hb.trans (b1.mono hb.size)
  have h2 := tokens_any v1 _ w1 (IntsAt.of_owns hr1 rfl) (by have := prep_len [97, 58, 49, 46, 53, 101, 109]; simp at this; omega) (hT.next b01).2
  rw [prep_fixed, show toks nvOf (prep (ipts [97, 58, 49, 46, 53, 101, 109])) = _ from alive_toks] at h2
  go_wp2_with fail
  refine h2.mono ?_
  clear h2 hr1
  rintro e w2 ⟨v2, rfl, hr2, b2⟩
  have hbb := b01.trans (b2.mono b01.size)
  rcases TksAt.of_owns hr2 with ⟨h, _⟩ | ⟨g, off, cap, rfl, _, hc⟩
  · cases h
  · obtain ⟨a0, a1, a2, a3, a4⟩ := hc 0 _ rfl
    obtain ⟨d0, d1, d2, d3, d4⟩ := hc 1 _ rfl
    obtain ⟨e0, e1, e2, e3, e4⟩ := hc 2 _ rfl
    rw [alive_txt1] at a1
    rw [alive_txt2] at e1
    simp only [Nat.zero_mul, Nat.add_zero] at a0 a1 a2 a3 a4
    simp only [Nat.reduceMul, Nat.add_assoc, Nat.reduceAdd] at d0 d1 d2 d3 d4 e0 e1 e2 e3 e4
    clear hc hr2 hb b1 b2 b01
    go_wp2
    go_ret
    exact ⟨rfl, hbb⟩

end Go.Proofs.YtlgfmncflnipgaaDoor
