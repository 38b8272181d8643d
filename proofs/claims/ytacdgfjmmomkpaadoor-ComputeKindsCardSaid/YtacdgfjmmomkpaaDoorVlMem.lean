/- Slices of tokens, blocks of cells, values in blocks: what the walks of package value ask of the world. -/
import Derived.WalkKit
import Derived.Below
import Derived.OwnWalk
import Derived.WalkSmall
import Derived.Laws.OwnMore
import Derived.Laws.Rows
import Derived.Laws.IdiomStrings
import Derived.Maps.AppendAt
import Derived.Deep.QuietTactic
import Derived.Deep.RegionWith
import Derived.Deep.DeepCutAuto
import Derived.Deep.CutBlock
import Derived.Deep.RegionHeld
import Derived.BigQuiet
import Derived.Test.YtacdgfjmmomkpaaDoorProg
import Derived.Test.YtacdgfjmmomkpaaDoorVlSpec
namespace Go.Proofs.YtacdgfjmmomkpaaDoor.Vl
open Go Go.RowKit

theorem cell_of_block {X : World} {g : Nat} {cur : Array Value} {t : TypeId} {fz : Nat × Nat} (h : X.heap[g]? = some (.cells cur t fz)) (j : Nat) : X.cell? ⟨g, j, none⟩ = cur[j]? := by
  unfold World.cell?
  rw [h]
  rfl
theorem below_drew {n₀ : Nat} {a b : World} (h : Below n₀ a b) : Below n₀ a b.drew := ⟨h.os, h.tape, h.output, h.size, h.block⟩
theorem below_drewN (w : World) (n : Nat) : Below w.heap.size w (w.drewN n) := ⟨rfl, rfl, rfl, Nat.le_refl _, fun _ _ => rfl⟩
theorem below_next {w W W' : World} (h : Below w.heap.size w W) (hb : Below W.heap.size W W') : Below w.heap.size w W' := h.trans (hb.mono h.size)
theorem addr_add (bk off j : Nat) : (⟨bk, off, none⟩ : Addr).add j = ⟨bk, off + j, none⟩ := by
  cases j with
  | zero => rfl
  | succ j => simp [Addr.add]

/-- A token; its text by bytes. -/
structure Bt where
  kind : Int
  text : ByteArray
  n : Int
  whole : Bool
  c : Int
deriving DecidableEq
def btCells (t : Bt) : List Value := [.int .i64 t.kind, .string t.text, .int .i64 t.n, .bool t.whole, .int .i64 t.c]
def btsCells (l : List Bt) : List Value := l.flatMap btCells
/-- The cells of the token t at a place. -/
def BtAt (W : World) (bk o : Nat) (t : Bt) : Prop :=
  W.cell? ⟨bk, o, none⟩ = some (.int .i64 t.kind) ∧ W.cell? ⟨bk, o + 1, none⟩ = some (.string t.text) ∧ W.cell? ⟨bk, o + 2, none⟩ = some (.int .i64 t.n) ∧ W.cell? ⟨bk, o + 3, none⟩ = some (.bool t.whole) ∧ W.cell? ⟨bk, o + 4, none⟩ = some (.int .i64 t.c)
/-- THE SLICE VALUE v HOLDS THE TOKENS ts, in a block below n₀. -/
def BtsAt (n₀ : Nat) (W : World) (v : Value) (ts : List Bt) : Prop :=
  (ts = [] ∧ (v = .slice none 0 0 ∨ ∃ x cap, v = .slice (some x) 0 cap ∧ cap ≤ maxLen)) ∨ ∃ bk off cap, v = .slice (some ⟨bk, off, none⟩) ts.length cap ∧ ts.length ≤ cap ∧ cap ≤ maxLen ∧ bk < n₀ ∧ ∀ j t, ts[j]? = some t → BtAt W bk (off + j * 5) t
theorem BtAt.below {n₀ : Nat} {X Y : World} {bk o : Nat} {t : Bt} (h : BtAt X bk o t) (hb : Below n₀ X Y) (hbk : bk < n₀) : BtAt Y bk o t := by
  obtain ⟨h0, h1, h2, h3, h4⟩ := h
  exact ⟨(hb.cell (p := ⟨bk, _, none⟩) hbk).trans h0, (hb.cell (p := ⟨bk, _, none⟩) hbk).trans h1, (hb.cell (p := ⟨bk, _, none⟩) hbk).trans h2, (hb.cell (p := ⟨bk, _, none⟩) hbk).trans h3, (hb.cell (p := ⟨bk, _, none⟩) hbk).trans h4⟩
theorem BtsAt.below {n₀ : Nat} {X Y : World} {v : Value} {l : List Bt} (h : BtsAt n₀ X v l) (hb : Below n₀ X Y) : BtsAt n₀ Y v l := by
  rcases h with h | ⟨bk, off, cap, rfl, h1, h2, hbk, h⟩
  · exact .inl h
  · exact .inr ⟨bk, off, cap, rfl, h1, h2, hbk, fun j t hj => (h j t hj).below hb hbk⟩
theorem BtsAt.mono {n₀ n₁ : Nat} {X : World} {v : Value} {l : List Bt} (h : BtsAt n₀ X v l) (hn : n₀ ≤ n₁) : BtsAt n₁ X v l := by
  rcases h with h | ⟨bk, off, cap, rfl, h1, h2, hbk, h⟩
  · exact .inl h
  · exact .inr ⟨bk, off, cap, rfl, h1, h2, by omega, h⟩
theorem BtsAt.next {X Y : World} {v : Value} {l : List Bt} (h : BtsAt X.heap.size X v l) (hb : Below X.heap.size X Y) : BtsAt Y.heap.size Y v l := (h.below hb).mono hb.size
theorem BtsAt.len {n₀ : Nat} {X : World} {v : Value} {l : List Bt} (h : BtsAt n₀ X v l) : ∃ p cap, v = .slice p l.length cap := by
  rcases h with ⟨rfl, rfl | ⟨x, cap, rfl, _⟩⟩ | ⟨bk, off, cap, rfl, _⟩
  · exact ⟨_, _, rfl⟩
  · exact ⟨_, _, rfl⟩
  · exact ⟨_, _, rfl⟩
theorem BtsAt.short {n₀ : Nat} {X : World} {v : Value} {l : List Bt} (h : BtsAt n₀ X v l) : l.length ≤ 9223372036854775807 := by
  rcases h with ⟨rfl, _⟩ | ⟨bk, off, cap, _, h1, h2, _⟩
  · simp
  · unfold maxLen at h2
    omega
/-- A token, where there is one. -/
theorem BtsAt.get {n₀ : Nat} {X : World} {p : Option Addr} {n cap : Nat} {l : List Bt} (h : BtsAt n₀ X (.slice p n cap) l) {k : Nat} {t : Bt} (hk : l[k]? = some t) : ∃ bk off, p = some ⟨bk, off, none⟩ ∧ bk < n₀ ∧ l.length ≤ cap ∧ cap ≤ maxLen ∧ BtAt X bk (off + k * 5) t := by
  rcases h with ⟨rfl, _⟩ | ⟨bk, off, c, e, h1, h2, hb, h⟩
  · simp at hk
  · cases e
    exact ⟨bk, off, rfl, hb, h1, h2, h k t hk⟩
/-- A part of a slice. -/
theorem BtsAt.part {n₀ : Nat} {X : World} {bk off n cap : Nat} {l : List Bt} (h : BtsAt n₀ X (.slice (some ⟨bk, off, none⟩) n cap) l) {i j : Nat} (hij : i ≤ j) (hj : j ≤ l.length) (hc : cap ≤ maxLen) (hi : l ≠ []) : BtsAt n₀ X (.slice (some ⟨bk, off + i * 5, none⟩) (j - i) (cap - i)) ((l.drop i).take (j - i)) := by
  rcases h with ⟨rfl, _⟩ | ⟨bk', off', c, e, h1, h2, hb, h⟩
  · exact absurd rfl hi
  · cases e
    have hl : ((l.drop i).take (j - i)).length = j - i := by rw [List.length_take, List.length_drop]; omega
    refine .inr ⟨bk, off + i * 5, cap - i, by rw [hl], by rw [hl]; omega, by omega, hb, fun k t hk => ?_⟩
    rw [List.getElem?_take] at hk
    split at hk
    · rw [List.getElem?_drop] at hk
      have := h (i + k) t hk
      rw [show off + (i + k) * 5 = off + i * 5 + k * 5 by omega] at this
      exact this
    · cases hk
theorem btsCells_length : ∀ l : List Bt, (btsCells l).length = l.length * 5
  | [] => rfl
  | t :: l => by
    have := btsCells_length l
    unfold btsCells at this ⊢
    rw [List.flatMap_cons, List.length_append, this, List.length_cons]
    show 5 + _ = _
    omega
theorem btsCells_at : ∀ (l : List Bt) (j : Nat) (t : Bt), l[j]? = some t → ∀ i, i < 5 → (btsCells l)[j * 5 + i]? = (btCells t)[i]?
  | [], j, t, h => by simp at h
  | x :: l, 0, t, h => by
    intro i hi
    obtain rfl : x = t := by simpa using h
    unfold btsCells
    rw [List.flatMap_cons, Nat.zero_mul, Nat.zero_add, List.getElem?_append_left (by show i < 5; exact hi)]
  | x :: l, j + 1, t, h => by
    intro i hi
    have ih := btsCells_at l j t (by simpa using h) i hi
    unfold btsCells at ih ⊢
    rw [List.flatMap_cons, List.getElem?_append_right (by show 5 ≤ _; omega), ← ih]
    congr 1
    show (j + 1) * 5 + i - 5 = _
    omega
theorem btsCells_append (a b : List Bt) : btsCells (a ++ b) = btsCells a ++ btsCells b := by simp [btsCells]
theorem btsCells_one (l : List Bt) : ∀ u ∈ btsCells l, u.oneCell' = true := fun u hu => by
  unfold btsCells at hu
  obtain ⟨t, _, ht⟩ := List.mem_flatMap.1 hu
  simp [btCells] at ht
  rcases ht with rfl | rfl | rfl | rfl | rfl <;> rfl
/-! ### blocks -/
/-- A block of cells. -/
def Blk (W : World) (B : Nat) (t : TypeId) (cs : List Value) : Prop := W.heap[B]? = some (.cells cs.toArray t (0, 0))
theorem Blk.lt {W : World} {B : Nat} {t : TypeId} {cs : List Value} (h : Blk W B t cs) : B < W.heap.size := (Array.getElem?_eq_some_iff.1 h).1
theorem Blk.kept {W W' : World} {row : Option Nat} {B : Nat} {t : TypeId} {cs : List Value} (h : Blk W B t cs) (hg : W.grownBy W' row) (hne : some B ≠ row) : Blk W' B t cs := (hg.block B h.lt hne).trans h
theorem Blk.below {W W' : World} {n : Nat} {B : Nat} {t : TypeId} {cs : List Value} (h : Blk W B t cs) (hb : Below n W W') (hn : B < n) : Blk W' B t cs := (hb.block B hn).trans h
theorem Blk.new (w : World) (t : TypeId) (cs : List Value) : Blk (w.alloc (.cells cs.toArray t)) w.heap.size t cs := heap_alloc_new w _
theorem blk3 {W : World} {B : Nat} {t : TypeId} {a b c : Value} (h : Blk W B t [a, b, c]) : (W.cell? ⟨B, 0, none⟩ = some a ∧ W.cell? ⟨B, 1, none⟩ = some b ∧ W.cell? ⟨B, 2, none⟩ = some c) ∧ W.frozen? ⟨B, 0, none⟩ = false ∧ W.frozen? ⟨B, 1, none⟩ = false ∧ W.frozen? ⟨B, 2, none⟩ = false := by
  simp [World.cell?, World.frozen?, show W.heap[B]? = _ from h]
def set3 (W : World) (B : Nat) (a b c : Value) : World := ((W.setCell ⟨B, 0, none⟩ a).setCell ⟨B, 1, none⟩ b).setCell ⟨B, 2, none⟩ c
theorem blk_set3 {W : World} {B : Nat} {t : TypeId} {a b c : Value} (h : Blk W B t [a, b, c]) (a' b' c' : Value) : Blk (set3 W B a' b' c') B t [a', b', c'] := by
  unfold Blk at h ⊢
  simp [set3, World.setCell, Array.getElem?_modify, h]
theorem blk5 {W : World} {B : Nat} {t : TypeId} {a b c d e : Value} (h : Blk W B t [a, b, c, d, e]) : (W.cell? ⟨B, 0, none⟩ = some a ∧ W.cell? ⟨B, 1, none⟩ = some b ∧ W.cell? ⟨B, 2, none⟩ = some c ∧ W.cell? ⟨B, 3, none⟩ = some d ∧ W.cell? ⟨B, 4, none⟩ = some e) ∧ W.frozen? ⟨B, 0, none⟩ = false ∧ W.frozen? ⟨B, 1, none⟩ = false ∧ W.frozen? ⟨B, 2, none⟩ = false ∧ W.frozen? ⟨B, 3, none⟩ = false ∧ W.frozen? ⟨B, 4, none⟩ = false := by
  simp [World.cell?, World.frozen?, show W.heap[B]? = _ from h]
def set5 (W : World) (B : Nat) (a b c d e : Value) : World := ((((W.setCell ⟨B, 0, none⟩ a).setCell ⟨B, 1, none⟩ b).setCell ⟨B, 2, none⟩ c).setCell ⟨B, 3, none⟩ d).setCell ⟨B, 4, none⟩ e
theorem blk_set5 {W : World} {B : Nat} {t : TypeId} {a b c d e : Value} (h : Blk W B t [a, b, c, d, e]) (a' b' c' d' e' : Value) : Blk (set5 W B a' b' c' d' e') B t [a', b', c', d', e'] := by
  unfold Blk at h ⊢
  simp [set5, World.setCell, Array.getElem?_modify, h]
theorem grown_set (W : World) (b i : Nat) (v : Value) : W.grownBy (W.setCell ⟨b, i, none⟩ v) (some b) :=
  ⟨rfl, rfl, rfl, by simp [World.setCell], fun i _ hne => Below.heap_setCell _ _ _ _ (fun e => hne (by rw [e]))⟩
theorem grown_set3 (W : World) (B : Nat) (a b c : Value) : W.grownBy (set3 W B a b c) (some B) := ((grown_set _ _ _ _).trans (grown_set _ _ _ _)).trans (grown_set _ _ _ _)
theorem grown_set5 (W : World) (B : Nat) (a b c d e : Value) : W.grownBy (set5 W B a b c d e) (some B) :=
  ((((grown_set _ _ _ _).trans (grown_set _ _ _ _)).trans (grown_set _ _ _ _)).trans (grown_set _ _ _ _)).trans (grown_set _ _ _ _)
theorem below_grown {n : Nat} {w X Y : World} {B : Nat} (h : Below n w X) (hg : X.grownBy Y (some B)) (hn : n ≤ X.heap.size) (hB : n ≤ B) : Below n w Y := h.grown hg hn (fun r e => by cases e; exact hB)

theorem infoVal : (Tryd.prog.info? 25).map (·.size) = some 2 := by kernel_rfl
theorem load_val {w : World} {g : Nat} {a b : Value} (h : Blk w g 25 [a, b]) : (loadVar 25 ⟨g, 0, none⟩).run Tryd.prog w = .ok (.agg #[a, b]) w :=
  run_loadVar_row w g _ 25 #[a, b] (0, 0) _ h Tryd.underlying25 rfl infoVal
theorem blk2 {W : World} {B : Nat} {t : TypeId} {a b : Value} (h : Blk W B t [a, b]) : (W.cell? ⟨B, 0, none⟩ = some a ∧ W.cell? ⟨B, 1, none⟩ = some b) ∧ W.frozen? ⟨B, 0, none⟩ = false ∧ W.frozen? ⟨B, 1, none⟩ = false := by
  simp [World.cell?, World.frozen?, show W.heap[B]? = _ from h]
def set2 (W : World) (B : Nat) (a b : Value) : World := (W.setCell ⟨B, 0, none⟩ a).setCell ⟨B, 1, none⟩ b
theorem blk_set2 {W : World} {B : Nat} {t : TypeId} {a b : Value} (h : Blk W B t [a, b]) (a' b' : Value) : Blk (set2 W B a' b') B t [a', b'] := by
  unfold Blk at h ⊢
  simp [set2, World.setCell, Array.getElem?_modify, h]
theorem grown_set2 (W : World) (B : Nat) (a b : Value) : W.grownBy (set2 W B a b) (some B) := (grown_set _ _ _ _).trans (grown_set _ _ _ _)
/-- A struct and a value as results. -/
theorem results_struct_tmp {fn : Func} {p q : Tmp} {ty : TypeId} (h : fn.results = #[.cell p ty, .tmp q]) (tmps : Array Value) (w : World) (g : Nat) (x : Value)
    (hp : tmps.getD p undef = .pointer (some ⟨g, 0, none⟩)) (hl : (loadVar ty ⟨g, 0, none⟩).run Tryd.prog w = .ok x w) :
    (results fn tmps).run Tryd.prog w = .ok (.tuple #[x, tmps.getD q undef]) w := by
  have hp' : tmps[p]?.getD undef = .pointer (some ⟨g, 0, none⟩) := by simpa using hp
  simp [results, h, hp', asAddr, hl]

end Go.Proofs.YtacdgfjmmomkpaaDoor.Vl
