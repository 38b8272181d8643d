/- A table of package atom in memory: its two cells, its list and its map; what a call that writes it leaves alone. -/
import Derived.Test.YtbgcnmebmbjdjaaProg
import Derived.Test.YtbgcnmebmbjdjaaShelf
import Derived.Maps.OwnSet
import Derived.Maps.AppendAt
import Derived.Deep.QuietTactic
import Derived.Deep.RegionWith
import Derived.Deep.DeepCutAuto
import Derived.BigQuiet
import Derived.WalkKit
namespace Go.Proofs.Ytbgcnmebmbjdjaa
open Go Go.RowKit Go.Shelf Go.Maps

/-! ### what is left alone -/
/-- Of the blocks that were there those that 'keep' names are as they were. -/
structure Kept (keep : Nat → Prop) (w w' : World) : Prop where
  os : w'.os = w.os
  tape : w'.tape = w.tape
  output : w'.output = w.output
  size : w.heap.size ≤ w'.heap.size
  block : ∀ k, k < w.heap.size → keep k → w'.heap[k]? = w.heap[k]?

theorem Kept.refl (keep : Nat → Prop) (w : World) : Kept keep w w := ⟨rfl, rfl, rfl, Nat.le_refl _, fun _ _ _ => rfl⟩
theorem Kept.trans {keep : Nat → Prop} {a b c : World} (h : Kept keep a b) (k : Kept keep b c) : Kept keep a c :=
  ⟨k.os.trans h.os, k.tape.trans h.tape, k.output.trans h.output, Nat.le_trans h.size k.size, fun i hi hk => (k.block i (Nat.lt_of_lt_of_le hi h.size) hk).trans (h.block i hi hk)⟩
theorem Kept.mono {keep keep' : Nat → Prop} {w w' : World} (h : Kept keep w w') (hk : ∀ k, k < w.heap.size → keep' k → keep k) : Kept keep' w w' := ⟨h.os, h.tape, h.output, h.size, fun i hi hi' => h.block i hi (hk i hi hi')⟩
theorem Kept.of_below {keep : Nat → Prop} {w w' : World} (h : Below w.heap.size w w') : Kept keep w w' := ⟨h.os, h.tape, h.output, h.size, fun i hi _ => h.block i hi⟩
theorem Kept.of_grown {keep : Nat → Prop} {w w' : World} {row : Option Nat} (h : w.grownBy w' row) (hr : ∀ k, row = some k → ¬ keep k) : Kept keep w w' :=
  ⟨h.os, h.tape, h.output, h.size, fun i hi hk => h.block i hi (fun e => hr i e.symm hk)⟩
theorem Kept.below {keep : Nat → Prop} {w w' : World} (h : Kept keep w w') {B : Nat} (hB : B ≤ w.heap.size) (hk : ∀ k, k < B → keep k) : Below B w w' :=
  ⟨h.os, h.tape, h.output, h.size, fun i hi => h.block i (by omega) (hk i hi)⟩
theorem Kept.setCell {keep : Nat → Prop} (w : World) (a : Addr) (v : Value) (h : ¬ keep a.block) : Kept keep w (w.setCell a v) :=
  ⟨rfl, rfl, rfl, by simp [World.setCell], fun i _ hk => Below.heap_setCell _ _ _ _ (fun e => h (e ▸ hk))⟩
theorem Kept.alloc {keep : Nat → Prop} (w : World) (o : Obj) : Kept keep w (w.alloc o) := .of_below ((Below.refl _ w).alloc (Nat.le_refl _) o)

/-! ### a struct of two cells in a block of its own -/
def Pair (W : World) (B : Nat) (t : TypeId) (v m : Value) : Prop := W.heap[B]? = some (.cells #[v, m] t (0, 0))
theorem Pair.lt {W : World} {B : Nat} {t : TypeId} {v m : Value} (h : Pair W B t v m) : B < W.heap.size := (Array.getElem?_eq_some_iff.1 h).1
theorem Pair.c0 {W : World} {B : Nat} {t : TypeId} {v m : Value} (h : Pair W B t v m) : W.cell? ⟨B, 0, none⟩ = some v := by simp [World.cell?, show W.heap[B]? = _ from h]
theorem Pair.c1 {W : World} {B : Nat} {t : TypeId} {v m : Value} (h : Pair W B t v m) : W.cell? ⟨B, 1, none⟩ = some m := by simp [World.cell?, show W.heap[B]? = _ from h]
theorem Pair.f0 {W : World} {B : Nat} {t : TypeId} {v m : Value} (h : Pair W B t v m) : W.frozen? ⟨B, 0, none⟩ = false := by simp [World.frozen?, show W.heap[B]? = _ from h]
theorem Pair.f1 {W : World} {B : Nat} {t : TypeId} {v m : Value} (h : Pair W B t v m) : W.frozen? ⟨B, 1, none⟩ = false := by simp [World.frozen?, show W.heap[B]? = _ from h]
theorem Pair.set0 {W : World} {B : Nat} {t : TypeId} {v m : Value} (h : Pair W B t v m) (u : Value) : Pair (W.setCell ⟨B, 0, none⟩ u) B t u m := by
  unfold Pair at h ⊢
  simp [World.setCell, Array.getElem?_modify, h]
theorem Pair.set1 {W : World} {B : Nat} {t : TypeId} {v m : Value} (h : Pair W B t v m) (u : Value) : Pair (W.setCell ⟨B, 1, none⟩ u) B t v u := by
  unfold Pair at h ⊢
  simp [World.setCell, Array.getElem?_modify, h]
theorem Pair.kept {W W' : World} {keep : Nat → Prop} {B : Nat} {t : TypeId} {v m : Value} (h : Pair W B t v m) (hk : Kept keep W W') (hB : keep B) : Pair W' B t v m := (hk.block B h.lt hB).trans h

/-! ### numbers of names -/
/-- A name as a map's key reads. -/
def kl (s : ByteArray) : Lit := .string s.data.toList
theorem kl_inj {a b : ByteArray} (h : kl a = kl b) : a = b := by
  simp only [kl, Lit.string.injEq] at h
  exact ByteArray.ext (Array.toList_inj.1 h)
theorem lawBA : LawfulBEq ByteArray := { eq_of_beq := fun {a b} h => (MapKept.bytes_beq a b).mp h, rfl := fun {a} => (MapKept.bytes_beq a a).mpr rfl }
theorem idx_yes {xs ys : List ByteArray} {s : ByteArray} (h : s ∈ xs) : (xs ++ ys).idxOf s = xs.idxOf s := by
  haveI := lawBA
  rw [List.idxOf_append, if_pos h]
theorem idx_no {xs : List ByteArray} {s : ByteArray} (h : s ∉ xs) : (xs ++ [s]).idxOf s = xs.length := by
  haveI := lawBA
  rw [List.idxOf_append, if_neg h]
  simp
theorem idx_lt {xs : List ByteArray} {s : ByteArray} (h : s ∈ xs) : xs.idxOf s < xs.length := by
  haveI := lawBA
  exact List.idxOf_lt_length_of_mem h
/-- The datum holds the numbers of the names xs, and nothing else. -/
structure Holds (D : DataW Unit) (xs : List ByteArray) : Prop where
  yes : ∀ s, s ∈ xs → Maps.has D (kl s) = true
  no : ∀ s, s ∉ xs → Maps.has D (kl s) = false
  at' : ∀ s, s ∈ xs → ∀ z, D.atKey (kl s) z = .lit (.int .i64 (xs.idxOf s))
  size : Maps.size D = xs.length

theorem Holds.nil : Holds (.map []) [] := ⟨fun _ h => (by cases h), fun _ _ => rfl, fun _ h => (by cases h), rfl⟩

theorem Holds.snoc {D : DataW Unit} {xs : List ByteArray} (h : Holds D xs) (ht : Tidy D) {x : ByteArray} (hx : x ∉ xs) : Holds (D.put (kl x) (.lit (.int .i64 (xs.length : Int)))) (xs ++ [x]) := by
  have hk : WideAt.IsKeyLit (kl x) := (trivial : True)
  refine ⟨fun s hs => ?_, fun s hs => ?_, fun s hs z => ?_, ?_⟩
  · by_cases e : s = x
    · subst e
      exact has_put_same ht.isMap hk _
    · rw [has_put_other (fun h => e (kl_inj h))]
      exact h.yes s (by simpa [e] using hs)
  · have e : s ≠ x := fun e => hs (by simp [e])
    rw [has_put_other (fun h => e (kl_inj h))]
    exact h.no s (fun h => hs (by simp [h]))
  · by_cases e : s = x
    · subst e
      rw [atKey_put_same ht.isMap hk, idx_no hx]
    · rw [atKey_put_other (fun h => e (kl_inj h))]
      have hs' : s ∈ xs := by simpa [e] using hs
      rw [h.at' s hs', idx_yes hs']
  · rw [size_put ht, h.no x hx]
    simp [h.size]

/-! ### the table -/
/-- Block tb is a Table with the names xs, in the order of their numbers; F: all blocks that are its own. -/
def Tab (w : World) (tb : Nat) (F : List Nat) (xs : List ByteArray) : Prop :=
  xs.Nodup ∧ (∀ s ∈ xs, s.size ≤ 281474976710656) ∧ ((xs = [] ∧ F = [tb] ∧ Pair w tb 29 (.slice none 0 0) (.map none)) ∨
    ∃ g cap mb D, F = [tb, g, mb] ∧ g ≠ tb ∧ mb ≠ tb ∧ mb ≠ g ∧ Pair w tb 29 (.slice (some ⟨g, 0, none⟩) xs.length cap) (.map (some mb)) ∧
      w.ownsRow 0 9 1 (.slice (some ⟨g, 0, none⟩) xs.length cap) xs.length (xs.map Value.string) ∧ w.ownsMap Try.prog 9 (plainElem Try.prog 3) mb xs.length D ∧ Holds D xs)

theorem Tab.lt {w : World} {tb : Nat} {F : List Nat} {xs : List ByteArray} (h : Tab w tb F xs) : ∀ b ∈ F, b < w.heap.size := by
  intro b hb
  rcases h.2.2 with ⟨_, rfl, hp⟩ | ⟨g, cap, mb, D, rfl, _, _, _, hp, hr, hm, _⟩
  · simp at hb; subst hb; exact hp.lt
  · simp at hb
    rcases hb with rfl | rfl | rfl
    · exact hp.lt
    · exact (hr.lt _ rfl).2
    · exact hm.lt

theorem Tab.kept {w w' : World} {keep : Nat → Prop} {tb : Nat} {F : List Nat} {xs : List ByteArray} (h : Tab w tb F xs) (hk : Kept keep w w') (hF : ∀ b ∈ F, keep b) : Tab w' tb F xs := by
  refine ⟨h.1, h.2.1, ?_⟩
  rcases h.2.2 with ⟨rfl, rfl, hp⟩ | ⟨g, cap, mb, D, rfl, e1, e2, e3, hp, hr, hm, hh⟩
  · exact .inl ⟨rfl, rfl, hp.kept hk (hF _ (by simp))⟩
  · refine .inr ⟨g, cap, mb, D, rfl, e1, e2, e3, hp.kept hk (hF _ (by simp)), ⟨hr.1, ?_⟩, ?_, hh⟩
    · rcases hr.2 with ⟨hv, _⟩ | ⟨g', cap', cur, hv, hg, hb, rest⟩
      · cases hv
      · cases hv
        exact .inr ⟨_, _, cur, rfl, hg, (hk.block _ (Array.getElem?_eq_some_iff.1 hb).1 (hF _ (by simp))).trans hb, rest⟩
    · have hlt := hm.lt
      obtain ⟨es, clock, hb, F', hs, hD⟩ := hm
      exact ⟨es, clock, (hk.block _ hlt (hF _ (by simp))).trans hb, F', hs, hD⟩
theorem Tab.below {w w' : World} {tb : Nat} {F : List Nat} {xs : List ByteArray} (h : Tab w tb F xs) (hb : Below w.heap.size w w') : Tab w' tb F xs := h.kept (keep := fun _ => True) (.of_below hb) (fun _ _ => trivial)
theorem Tab.new (w : World) : Tab (w.alloc (.cells #[.slice none 0 0, .map none] 29)) w.heap.size [w.heap.size] [] :=
  ⟨List.nodup_nil, fun _ h => (by cases h), .inl ⟨rfl, rfl, heap_alloc_new w _⟩⟩

/-! ### closed facts of the program -/
theorem keyed : Keyed Try.prog 9 := string_keyed Try.underlying9
theorem zeroInt (w : World) : (zeroValue 3).run Try.prog w = .ok (.int .i64 0) w := by kernel_rfl
theorem infoStr : (Try.prog.info? 9).map (fun i => (i.zero, i.size, i.bytes)) = some (some (.string ⟨#[]⟩), 1, 16) := by kernel_rfl
theorem keyOf_kl {s : ByteArray} (h : s.size ≤ 281474976710656) : keyOf Try.prog 9 (.string s) = some (kl s) := Go.WideMaps.keyOf_string_mk Try.underlying9 (by unfold maxLen; omega)

end Go.Proofs.Ytbgcnmebmbjdjaa
