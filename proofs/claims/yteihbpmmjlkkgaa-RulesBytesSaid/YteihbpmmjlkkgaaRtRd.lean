/- The document's own reader: where it stands, what it sees, how it goes on. -/
import Derived.Test.YteihbpmmjlkkgaaRtPt
import Derived.Deep.QuietTactic
import Derived.BigQuiet
import Derived.RangeFuncNested
import Derived.Maps.AppendAt
import Derived.Maps.Range
namespace Go.Proofs.Yteihbpmmjlkkgaa.Ref
open Go Go.RowKit

/-! ### a struct of two cells in a block of its own -/
def Pair (W : World) (B : Nat) (t : TypeId) (v m : Value) : Prop := W.heap[B]? = some (.cells #[v, m] t (0, 0))
theorem Pair.lt {W : World} {B : Nat} {t : TypeId} {v m : Value} (h : Pair W B t v m) : B < W.heap.size := (Array.getElem?_eq_some_iff.1 h).1
theorem Pair.c0 {W : World} {B : Nat} {t : TypeId} {v m : Value} (h : Pair W B t v m) : W.cell? ⟨B, 0, none⟩ = some v := by simp [World.cell?, show W.heap[B]? = _ from h]
theorem Pair.c1 {W : World} {B : Nat} {t : TypeId} {v m : Value} (h : Pair W B t v m) : W.cell? ⟨B, 1, none⟩ = some m := by simp [World.cell?, show W.heap[B]? = _ from h]
theorem Pair.f1 {W : World} {B : Nat} {t : TypeId} {v m : Value} (h : Pair W B t v m) : W.frozen? ⟨B, 1, none⟩ = false := by simp [World.frozen?, show W.heap[B]? = _ from h]
theorem Pair.set1 {W : World} {B : Nat} {t : TypeId} {v m : Value} (h : Pair W B t v m) (u : Value) : Pair (W.setCell ⟨B, 1, none⟩ u) B t v u := by
  unfold Pair at h ⊢
  simp [World.setCell, Array.getElem?_modify, h]
theorem Pair.kept {W W' : World} {row : Option Nat} {B : Nat} {t : TypeId} {v m : Value} (h : Pair W B t v m) (hg : W.grownBy W' row) (hne : some B ≠ row) : Pair W' B t v m := (hg.block B h.lt hne).trans h
theorem grown_set1 (W : World) (b : Nat) (v : Value) : W.grownBy (W.setCell ⟨b, 1, none⟩ v) (some b) :=
  ⟨rfl, rfl, rfl, by simp [World.setCell], fun i _ hne => Below.heap_setCell _ _ _ _ (fun e => hne (by rw [e]))⟩
theorem grown_drewN (W : World) (n : Nat) (row : Option Nat) : W.grownBy (W.drewN n) row := ⟨rfl, rfl, rfl, Nat.le_refl _, fun _ _ _ => rfl⟩
theorem grown_but {a c : World} (h : a.grownBy c none) (row : Option Nat) : a.grownBy c row := ⟨h.os, h.tape, h.output, h.size, fun i hi _ => h.block i hi (by simp)⟩
theorem below_of_grown {W W' : World} {R : Nat} (h : W.grownBy W' (some R)) (hR : R ≤ W.heap.size) : Below R W W' :=
  (Below.refl R W).grown h hR (fun r e => by cases e; exact Nat.le_refl _)
theorem below_of_still {W W' : World} (h : W.grownBy W' none) (R : Nat) (hR : R ≤ W.heap.size) : Below R W W' :=
  (Below.refl R W).grown h hR (fun r e => by cases e)

/-- The reader R over the code points raw stands at the place a. -/
structure Rd (n₀ : Nat) (W : World) (R : Nat) (v : Value) (raw : List Int) (a : Nat) : Prop where
  pair : Pair W R 45 v (.int .i64 a)
  ints : IntsAt n₀ W v raw
  low : n₀ ≤ R
  least : a ≤ raw.length + 2
  most : raw.length ≤ 1000000
/-- The reader R over the code points raw has l ahead of it. -/
def At (n₀ : Nat) (W : World) (R : Nat) (raw l : List Int) : Prop := ∃ v a, Rd n₀ W R v raw a ∧ l = (raw.map fixC).drop a

theorem Rd.kept {W W' : World} {n₀ R : Nat} {v : Value} {raw : List Int} {a : Nat} (h : Rd n₀ W R v raw a) (hg : W.grownBy W' none) : Rd n₀ W' R v raw a :=
  ⟨h.pair.kept hg (by simp), h.ints.below (below_of_still hg n₀ (Nat.le_trans h.low (Nat.le_of_lt h.pair.lt))), h.low, h.least, h.most⟩
theorem At.kept {W W' : World} {n₀ R : Nat} {raw l : List Int} (h : At n₀ W R raw l) (hg : W.grownBy W' none) : At n₀ W' R raw l := by
  obtain ⟨v, a, hr, e⟩ := h
  exact ⟨v, a, hr.kept hg, e⟩
theorem At.lt {W : World} {n₀ R : Nat} {raw l : List Int} (h : At n₀ W R raw l) : R < W.heap.size := by
  obtain ⟨v, a, hr, _⟩ := h
  exact hr.pair.lt
theorem Rd.set {W : World} {n₀ R : Nat} {v : Value} {raw : List Int} {a : Nat} (h : Rd n₀ W R v raw a) (k : Nat) (hk : k ≤ raw.length + 2) : Rd n₀ (W.setCell ⟨R, 1, none⟩ (.int .i64 k)) R v raw k :=
  ⟨h.pair.set1 _, h.ints.below ((below_of_grown (grown_set1 W R _) (Nat.le_of_lt h.pair.lt)).mono h.low), h.low, hk, h.most⟩
theorem see_drop (l : List Int) (a k : Nat) : see (l.drop a) k = see l (a + k) := by simp [see, List.getElem?_drop]
theorem see_raw {raw : List Int} {k : Nat} (h : k < raw.length) : see (raw.map fixC) k = fixC raw[k] := by simp [see, h]
theorem see_out {l : List Int} {k : Nat} (h : l.length ≤ k) : see l k = -1 := by simp [see, h]
theorem At.kept_far {W W' : World} {n₀ R : Nat} {row : Option Nat} {raw l : List Int} (h : At n₀ W R raw l) (hg : W.grownBy W' row) (hr : ∀ j, row = some j → R < j) : At n₀ W' R raw l := by
  obtain ⟨v, a, hd, e⟩ := h
  exact ⟨v, a, ⟨hd.pair.kept hg (fun e => by have := hr _ e.symm; omega), hd.ints.below (((Below.refl R W).grown hg (Nat.le_of_lt hd.pair.lt) (fun r e => by have := hr r e; omega)).mono hd.low), hd.low, hd.least, hd.most⟩, e⟩
theorem owns_far {X Y : World} {b R : Nat} {e : TypeId} {size : Nat} {v : Value} {m : Nat} {xs : List Value} (h : X.ownsRow b e size v m xs) (hg : X.grownBy Y (some R)) (hR : R < b) : Y.ownsRow b e size v m xs :=
  h.kept hg (.inr (fun e => by have := h.lt R e; omega))
theorem At.len {W : World} {n₀ R : Nat} {raw l : List Int} (h : At n₀ W R raw l) : l.length ≤ raw.length ∧ raw.length ≤ 1000000 := by
  obtain ⟨v, a, hr, rfl⟩ := h
  refine ⟨?_, hr.most⟩
  rw [List.length_drop, List.length_map]
  omega
theorem At.see_ge {W : World} {n₀ R : Nat} {raw l : List Int} (h : At n₀ W R raw l) (k : Nat) : see l k = -1 ∨ 0 ≤ see l k := by
  obtain ⟨v, a, hr, rfl⟩ := h
  rw [see_drop]
  by_cases hk : a + k < raw.length
  · rw [see_raw hk]
    exact .inr (fixC_right _).1
  · exact .inl (see_out (by rw [List.length_map]; omega))
/-- How many code points are ahead of the reader, by its cell. -/
def lenOf (raw : List Int) (W : World) (R : Nat) : Nat := match W.cell? ⟨R, 1, none⟩ with
  | some (.int .i64 a) => raw.length - a.toNat
  | _ => 0
theorem At.lenOf {W : World} {n₀ R : Nat} {raw l : List Int} (h : At n₀ W R raw l) : lenOf raw W R = l.length := by
  obtain ⟨v, a, hr, rfl⟩ := h
  unfold Ref.lenOf
  rw [hr.pair.c1, List.length_drop, List.length_map]
  simp
/-- What the walk is told of the reader's cell, and how it goes on by k. -/
theorem At.cell {W : World} {n₀ R : Nat} {raw l : List Int} (h : At n₀ W R raw l) : ∃ a : Nat, W.cell? ⟨R, 1, none⟩ = some (.int .i64 a) ∧ W.frozen? ⟨R, 1, none⟩ = false ∧ (a : Int) ≤ 1000002 ∧
    (∀ k : Nat, k ≤ l.length + 2 → a + l.length = raw.length → At n₀ (W.setCell ⟨R, 1, none⟩ (.int .i64 ((a : Int) + k))) R raw (l.drop k)) ∧ (l ≠ [] → a + l.length = raw.length) ∧ W.grownBy W none := by
  obtain ⟨v, a, hr, rfl⟩ := h
  have hm := hr.most
  have hl := hr.least
  refine ⟨a, hr.pair.c1, hr.pair.f1, by omega, fun k hk he => ⟨v, a + k, ?_, by rw [List.drop_drop]⟩, fun hne => ?_, World.grownBy.refl _ _⟩
  · have e : ((a : Int) + k) = ((a + k : Nat) : Int) := by omega
    rw [e]
    exact hr.set (a + k) (by rw [List.length_drop, List.length_map] at hk he; omega)
  · rw [Ne, List.drop_eq_nil_iff, List.length_map] at hne
    rw [List.length_drop, List.length_map]
    omega

set_option maxRecDepth 100000 in
set_option maxHeartbeats 1000000 in
theorem see_any (n : Nat) (hn : n ≤ 10) {w : World} {n₀ R : Nat} {raw l : List Int} (h : At n₀ w R raw l) :
    Calls Try.prog 20 #[.pointer (some ⟨R, 0, none⟩), .int .i64 n] w fun e w' => e = .returned (.int .i64 (see l n)) ∧ w.grownBy w' none := by
  obtain ⟨v, a, hr, rfl⟩ := h
  obtain ⟨p, cap, rfl⟩ := hr.ints.len
  have c0 := hr.pair.c0
  have c1 := hr.pair.c1
  have ha := hr.least
  have hm := hr.most
  have hw : IntKind.i64.wrap ((a : Int) + (n : Int)) = ((a + n : Nat) : Int) := by rw [IntKind.wrap_i64]; omega
  rw [see_drop]
  by_cases hlt : a + n < raw.length
  · obtain ⟨bk, off, hp, hcell⟩ : ∃ bk off, p = some ⟨bk, off, none⟩ ∧ ∀ j u, raw[j]? = some u → w.cell? ⟨bk, off + j, none⟩ = some (.int .i64 u) := by
      rcases hr.ints with ⟨rfl, _⟩ | ⟨bk, off, c, e, _, _, _, h⟩
      · simp at hlt
      · cases e; exact ⟨bk, off, rfl, h⟩
    subst hp
    have c2 := hcell (a + n) _ (List.getElem?_eq_getElem hlt)
    have hs := right_any raw[a + n]
    rw [see_raw hlt]
    clear hcell hr
    generalize raw[a + n] = u at *
    have hi : ((a + n : Nat) : Int) < (raw.length : Int) := by omega
    have hg : ¬ (raw.length : Int) ≤ ((a + n : Nat) : Int) := by omega
    generalize a + n = m at *
    cases hb : rightB u with
    | true =>
      rw [hb] at hs
      rw [fixC_yes hb]
      go_enter Try.func20, Try.ntmps20
      go_wp2
      go_quiet (fail)
      have d0 : (w.drewN nq).cell? _ = _ := c0
      have d1 : (w.drewN nq).cell? _ = _ := c1
      have d2 : (w.drewN nq).cell? _ = _ := c2
      have g1 : w.grownBy (w.drewN nq) none := grown_drewN _ _ _
      generalize w.drewN nq = w1 at *
      clear c0 c1 c2
      go_wp2
      go_quiet (fail)
      have g2 : w.grownBy (w1.drewN nq) none := g1.trans (grown_drewN _ _ _)
      generalize w1.drewN nq = w2 at *
      go_wp2_with fail
      refine (hs _).mono ?_
      rintro e w' ⟨rfl, rfl⟩
      go_wp2
      go_ret
      exact ⟨rfl, g2⟩
    | false =>
      rw [hb] at hs
      rw [fixC_no hb]
      go_enter Try.func20, Try.ntmps20
      go_wp2
      go_quiet (fail)
      have d0 : (w.drewN nq).cell? _ = _ := c0
      have d1 : (w.drewN nq).cell? _ = _ := c1
      have d2 : (w.drewN nq).cell? _ = _ := c2
      have g1 : w.grownBy (w.drewN nq) none := grown_drewN _ _ _
      generalize w.drewN nq = w1 at *
      clear c0 c1 c2
      go_wp2
      go_quiet (fail)
      have g2 : w.grownBy (w1.drewN nq) none := g1.trans (grown_drewN _ _ _)
      generalize w1.drewN nq = w2 at *
      go_wp2_with fail
      refine (hs _).mono ?_
      rintro e w' ⟨rfl, rfl⟩
      go_wp2
      go_ret
      exact ⟨rfl, g2⟩
  · rw [see_out (by rw [List.length_map]; omega)]
    have hg : (raw.length : Int) ≤ ((a + n : Nat) : Int) := by omega
    clear hr
    generalize a + n = m at *
    go_enter Try.func20, Try.ntmps20
    go_wp2
    go_quiet (fail)
    go_wp2
    all_goals first | omega | skip
    go_ret
    exact ⟨rfl, grown_drewN _ _ _⟩

end Go.Proofs.Yteihbpmmjlkkgaa.Ref
