/- package tok's reader: how it goes behind digits, white, line ends, escapes and comments. -/
import Derived.Test.YtlgfmncflnipgaaDoorTkAsk
import Derived.Test.YtlgfmncflnipgaaDoorBsF
import Derived.Laws.Rows
namespace Go.Proofs.YtlgfmncflnipgaaDoor
open Go Go.RowKit

/-! ### a token in a block of its own -/
def Five (W : World) (B : Nat) (a b c d e : Value) : Prop := W.heap[B]? = some (.cells #[a, b, c, d, e] 27 (0, 0))
theorem Five.lt {W : World} {B : Nat} {a b c d e : Value} (h : Five W B a b c d e) : B < W.heap.size := (Array.getElem?_eq_some_iff.1 h).1
theorem Five.cells {W : World} {B : Nat} {a b c d e : Value} (h : Five W B a b c d e) : W.cell? ⟨B, 0, none⟩ = some a ∧ W.cell? ⟨B, 1, none⟩ = some b ∧ W.cell? ⟨B, 2, none⟩ = some c ∧ W.cell? ⟨B, 3, none⟩ = some d ∧ W.cell? ⟨B, 4, none⟩ = some e := by
  simp [World.cell?, show W.heap[B]? = _ from h]
theorem Five.free {W : World} {B : Nat} {a b c d e : Value} (h : Five W B a b c d e) : W.frozen? ⟨B, 0, none⟩ = false ∧ W.frozen? ⟨B, 1, none⟩ = false ∧ W.frozen? ⟨B, 2, none⟩ = false ∧ W.frozen? ⟨B, 3, none⟩ = false ∧ W.frozen? ⟨B, 4, none⟩ = false := by
  simp [World.frozen?, show W.heap[B]? = _ from h]
theorem Five.kept {W W' : World} {row : Option Nat} {B : Nat} {a b c d e : Value} (h : Five W B a b c d e) (hg : W.grownBy W' row) (hne : some B ≠ row) : Five W' B a b c d e := (hg.block B h.lt hne).trans h
def setAll (W : World) (B : Nat) (a b c d e : Value) : World := ((((W.setCell ⟨B, 0, none⟩ a).setCell ⟨B, 1, none⟩ b).setCell ⟨B, 2, none⟩ c).setCell ⟨B, 3, none⟩ d).setCell ⟨B, 4, none⟩ e
theorem Five.set {W : World} {B : Nat} {a b c d e : Value} (h : Five W B a b c d e) (a' b' c' d' e' : Value) : Five (setAll W B a' b' c' d' e') B a' b' c' d' e' := by
  unfold Five at h ⊢
  simp [setAll, World.setCell, Array.getElem?_modify, h]
theorem grown_set (W : World) (b i : Nat) (v : Value) : W.grownBy (W.setCell ⟨b, i, none⟩ v) (some b) :=
  ⟨rfl, rfl, rfl, by simp [World.setCell], fun i _ hne => Below.heap_setCell _ _ _ _ (fun e => hne (by rw [e]))⟩
theorem grown_setAll (W : World) (B : Nat) (a b c d e : Value) : W.grownBy (setAll W B a b c d e) (some B) :=
  ((((grown_set _ _ _ _).trans (grown_set _ _ _ _)).trans (grown_set _ _ _ _)).trans (grown_set _ _ _ _)).trans (grown_set _ _ _ _)
theorem infoTok : (Tryd.prog.info? 27).map (·.size) = some 5 := by kernel_rfl
theorem Five.new (w : World) (a b c d e : Value) : Five (w.alloc (.cells #[a, b, c, d, e] 27)) w.heap.size a b c d e := heap_alloc_new w _
/-- A token as a result. -/
theorem Five.ret {W : World} {B : Nat} {a b c d e : Value} (h : Five W B a b c d e) {fn : Func} {p : Tmp} (hf : fn.results = #[.cell p 27]) (tmps : Array Value) (hp : tmps.getD p undef = .pointer (some ⟨B, 0, none⟩)) :
    (results fn tmps).run Tryd.prog W = .ok (.agg #[a, b, c, d, e]) W :=
  results_cell_row hf tmps W B _ _ _ _ hp h Tryd.underlying27 rfl infoTok
/-- What the block that holds the result was laid for: the rest is as the reader left it. -/
theorem grown_out {w W X : World} {R B : Nat} (h : w.grownBy W (some R)) (hB : w.heap.size ≤ B) (hg : W.grownBy X (some B)) : w.grownBy X (some R) :=
  h.andThen hg (fun j e => by cases e; exact .inl hB)

/-- Where the reader stands, out of the world: for measures. -/
def placeOf (W : World) (R : Nat) : Nat := match W.cell? ⟨R, 1, none⟩ with
  | some (.int _ a) => a.toNat
  | _ => 0
theorem Rd.placeOf {W : World} {n₀ R : Nat} {v : Value} {raw : List Int} {a : Nat} (h : Rd n₀ W R v raw a) : placeOf W R = a := by
  unfold Go.Proofs.YtlgfmncflnipgaaDoor.placeOf
  rw [h.pair.c1]
  simp
theorem At.kept_other {W W' : World} {n₀ R B : Nat} {raw l : List Int} (h : At n₀ W R raw l) (hg : W.grownBy W' (some B)) (hB : R < B) : At n₀ W' R raw l := by
  obtain ⟨v, a, hr, e⟩ := h
  exact ⟨v, a, ⟨hr.pair.kept hg (by simp; omega), hr.ints.below (((Below.refl R W).grown hg (Nat.le_of_lt hr.pair.lt) (fun r e => by cases e; omega)).mono hr.low), hr.low, hr.least, hr.most⟩, e⟩
/-- What a step of the reader's place gives: the place, its cell, its freedom, and where it stands behind it. -/
theorem At.open' {W : World} {n₀ R : Nat} {raw l : List Int} (h : At n₀ W R raw l) (hne : l ≠ []) : ∃ a : Nat, W.cell? ⟨R, 1, none⟩ = some (.int .i64 a) ∧ W.frozen? ⟨R, 1, none⟩ = false ∧ a ≤ 1000000 ∧ placeOf W R = a ∧
    (At n₀ (W.setCell ⟨R, 1, none⟩ (.int .i64 ((a : Int) + 1))) R raw l.tail ∧ placeOf (W.setCell ⟨R, 1, none⟩ (.int .i64 ((a : Int) + 1))) R = a + 1) ∧
    (l.tail ≠ [] → At n₀ (W.setCell ⟨R, 1, none⟩ (.int .i64 ((a : Int) + 2))) R raw l.tail.tail) := by
  obtain ⟨v, a, hr, rfl⟩ := h
  have hlt : a < raw.length := by
    have := List.length_pos_iff.2 hne
    rw [List.length_drop, List.length_map] at this
    omega
  have hm := hr.most
  have h1 := hr.set (a + 1) (by omega)
  refine ⟨a, hr.pair.c1, hr.pair.f1, by omega, hr.placeOf, ⟨⟨v, a + 1, h1, by rw [List.tail_drop]⟩, h1.placeOf⟩, fun h2 => ?_⟩
  have hl2 := List.length_pos_iff.2 h2
  rw [List.length_tail, List.length_drop, List.length_map] at hl2
  exact ⟨v, a + 2, hr.set (a + 2) (by omega), by rw [List.tail_drop, List.tail_drop]⟩

theorem placeOf_kept {W W' : World} {n₀ R : Nat} {raw l : List Int} (h : At n₀ W R raw l) (hg : W.grownBy W' none) {a : Nat} (hp : placeOf W' R = a) : placeOf W R = a := by
  obtain ⟨v, b, hr, _⟩ := h
  rw [hr.placeOf, ← hp, (hr.kept hg).placeOf]

set_option maxHeartbeats 1000000 in
theorem passDigits_any {w : World} {n₀ R : Nat} {raw l : List Int} (h : At n₀ w R raw l) :
    Calls Tryd.prog 67 #[.pointer (some ⟨R, 0, none⟩)] w fun e w' => e = .returned (.tuple #[]) ∧ At n₀ w' R raw (l.dropWhile isDigit) ∧ w.grownBy w' (some R) := by
  go_enter Tryd.func67, Tryd.ntmps67
  go_wp2
  go_loopw [] (fun wr => ∃ l', At n₀ wr R raw l' ∧ l'.dropWhile isDigit = l.dropWhile isDigit ∧ w.grownBy wr (some R)) (fun wr => 1000002 - placeOf wr R)
  case atStart => exact ⟨l, h, rfl, World.grownBy.refl _ _⟩
  case round =>
    obtain ⟨l', h', e', g'⟩ := hrel
    have h1 := ahead_any 0 (by omega) h'
    have h2 := isDigit_any (see l' 0)
    cases hd : isDigit (see l' 0) with
    | false =>
      have he : l'.dropWhile isDigit = l' := by
        cases l' with
        | nil => rfl
        | cons c r => rw [see_zero] at hd; rw [List.dropWhile_cons, hd]; rfl
      rw [hd] at h2
      generalize see l' 0 = c at *
      clear hd
      go_wp2_with fail
      refine h1.mono ?_
      rintro e w1 ⟨rfl, g1⟩
      go_wp2_with fail
      refine (h2 _).mono ?_
      rintro e w' ⟨rfl, rfl⟩
      go_wp2
      go_end0
      rw [← e', he]
      exact ⟨rfl, h'.kept g1, g'.trans (grown_but g1 _)⟩
    | true =>
      have hne : l' ≠ [] := fun e => by rw [e] at hd; exact absurd hd (by decide)
      have he : l'.tail.dropWhile isDigit = l'.dropWhile isDigit := by
        cases l' with
        | nil => rfl
        | cons c r => rw [see_zero] at hd; rw [List.dropWhile_cons, hd]; rfl
      rw [hd] at h2
      generalize see l' 0 = c at *
      clear hd
      go_wp2_with fail
      refine h1.mono ?_
      rintro e w1 ⟨rfl, g1⟩
      obtain ⟨a, c1, f1, ha, hp, ⟨k1, k2⟩, _⟩ := (h'.kept g1).open' hne
      have hp' : placeOf wr R = a := placeOf_kept h' g1 hp
      clear h1
      go_wp2_with fail
      refine (h2 _).mono ?_
      rintro e w' ⟨rfl, rfl⟩
      go_wp2
      exact ⟨⟨_, k1, he.trans e', (g'.trans (grown_but g1 _)).trans (grown_set1 _ _ _)⟩, by rw [k2, hp']; omega⟩

set_option maxHeartbeats 1000000 in
theorem white_any {w : World} {n₀ R : Nat} {raw l : List Int} (h : At n₀ w R raw l) :
    Calls Tryd.prog 36 #[.pointer (some ⟨R, 0, none⟩)] w fun e w' => e = .returned (.agg #[.int .i64 9, .string ⟨#[]⟩, .int .i64 0, .bool false, .int .i64 0]) ∧ At n₀ w' R raw (l.dropWhile isWhite) ∧ w.grownBy w' (some R) := by
  have hR := h.lt
  go_enter Tryd.func36, Tryd.ntmps36
  go_wp2
  have t0 := Five.new w (.int .i64 0) (.string ⟨#[]⟩) (.int .i64 0) (.bool false) (.int .i64 0)
  have g0 : w.grownBy (w.alloc (.cells #[.int .i64 0, .string ⟨#[]⟩, .int .i64 0, .bool false, .int .i64 0] 27)) none := World.grownBy_alloc _ _ _
  go_loopw [] (fun wr => ∃ l', At n₀ wr R raw l' ∧ l'.dropWhile isWhite = l.dropWhile isWhite ∧ w.grownBy wr (some R) ∧ Five wr w.heap.size (.int .i64 0) (.string ⟨#[]⟩) (.int .i64 0) (.bool false) (.int .i64 0)) (fun wr => 1000002 - placeOf wr R)
  case atStart => exact ⟨l, h.kept g0, rfl, grown_but g0 _, t0⟩
  case round =>
    obtain ⟨l', h', e', g', t'⟩ := hrel
    have h1 := ahead_any 0 (by omega) h'
    have h2 := isWhite_any (see l' 0)
    clear t0 g0
    cases hd : isWhite (see l' 0) with
    | false =>
      have he : l'.dropWhile isWhite = l' := by
        cases l' with
        | nil => rfl
        | cons c r => rw [see_zero] at hd; rw [List.dropWhile_cons, hd]; rfl
      rw [hd] at h2
      generalize see l' 0 = c at *
      clear hd
      go_wp2_with fail
      refine h1.mono ?_
      rintro e w1 ⟨rfl, g1⟩
      have t1 := t'.kept g1 (by simp)
      obtain ⟨c0, c1, c2, c3, c4⟩ := t1.cells
      obtain ⟨f0, f1, f2, f3, f4⟩ := t1.free
      go_wp2_with fail
      refine (h2 _).mono ?_
      rintro e w' ⟨rfl, rfl⟩
      go_wp2
      refine bodyPost_ret ((t1.set _ _ _ _ _).ret rfl _ rfl) rfl ?_
      rw [← e', he]
      exact ⟨rfl, (h'.kept g1).kept_other (grown_setAll _ _ _ _ _ _ _) hR, grown_out (g'.trans (grown_but g1 _)) (Nat.le_refl _) (grown_setAll _ _ _ _ _ _ _)⟩
    | true =>
      have hne : l' ≠ [] := fun e => by rw [e] at hd; exact absurd hd (by decide)
      have he : l'.tail.dropWhile isWhite = l'.dropWhile isWhite := by
        cases l' with
        | nil => rfl
        | cons c r => rw [see_zero] at hd; rw [List.dropWhile_cons, hd]; rfl
      rw [hd] at h2
      generalize see l' 0 = c at *
      clear hd
      go_wp2_with fail
      refine h1.mono ?_
      rintro e w1 ⟨rfl, g1⟩
      have t1 := t'.kept g1 (by simp)
      obtain ⟨a, c1, f1, ha, hp, ⟨k1, k2⟩, _⟩ := (h'.kept g1).open' hne
      have hp' : placeOf wr R = a := placeOf_kept h' g1 hp
      clear h1
      go_wp2_with fail
      refine (h2 _).mono ?_
      rintro e w' ⟨rfl, rfl⟩
      go_wp2
      exact ⟨⟨_, k1, he.trans e', (g'.trans (grown_but g1 _)).trans (grown_set1 _ _ _), t1.kept (grown_set1 _ _ _) (by simp; omega)⟩, by rw [k2, hp']; omega⟩

end Go.Proofs.YtlgfmncflnipgaaDoor
