/- The document's own reader of selectors: where it stands, what it sees, how it goes on (see, over, delim, white, comb, ends). -/
import Derived.Test.YtgjjedodbgimfaaSlTok
import Derived.Deep.RegionLaw
namespace Go.Proofs.Ytgjjedodbgimfaa.Sr
open Go.Proofs.Ytgjjedodbgimfaa.Tre
open Go Go.RowKit Sl

/-- The reader R over the tokens ts stands at the place a. -/
structure Pk (n₀ : Nat) (W : World) (R : Nat) (v : Value) (ts : List Bt) (a : Nat) (bad : Bool) (deep : Int) : Prop where
  blk : Blk W R 66 [v, .int .i64 a, .bool bad, .int .i64 deep]
  toks : BtsAt n₀ W v ts
  low : n₀ ≤ R
  least : a ≤ ts.length + 10
  most : ts.length ≤ 1000
theorem Pk.lt {n₀ : Nat} {W : World} {R : Nat} {v : Value} {ts : List Bt} {a : Nat} {bad : Bool} {deep : Int} (h : Pk n₀ W R v ts a bad deep) : R < W.heap.size := h.blk.lt
theorem Pk.below {n₀ : Nat} {W W' : World} {R : Nat} {v : Value} {ts : List Bt} {a : Nat} {bad : Bool} {deep : Int} (h : Pk n₀ W R v ts a bad deep) (hb : Below W.heap.size W W') : Pk n₀ W' R v ts a bad deep :=
  ⟨h.blk.below hb h.lt, h.toks.below (hb.mono (Nat.le_trans h.low (Nat.le_of_lt h.lt))), h.low, h.least, h.most⟩
/-- It goes on to the place b. -/
theorem Pk.set {n₀ : Nat} {W : World} {R : Nat} {v : Value} {ts : List Bt} {a : Nat} {bad : Bool} {deep : Int} (h : Pk n₀ W R v ts a bad deep) {b : Nat} (hb : b ≤ ts.length + 10) : Pk n₀ (W.setCell ⟨R, 1, none⟩ (.int .i64 b)) R v ts b bad deep := by
  refine ⟨?_, h.toks.below ((Below.refl n₀ W).setCell (p := ⟨R, 1, none⟩) h.low _), h.low, hb, h.most⟩
  have := h.blk
  unfold Blk at this ⊢
  simp [World.setCell, Array.getElem?_modify, this]
theorem Pk.spoil {n₀ : Nat} {W : World} {R : Nat} {v : Value} {ts : List Bt} {a : Nat} {bad : Bool} {deep : Int} (h : Pk n₀ W R v ts a bad deep) (b : Bool) : Pk n₀ (W.setCell ⟨R, 2, none⟩ (.bool b)) R v ts a b deep := by
  refine ⟨?_, h.toks.below ((Below.refl n₀ W).setCell (p := ⟨R, 2, none⟩) h.low _), h.low, h.least, h.most⟩
  have := h.blk
  unfold Blk at this ⊢
  simp [World.setCell, Array.getElem?_modify, this]
theorem But.refl (R : Nat) (W : World) : But R W W := Kept.refl _ _
theorem But.of_below {R : Nat} {W W' : World} (h : Below W.heap.size W W') : But R W W' := Kept.of_below h
/-- Where the reader stands. -/
def placeOf (W : World) (R : Nat) : Nat := match W.cell? ⟨R, 1, none⟩ with
  | some x => (intOf x).toNat
  | none => 0
theorem Pk.place {n₀ : Nat} {W : World} {R : Nat} {v : Value} {ts : List Bt} {a : Nat} {bad : Bool} {deep : Int} (h : Pk n₀ W R v ts a bad deep) : placeOf W R = a := by
  unfold placeOf
  rw [(blk4 h.blk).1.2.1]
  simp [intOf]
set_option maxRecDepth 100000 in
set_option maxHeartbeats 1000000 in
theorem see_any (n₀ R : Nat) (v : Value) (ts : List Bt) (a : Nat) (bad : Bool) (deep : Int) (k : Nat) (w : World) (hP : Pk n₀ w R v ts a bad deep) (hk : k ≤ 2) :
    Calls Try.prog 39 #[.pointer (some ⟨R, 0, none⟩), .int .i64 k] w fun e w' => e = .returned (tkV (at' ts (a + k))) ∧ Below w.heap.size w w' := by
  have hla := hP.least
  have hlm := hP.most
  have bz : Below w.heap.size w (w.alloc (.cells #[.int .i64 0, .string ⟨#[]⟩, .int .i64 0, .bool false, .int .i64 0] 73)) := (Below.refl _ _).alloc (Nat.le_refl _) _
  have k0 := Blk.new w 73 [.int .i64 0, .string ⟨#[]⟩, .int .i64 0, .bool false, .int .i64 0]
  obtain ⟨q, cap, rfl⟩ := hP.toks.len
  have hP1 := hP.below bz
  obtain ⟨⟨p0, p1, _, _⟩, _⟩ := blk4 hP1.blk
  have hR := hP.lt
  obtain ⟨T, hT⟩ : ∃ T, at' ts (a + k) = T := ⟨_, rfl⟩
  rw [hT]
  go_enter Try.func39, Try.ntmps39
  go_upto_region 1 with fail
  replace k0 : Blk (w.alloc (.cells #[.int .i64 0, .string ⟨#[]⟩, .int .i64 0, .bool false, .int .i64 0] 73)) w.heap.size _ _ := k0
  generalize w.alloc (.cells #[.int .i64 0, .string ⟨#[]⟩, .int .i64 0, .bool false, .int .i64 0] 73) = W at *
  obtain ⟨⟨c0, c1, c2, c3, c4⟩, f0, f1, f2, f3, f4⟩ := blk5 k0
  have hB := k0.lt
  have hw : IntKind.i64.wrap ((a : Int) + (k : Int)) = ((a + k : Nat) : Int) := by rw [IntKind.wrap_i64]; omega
  have hw3 : IntKind.i64.wrap ((a + k : Nat) : Int) = ((a + k : Nat) : Int) := by rw [IntKind.wrap_i64]; omega
  by_cases hlt : a + k < ts.length
  · have hg1 : ts[a + k]? = some T := by rw [← hT, at', List.getElem?_eq_getElem hlt]; rfl
    obtain ⟨bk, off, rfl, hbk, hc1, hc2, x0, x1, x2, x3, x4⟩ := hP1.toks.get hg1
    have hi1 : ¬ (ts.length : Int) ≤ ((a + k : Nat) : Int) := by omega
    have hi2 : ((a + k : Nat) : Int) < (ts.length : Int) := by omega
    have hi3 : decide (ts.length ≤ a + k) = false := decide_eq_false (by omega)
    generalize a + k = m at *
    clear hP hP1 hg1 hT
    go_quiet (fail)
    go_wp2
    go_region_law (fail)
    all_goals
      go_wp2
      refine bodyPost_ret (results_struct rfl _ _ w.heap.size _ rfl (load_tk (blk_set5 (blk_drew k0 (nq + 1)) (.int .i64 T.kind) (.string T.text) (.int .i64 T.n) (.bool T.whole) (.int .i64 T.c)))) rfl ?_
      exact ⟨rfl, below_grown (below_drewN' bz (nq + 1)) (grown_set5 (W.drewN (nq + 1)) w.heap.size (.int .i64 T.kind) (.string T.text) (.int .i64 T.n) (.bool T.whole) (.int .i64 T.c)) (Nat.le_of_lt hB) (Nat.le_refl _)⟩
  · obtain rfl : zeroT = T := by rw [← hT, at', List.getElem?_eq_none (by omega)]; rfl
    have hi1 : (ts.length : Int) ≤ ((a + k : Nat) : Int) := by omega
    have hi3 : decide (ts.length ≤ a + k) = true := decide_eq_true (by omega)
    generalize a + k = m at *
    clear hP hP1 hT
    go_quiet (fail)
    go_wp2
    refine bodyPost_ret (results_struct rfl _ _ w.heap.size _ rfl (load_tk (blk_set5 (blk_drew k0 nq) (.int .i64 0) (.string ⟨#[]⟩) (.int .i64 0) (.bool false) (.int .i64 0)))) rfl ?_
    exact ⟨rfl, below_grown (below_drewN' bz nq) (grown_set5 (W.drewN nq) w.heap.size (.int .i64 0) (.string ⟨#[]⟩) (.int .i64 0) (.bool false) (.int .i64 0)) (Nat.le_of_lt hB) (Nat.le_refl _)⟩

set_option maxRecDepth 100000 in
set_option maxHeartbeats 1000000 in
theorem over_any (n₀ R : Nat) (v : Value) (ts : List Bt) (a : Nat) (bad : Bool) (deep : Int) (w : World) (hP : Pk n₀ w R v ts a bad deep) :
    Calls Try.prog 40 #[.pointer (some ⟨R, 0, none⟩)] w fun e w' => e = .returned (.bool (decide (ts.length ≤ a))) ∧ Below w.heap.size w w' := by
  have hla := hP.least
  have hlm := hP.most
  obtain ⟨q, cap, rfl⟩ := hP.toks.len
  obtain ⟨⟨p0, p1, _, _⟩, _⟩ := blk4 hP.blk
  clear hP
  by_cases hlt : ts.length ≤ a
  · have hi1 : (ts.length : Int) ≤ (a : Int) := by omega
    have hi3 : decide (ts.length ≤ a) = true := decide_eq_true hlt
    rw [hi3]
    go_enter Try.func40, Try.ntmps40
    go_wp2
    go_region_law (fail)
    all_goals
      go_wp2
      go_ret
      exact ⟨rfl, below_drew (Below.refl _ _)⟩
  · have hi1 : ¬ (ts.length : Int) ≤ (a : Int) := by omega
    have hi3 : decide (ts.length ≤ a) = false := decide_eq_false hlt
    rw [hi3]
    go_enter Try.func40, Try.ntmps40
    go_wp2
    go_region_law (fail)
    all_goals
      go_wp2
      go_ret
      exact ⟨rfl, below_drew (Below.refl _ _)⟩

set_option maxRecDepth 100000 in
set_option maxHeartbeats 1000000 in
theorem delim_any (n₀ R : Nat) (v : Value) (ts : List Bt) (a : Nat) (bad : Bool) (deep : Int) (k : Nat) (c : Int) (w : World) (hP : Pk n₀ w R v ts a bad deep) (hk : k ≤ 2) :
    Calls Try.prog 54 #[.pointer (some ⟨R, 0, none⟩), .int .i64 k, .int .i64 c] w fun e w' => e = .returned (.bool (decide ((at' ts (a + k)).kind = 10 ∧ (at' ts (a + k)).c = c))) ∧ Below w.heap.size w w' := by
  have h1 := see_any n₀ R v ts a bad deep k w hP hk
  have hs := fun X hX => see_any n₀ R v ts a bad deep k X hX hk
  generalize at' ts (a + k) = T at *
  unfold tkV at h1 hs
  by_cases h10 : T.kind = 10
  · by_cases hc : T.c = c
    · rw [decide_eq_true ⟨h10, hc⟩]
      subst hc
      go_enter Try.func54, Try.ntmps54
      go_wp2_with fail
      refine h1.mono ?_
      clear h1
      rintro e w1 ⟨rfl, b1⟩
      have hf0 := tkField0 T.kind T.text T.n T.whole T.c w1
      have h2 := hs w1 (hP.below b1)
      clear hs hP
      rw [h10] at hf0 h2 ⊢
      go_wp2_with fail
      refine h2.mono ?_
      clear h2
      rintro e w2 ⟨rfl, b2⟩
      have hf4 := tkField4 10 T.text T.n T.whole T.c w2
      go_wp2
      go_ret
      exact ⟨rfl, below_next b1 b2⟩
    · rw [decide_eq_false (fun h => hc h.2)]
      have ec : (T.c == c) = false := by simpa using hc
      go_enter Try.func54, Try.ntmps54
      go_wp2_with fail
      refine h1.mono ?_
      clear h1
      rintro e w1 ⟨rfl, b1⟩
      have hf0 := tkField0 T.kind T.text T.n T.whole T.c w1
      have h2 := hs w1 (hP.below b1)
      clear hs hP hc
      rw [h10] at hf0 h2 ⊢
      go_wp2_with fail
      refine h2.mono ?_
      clear h2
      rintro e w2 ⟨rfl, b2⟩
      have hf4 := tkField4 10 T.text T.n T.whole T.c w2
      go_wp2
      go_ret
      exact ⟨rfl, below_next b1 b2⟩
  · rw [decide_eq_false (fun h => h10 h.1)]
    have e10 : (T.kind == 10) = false := by simpa using h10
    clear hs h10
    go_enter Try.func54, Try.ntmps54
    go_wp2_with fail
    refine h1.mono ?_
    clear h1
    rintro e w1 ⟨rfl, b1⟩
    have hf0 := tkField0 T.kind T.text T.n T.whole T.c w1
    go_wp2
    go_ret
    exact ⟨rfl, b1⟩

end Go.Proofs.Ytgjjedodbgimfaa.Sr
