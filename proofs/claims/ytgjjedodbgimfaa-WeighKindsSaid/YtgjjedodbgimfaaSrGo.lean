/- The document's own reader of selectors: white, comb, ends. -/
import Derived.Test.YtgjjedodbgimfaaSrMem
namespace Go.Proofs.Ytgjjedodbgimfaa.Sr
open Go.Proofs.Ytgjjedodbgimfaa.Tre
open Go Go.RowKit Sl

set_option maxRecDepth 100000 in
set_option maxHeartbeats 1000000 in
/-- White is passed over; was there some? -/
theorem white_any (n₀ R : Nat) (v : Value) (ts : List Bt) (a : Nat) (bad : Bool) (deep : Int) (w : World) (hP : Pk n₀ w R v ts a bad deep) :
    Calls Try.prog 37 #[.pointer (some ⟨R, 0, none⟩)] w fun e w' => ∃ b, e = .returned (.bool (decide (a < b))) ∧ a ≤ b ∧ (b ≤ ts.length ∨ b = a) ∧ ts.drop b = (ts.drop a).dropWhile (fun t => t.kind == 9) ∧ Pk n₀ w' R v ts b bad deep ∧ But R w w' := by
  have hlm := hP.most
  have hla := hP.least
  obtain ⟨⟨p0, p1, p2, p3⟩, _⟩ := blk4 hP.blk
  have hR := hP.lt
  have hA : (ts.drop a).dropWhile (fun t => t.kind == 9) = (ts.drop a).dropWhile (fun t => t.kind == 9) := rfl
  generalize hG : (ts.drop a).dropWhile (fun t => t.kind == 9) = G at *
  clear hA
  go_enter Try.func37, Try.ntmps37
  go_wp2
  go_loopw [] (fun wr => ∃ b : Nat, a ≤ b ∧ Hid (b ≤ ts.length ∨ b = a) ∧ Hid ((ts.drop b).dropWhile (fun t => t.kind == 9) = G) ∧ Pk n₀ wr R v ts b bad deep ∧ But R w wr) (fun wr => (ts.length + 20) - placeOf wr R)
  case atStart => exact ⟨a, Nat.le_refl _, .inr rfl, hG, hP, But.refl _ _⟩
  case round =>
    obtain ⟨b, hab, hbl, HG, hPb, hbut⟩ := hrel
    clear hP p0 p1 p2 p3
    have h1 := see_any n₀ R v ts b bad deep 0 _ hPb (by omega)
    rw [Nat.add_zero] at h1
    have hT : at' ts b = at' ts b := rfl
    generalize hTT : at' ts b = T at *
    clear hT
    unfold tkV at h1
    go_wp2_with fail
    refine h1.mono ?_
    clear h1
    rintro e w1 ⟨rfl, b1⟩
    have hf0 := tkField0 T.kind T.text T.n T.whole T.c w1
    have hP1 := hPb.below b1
    obtain ⟨⟨p0, p1, p2, p3⟩, f0, f1, f2, f3⟩ := blk4 hP1.blk
    have hbut1 := hbut.trans (But.of_below b1)
    by_cases h9 : T.kind = 9
    · have hlt : b < ts.length := by
        by_cases h : b < ts.length
        · exact h
        · rw [← hTT, at', List.getElem?_eq_none (by omega)] at h9
          cases h9
      have HG' : Hid ((ts.drop (b + 1)).dropWhile (fun t => t.kind == 9) = G) := by
        have h := HG
        unfold Hid at h ⊢
        rw [List.drop_eq_getElem_cons hlt, List.dropWhile_cons, if_pos (by
          rw [show ts[b] = T by rw [← hTT, at', List.getElem?_eq_getElem hlt]; rfl, h9]; rfl)] at h
        exact h
      have hw1 : IntKind.i64.wrap ((b : Int) + 1) = ((b + 1 : Nat) : Int) := by rw [IntKind.wrap_i64]; omega
      have hP2 := hP1.set (b := b + 1) (by omega)
      have hbut2 := hbut1.trans (But.set R w1 1 (.int .i64 (b + 1 : Nat)))
      rw [h9] at hf0 ⊢
      clear HG
      push_cast at hP2 hbut2
      go_wp2
      refine ⟨⟨b + 1, by omega, .inl (by omega), HG', hP2, hbut2⟩, ?_⟩
      rw [show placeOf (w1.setCell ⟨R, 1, none⟩ (.int .i64 ((b : Int) + 1))) R = b + 1 from hP2.place, hPb.place]
      omega
    · have e9 : (T.kind == 9) = false := by simpa using h9
      have hD : ts.drop b = G := by
        have h := HG
        unfold Hid at h
        by_cases hlt : b < ts.length
        · rw [List.drop_eq_getElem_cons hlt, List.dropWhile_cons, if_neg (by
            rw [show ts[b] = T by rw [← hTT, at', List.getElem?_eq_getElem hlt]; rfl, e9]; simp), ← List.drop_eq_getElem_cons hlt] at h
          exact h
        · rw [List.drop_eq_nil_of_le (by omega)] at h ⊢
          exact h
      clear HG h9
      have hlb := hP1.least
      by_cases hgt : a < b
      · have hgi : (a : Int) < (b : Int) := by omega
        go_wp2
        go_ret
        exact ⟨b, by rw [decide_eq_true hgt]; rfl, hab, hbl, hD, hP1, hbut1⟩
      · have hgi : ¬ (a : Int) < (b : Int) := by omega
        go_wp2
        go_ret
        exact ⟨b, by rw [decide_eq_false hgt]; rfl, hab, hbl, hD, hP1, hbut1⟩

/-- The combinator of a sign; 0: none. -/
def combV (t : Bt) : Int := if t.kind = 10 ∧ t.c = 62 then 2 else if t.kind = 10 ∧ t.c = 43 then 3 else if t.kind = 10 ∧ t.c = 126 then 4 else 0
set_option maxRecDepth 100000 in
set_option maxHeartbeats 1000000 in
theorem comb_any (n₀ R : Nat) (v : Value) (ts : List Bt) (a : Nat) (bad : Bool) (deep : Int) (w : World) (hP : Pk n₀ w R v ts a bad deep) :
    Calls Try.prog 49 #[.pointer (some ⟨R, 0, none⟩)] w fun e w' => e = .returned (.int .i64 (combV (at' ts a))) ∧ Below w.heap.size w w' := by
  have hs := fun c X hX => delim_any n₀ R v ts a bad deep 0 c X hX (by omega)
  rw [Nat.add_zero] at hs
  generalize at' ts a = T at *
  obtain ⟨V, hV⟩ : ∃ V, combV T = V := ⟨_, rfl⟩
  rw [hV]
  unfold combV at hV
  have h1 := hs 62 w hP
  by_cases g1 : T.kind = 10 ∧ T.c = 62
  · rw [if_pos g1] at hV
    subst hV
    rw [decide_eq_true g1] at h1
    clear hs
    go_enter Try.func49, Try.ntmps49
    go_wp2_with fail
    refine h1.mono ?_
    clear h1
    rintro e w1 ⟨rfl, b1⟩
    go_wp2
    go_ret
    exact ⟨rfl, b1⟩
  rw [if_neg g1] at hV
  rw [decide_eq_false g1] at h1
  go_enter Try.func49, Try.ntmps49
  go_wp2_with fail
  refine h1.mono ?_
  clear h1
  rintro e w1 ⟨rfl, b1⟩
  have h2 := hs 43 w1 (hP.below b1)
  by_cases g2 : T.kind = 10 ∧ T.c = 43
  · rw [if_pos g2] at hV
    subst hV
    rw [decide_eq_true g2] at h2
    clear hs
    go_wp2_with fail
    refine h2.mono ?_
    clear h2
    rintro e w2 ⟨rfl, b2⟩
    go_wp2
    go_ret
    exact ⟨rfl, below_next b1 b2⟩
  rw [if_neg g2] at hV
  rw [decide_eq_false g2] at h2
  go_wp2_with fail
  refine h2.mono ?_
  clear h2
  rintro e w2 ⟨rfl, b2⟩
  have h3 := hs 126 w2 ((hP.below b1).below b2)
  clear hs
  by_cases g3 : T.kind = 10 ∧ T.c = 126
  · rw [if_pos g3] at hV
    subst hV
    rw [decide_eq_true g3] at h3
    go_wp2_with fail
    refine h3.mono ?_
    clear h3
    rintro e w3 ⟨rfl, b3⟩
    go_wp2
    go_ret
    exact ⟨rfl, below_next (below_next b1 b2) b3⟩
  rw [if_neg g3] at hV
  subst hV
  rw [decide_eq_false g3] at h3
  go_wp2_with fail
  refine h3.mono ?_
  clear h3
  rintro e w3 ⟨rfl, b3⟩
  go_wp2
  go_ret
  exact ⟨rfl, below_next (below_next b1 b2) b3⟩

/-- Whether a selector ends here. -/
def endsV (ts : List Bt) (a : Nat) : Bool := decide (ts.length ≤ a ∨ (at' ts a).kind = 13 ∨ (at' ts a).kind = 17)
set_option maxRecDepth 100000 in
set_option maxHeartbeats 1000000 in
theorem ends_any (n₀ R : Nat) (v : Value) (ts : List Bt) (a : Nat) (bad : Bool) (deep : Int) (w : World) (hP : Pk n₀ w R v ts a bad deep) :
    Calls Try.prog 50 #[.pointer (some ⟨R, 0, none⟩)] w fun e w' => e = .returned (.bool (endsV ts a)) ∧ Below w.heap.size w w' := by
  have h1 := see_any n₀ R v ts a bad deep 0 w hP (by omega)
  rw [Nat.add_zero] at h1
  unfold endsV
  generalize at' ts a = T at *
  unfold tkV at h1
  obtain ⟨E, hE⟩ : ∃ E, decide (ts.length ≤ a ∨ T.kind = 13 ∨ T.kind = 17) = E := ⟨_, rfl⟩
  rw [hE]
  go_enter Try.func50, Try.ntmps50
  go_wp2_with fail
  refine h1.mono ?_
  clear h1
  rintro e w1 ⟨rfl, b1⟩
  have hf0 := tkField0 T.kind T.text T.n T.whole T.c w1
  have h2 := over_any n₀ R v ts a bad deep w1 (hP.below b1)
  go_wp2_with fail
  refine h2.mono ?_
  clear h2 hf0
  rintro e w2 ⟨rfl, b2⟩
  have b3 := below_next b1 b2
  by_cases g0 : ts.length ≤ a
  · obtain rfl : true = E := by rw [← hE, decide_eq_true (.inl g0)]
    rw [decide_eq_true g0]
    clear g0 hE
    go_wp2
    go_ret
    exact ⟨rfl, b3⟩
  rw [decide_eq_false g0]
  by_cases g1 : T.kind = 13
  · obtain rfl : true = E := by rw [← hE, decide_eq_true (.inr (.inl g1))]
    rw [g1]
    clear g0 hE
    go_wp2
    go_ret
    exact ⟨rfl, b3⟩
  have e1 : (T.kind == 13) = false := by simpa using g1
  by_cases g2 : T.kind = 17
  · obtain rfl : true = E := by rw [← hE, decide_eq_true (.inr (.inr g2))]
    rw [g2]
    clear g0 g1 e1 hE
    go_wp2
    go_ret
    exact ⟨rfl, b3⟩
  have e2 : (T.kind == 17) = false := by simpa using g2
  obtain rfl : false = E := by rw [← hE, decide_eq_false (by omega)]
  clear g0 g1 g2 hE
  go_wp2
  go_ret
  exact ⟨rfl, b3⟩

end Go.Proofs.Ytgjjedodbgimfaa.Sr
