/- For every row of calls: the law tapestrierlaw19.StorePlays returns true and leaves its argument as it was; no condition. -/
import Derived.Test.YtiaomdlfccpcmaaStTri
namespace Go.Proofs.Ytiaomdlfccpcmaa
open Go.Proofs.Ytiaomdlfccpcmaa.Tre
open Go Go.ChangeShapes Go.WideShapes Go.ChangeAt Go.RowKit Wg Sto

set_option maxRecDepth 100000 in
set_option maxHeartbeats 4000000 in
theorem storePlays_walk (w : World) (v : Value) (l : List Ca) (hl : Calls19R w v l) :
    Calls Try.prog 3 #[v] w fun e w' => e = .returned (.bool true) ∧ Below w.heap.size w w' := by
  have HNUM : Hid (∀ n w, Calls Try.prog 9 #[.int .i64 n] w fun e w' => e = .returned (.int .i64 n) ∧ w' = w) := num_any
  have hal := Sto.alive_any w
  obtain ⟨p, cap, rfl⟩ := RowT.len hl.1
  have HR : Hid (Calls19R w (.slice p l.length cap) l) := hl
  have hmx := RowT.short hl.1
  unfold maxLen at hmx
  clear hl
  go_enter Try.func3, Try.ntmps3
  go_wp2_with fail
  go_at_call 6
  refine Calls.mono hal ?_
  clear hal
  rintro e w1 ⟨rfl, b1⟩
  by_cases g3 : 100 < l.length
  · have d3 : decide (100 < l.length) = true := by simpa using g3
    have d3' : decide ((100 : Int) < (l.length : Int)) = true := by simp; omega
    clear g3
    go_wp2
    go_ret
    exact ⟨rfl, b1⟩
  have d3 : decide (100 < l.length) = false := by simpa using g3
  have d3' : decide ((100 : Int) < (l.length : Int)) = false := by simp; omega
  have S0 := Tri.start w w1 b1
  obtain ⟨L, hL⟩ : ∃ L, l.length = L := ⟨_, rfl⟩
  have hL100 : L ≤ 100 := by omega
  rw [hL] at HR hmx d3 d3' ⊢
  have HL : Hid (l.length = L) := hL
  clear hL g3 b1
  go_upto_region 7 with fail
  generalize ((w1.alloc _).alloc _).alloc _ = w2 at *
  generalize w1.heap.size = c at *
  clear d3 d3'
  go_wp2_with fail
  go_loopw [7] (fun x wr => ∃ (i : Nat) (ls lo : List He), x = .int .i64 i ∧ i ≤ L ∧ Tri w c (3 * i) ls lo ls wr) (fun x _ => L - (intOf x).toNat)
  case atStart => exact ⟨0, [], [], rfl, Nat.zero_le _, S0⟩
  case round =>
    clear S0
    obtain ⟨i, ls, lo, rfl, hi, S⟩ := hrel
    have HS : Hid (Tri w c (3 * i) ls lo ls wr) := S
    clear S
    by_cases hil : i < L
    · have hlt : decide (i < L) = true := by simpa using hil
      obtain ⟨⟨wy, ix, st⟩, hr⟩ : ∃ r, l[i]? = some r := ⟨_, List.getElem?_eq_getElem (by have := HL.out; omega)⟩
      obtain ⟨bb, off, rfl, hix, hcl⟩ := Calls19R.get HR.out hr
      have HCL : Hid (∀ X, Below w.heap.size w X → ∀ j u, (.int .i64 wy :: .int .i64 ix :: styL st : List Value)[j]? = some u → X.cell? ⟨bb, off + i * 10 + j, none⟩ = some u) := hcl
      have HIX : Hid (ix ≤ 9223372036854775807) := hix
      have hii : (i : Int) < (L : Int) := by omega
      have HIL : Hid (i < L ∧ 3 * i ≤ 300) := ⟨hil, by omega⟩
      obtain ⟨so, hso⟩ : ∃ so : Nat → Int, so = fun k => if k = 0 then (i : Int) else 0 := ⟨_, rfl⟩
      have hp := HS.out.newo (by omega) so
      have hsty : sty so = .agg #[.int .i64 i, .int .i64 0, .int .i64 0, .int .i64 0, .int .i64 0, .int .i64 0, .int .i64 0, .int .i64 0] := by rw [hso]; rfl
      rw [hsty] at hp
      clear hcl hr hi hil HS hso hsty hix
      go_wp2_with fail
      go_at_call 7
      refine Calls.mono hp ?_
      clear hp
      rintro e w5 ⟨rfl, S5⟩
      have q0 := HCL.out _ S5.main.below 0 _ rfl
      have q1 := HCL.out _ S5.main.below 1 _ rfl
      have q2 := HCL.out _ S5.main.below 2 _ rfl
      have q3 := HCL.out _ S5.main.below 3 _ rfl
      have q4 := HCL.out _ S5.main.below 4 _ rfl
      have q5 := HCL.out _ S5.main.below 5 _ rfl
      have q6 := HCL.out _ S5.main.below 6 _ rfl
      have q7 := HCL.out _ S5.main.below 7 _ rfl
      have q8 := HCL.out _ S5.main.below 8 _ rfl
      have q9 := HCL.out _ S5.main.below 9 _ rfl
      rw [Nat.add_zero] at q0
      generalize newL lo so = lo' at *
      obtain ⟨w6, hw6⟩ : ∃ w6, w5.alloc (.cells #[.int .i64 wy, .int .i64 ix, .int .i64 (st 0), .int .i64 (st 1), .int .i64 (st 2), .int .i64 (st 3), .int .i64 (st 4), .int .i64 (st 5), .int .i64 (st 6), .int .i64 (st 7)] 37) = w6 := ⟨_, rfl⟩
      have S6 : Tri w c (3 * i + 1) ls lo' ls w6 := by rw [← hw6]; exact S5.next ((Below.refl _ _).alloc (Nat.le_refl _) _)
      have C6 : CaAt w6 w5.heap.size (wy, ix, st) := by rw [← hw6]; exact heap_alloc_new _ _
      have HX : Hid (_ ∧ _) := ⟨S6, C6⟩
      have a0 := C6.way
      clear S5 S6 C6
      go_upto_region 12 with fail
      clear hw6 q0 q1 q2 q3 q4 q5 q6 q7 q8 q9
      generalize w5.heap.size = A at *
      have hw : wy = 0 ∨ wy = 1 ∨ wy = 2 ∨ (wy ≠ 0 ∧ wy ≠ 1 ∧ wy ≠ 2) := by omega
      rcases hw with hw | hw | hw | hw
      case' inl =>
        subst hw
        go_upto_region 18 with fail
        clear a0
        obtain ⟨S6, C6⟩ := HX.out
        obtain ⟨N, hN⟩ : ∃ N : Nat, ls.length = N := ⟨_, rfl⟩
        have hp := S6.drew.newm (by have := HIL.out; omega) st
        rw [hN] at hp
        have hb1 : ((N : Int) == (N : Int)) = true := by simp
        have HeldS := (C6.kept .drew).sty
        have HN : Hid (_ = _) := hN
        clear hN S6
        refine Rg.wpD_begin [0, 1, 2, 3, 4, 5] (fun Y => Y.cell? ⟨A, 2, none⟩ = some (.int .i64 (st 0)) ∧ Y.cell? ⟨A, 3, none⟩ = some (.int .i64 (st 1)) ∧ Y.cell? ⟨A, 4, none⟩ = some (.int .i64 (st 2)) ∧ Y.cell? ⟨A, 5, none⟩ = some (.int .i64 (st 3)) ∧ Y.cell? ⟨A, 6, none⟩ = some (.int .i64 (st 4)) ∧ Y.cell? ⟨A, 7, none⟩ = some (.int .i64 (st 5)) ∧ Y.cell? ⟨A, 8, none⟩ = some (.int .i64 (st 6)) ∧ Y.cell? ⟨A, 9, none⟩ = some (.int .i64 (st 7))) (by kernel_rfl) ?_
        refine Rg.wpD_load 0 (v := ?_) (by simp only [List.getElem?_toArray, List.getElem?_cons_zero]; rfl) (by kernel_rfl) (by kernel_rfl) (by intro _ _ _ h; exact h) HeldS (by rfl) (fun wz hz => ?_) ?_
        rotate_left
        · first | (go_simp; done) | (go_simp; with_reducible rfl)
        simp only [Act.put, List.setIfInBounds_toArray, List.set_cons_succ, List.set_cons_zero]
        refine Rg.wpD_load 1 (v := ?_) (by simp only [List.getElem?_toArray, List.getElem?_cons_succ, List.getElem?_cons_zero]; rfl) (by kernel_rfl) (by kernel_rfl) (by intro _ _ _ h; exact h) HeldS (by rfl) (fun wz hz => ?_) ?_
        rotate_left
        · first | (go_simp; done) | (go_simp; with_reducible rfl)
        simp only [Act.put, List.setIfInBounds_toArray, List.set_cons_succ, List.set_cons_zero]
        refine Rg.wpD_load 3 (v := ?_) (by simp only [List.getElem?_toArray, List.getElem?_cons_succ, List.getElem?_cons_zero]; rfl) (by kernel_rfl) (by kernel_rfl) (by intro _ _ _ h; exact h) HeldS (by rfl) (fun wz hz => ?_) ?_
        rotate_left
        · first | (go_simp; done) | (go_simp; with_reducible rfl)
        simp only [Act.put, List.setIfInBounds_toArray, List.set_cons_succ, List.set_cons_zero]
        refine Rg.wpD_load 4 (v := ?_) (by simp only [List.getElem?_toArray, List.getElem?_cons_succ, List.getElem?_cons_zero]; rfl) (by kernel_rfl) (by kernel_rfl) (by intro _ _ _ h; exact h) HeldS (by rfl) (fun wz hz => ?_) ?_
        rotate_left
        · first | (go_simp; done) | (go_simp; with_reducible rfl)
        simp only [Act.put, List.setIfInBounds_toArray, List.set_cons_succ, List.set_cons_zero]
        refine Rg.wpD_load 5 (v := ?_) (by simp only [List.getElem?_toArray, List.getElem?_cons_succ, List.getElem?_cons_zero]; rfl) (by kernel_rfl) (by kernel_rfl) (by intro _ _ _ h; exact h) HeldS (by rfl) (fun wz hz => ?_) ?_
        rotate_left
        · first | (go_simp; done) | (go_simp; with_reducible rfl)
        simp only [Act.put, List.setIfInBounds_toArray, List.set_cons_succ, List.set_cons_zero]
        clear HeldS
        refine Rg.wpD_do 2 (by kernel_rfl) (by simp only [List.getElem?_toArray, List.getElem?_cons_succ, List.getElem?_cons_zero]; rfl) (fun K hK => ?_)
        go_simp
        go_at_call 7
        refine Calls.mono hp ?_
        clear hp
        rintro e w7 ⟨rfl, S7, k7⟩
        have C7 := (C6.kept .drew).kept k7
        refine hK _ _ (fun _ => C7.sty) ?_
        clear hK K C6 k7
        have hp := S7.newr (by have := HIL.out; omega) st
        rw [HN.out] at hp
        clear S7
        refine Rg.wpD_do 6 (by kernel_rfl) (by simp only [List.getElem?_toArray, List.getElem?_cons_succ, List.getElem?_cons_zero]; rfl) (fun K hK => ?_)
        go_simp
        go_at_call 8
        refine Calls.mono hp ?_
        clear hp
        rintro e w8 ⟨rfl, S8, k8⟩
        have C8 := C7.kept k8
        refine hK _ _ (fun h => absurd h (by decide)) ?_
        clear hK K C7 k8
        refine Rg.wpD_pure 7 (v := ?_) (by simp only [List.getElem?_toArray, List.getElem?_cons_succ, List.getElem?_cons_zero]; rfl) (by kernel_rfl) (by kernel_rfl) (by intro _ _ _ h; exact h) (by rfl) (fun wz => ?_) ?_
        rotate_left
        · first | (go_simp; done) | (go_simp; with_reducible rfl)
        simp only [Act.put, List.setIfInBounds_toArray, List.set_cons_succ, List.set_cons_zero]
        refine Rg.wpD_pure 8 (v := ?_) (by simp only [List.getElem?_toArray, List.getElem?_cons_succ, List.getElem?_cons_zero]; rfl) (by kernel_rfl) (by kernel_rfl) (by intro _ _ _ h; exact h) (by rfl) (fun wz => ?_) ?_
        rotate_left
        · first | (go_simp; done) | (go_simp; with_reducible rfl)
        simp only [Act.put, List.setIfInBounds_toArray, List.set_cons_succ, List.set_cons_zero]
        refine Rg.wpD_done (by kernel_rfl) ?_
        clear hb1 HN
        generalize newL ls st = ls' at *
        go_upto_region 23 with fail
      case' inr.inl =>
        subst hw
        go_upto_region 20 with fail
        clear a0
        obtain ⟨S6, C6⟩ := HX.out
        obtain ⟨R, hR⟩ : ∃ R, addR ls ix = R := ⟨_, rfl⟩
        have hp := S6.drew.holdm (by have := HIL.out; omega) HIX.out
        rw [hR] at hp
        have hb1 : (R == R) = true := by simp
        have HeldS := (C6.kept .drew).one
        have HN : Hid (_ = _) := hR
        clear hR S6
        refine Rg.wpD_begin [0, 1, 2, 3, 4, 5, 6] (fun Y => Y.cell? ⟨A, 1, none⟩ = some (.int .i64 ix)) (by kernel_rfl) ?_
        refine Rg.wpD_load 0 (v := ?_) (by simp only [List.getElem?_toArray, List.getElem?_cons_zero]; rfl) (by kernel_rfl) (by kernel_rfl) (by intro _ _ _ h; exact h) HeldS (by rfl) (fun wz hz => ?_) ?_
        rotate_left
        · first | (go_simp; done) | (go_simp; with_reducible rfl)
        simp only [Act.put, List.setIfInBounds_toArray, List.set_cons_succ, List.set_cons_zero]
        refine Rg.wpD_load 1 (v := ?_) (by simp only [List.getElem?_toArray, List.getElem?_cons_succ, List.getElem?_cons_zero]; rfl) (by kernel_rfl) (by kernel_rfl) (by intro _ _ _ h; exact h) HeldS (by rfl) (fun wz hz => ?_) ?_
        rotate_left
        · first | (go_simp; done) | (go_simp; with_reducible rfl)
        simp only [Act.put, List.setIfInBounds_toArray, List.set_cons_succ, List.set_cons_zero]
        refine Rg.wpD_load 4 (v := ?_) (by simp only [List.getElem?_toArray, List.getElem?_cons_succ, List.getElem?_cons_zero]; rfl) (by kernel_rfl) (by kernel_rfl) (by intro _ _ _ h; exact h) HeldS (by rfl) (fun wz hz => ?_) ?_
        rotate_left
        · first | (go_simp; done) | (go_simp; with_reducible rfl)
        simp only [Act.put, List.setIfInBounds_toArray, List.set_cons_succ, List.set_cons_zero]
        refine Rg.wpD_load 5 (v := ?_) (by simp only [List.getElem?_toArray, List.getElem?_cons_succ, List.getElem?_cons_zero]; rfl) (by kernel_rfl) (by kernel_rfl) (by intro _ _ _ h; exact h) HeldS (by rfl) (fun wz hz => ?_) ?_
        rotate_left
        · first | (go_simp; done) | (go_simp; with_reducible rfl)
        simp only [Act.put, List.setIfInBounds_toArray, List.set_cons_succ, List.set_cons_zero]
        refine Rg.wpD_load 6 (v := ?_) (by simp only [List.getElem?_toArray, List.getElem?_cons_succ, List.getElem?_cons_zero]; rfl) (by kernel_rfl) (by kernel_rfl) (by intro _ _ _ h; exact h) HeldS (by rfl) (fun wz hz => ?_) ?_
        rotate_left
        · first | (go_simp; done) | (go_simp; with_reducible rfl)
        simp only [Act.put, List.setIfInBounds_toArray, List.set_cons_succ, List.set_cons_zero]
        clear HeldS
        refine Rg.wpD_do 2 (by kernel_rfl) (by simp only [List.getElem?_toArray, List.getElem?_cons_succ, List.getElem?_cons_zero]; rfl) (fun K hK => ?_)
        go_simp
        go_at_call 10
        refine Calls.mono hp ?_
        clear hp
        rintro e w7 ⟨rfl, S7, k7⟩
        have C7 := (C6.kept .drew).kept k7
        refine hK _ _ (fun _ => C7.one) ?_
        clear hK K C6 k7
        have hq := HNUM.out R w7
        refine Rg.wpD_do 3 (by kernel_rfl) (by simp only [List.getElem?_toArray, List.getElem?_cons_succ, List.getElem?_cons_zero]; rfl) (fun K hK => ?_)
        go_simp
        go_at_call 9
        refine Calls.mono hq ?_
        clear hq
        rintro e wz ⟨rfl, rfl⟩
        refine hK _ _ (fun _ => C7.one) ?_
        clear hK K
        have hp := S7.holdr (by have := HIL.out; omega) HIX.out
        rw [HN.out] at hp
        clear S7
        refine Rg.wpD_do 7 (by kernel_rfl) (by simp only [List.getElem?_toArray, List.getElem?_cons_succ, List.getElem?_cons_zero]; rfl) (fun K hK => ?_)
        go_simp
        go_at_call 11
        refine Calls.mono hp ?_
        clear hp
        rintro e w8 ⟨rfl, S8, k8⟩
        have C8 := C7.kept k8
        refine hK _ _ (fun h => absurd h (by decide)) ?_
        clear hK K C7 k8
        refine Rg.wpD_pure 8 (v := ?_) (by simp only [List.getElem?_toArray, List.getElem?_cons_succ, List.getElem?_cons_zero]; rfl) (by kernel_rfl) (by kernel_rfl) (by intro _ _ _ h; exact h) (by rfl) (fun wz => ?_) ?_
        rotate_left
        · first | (go_simp; done) | (go_simp; with_reducible rfl)
        simp only [Act.put, List.setIfInBounds_toArray, List.set_cons_succ, List.set_cons_zero]
        refine Rg.wpD_pure 9 (v := ?_) (by simp only [List.getElem?_toArray, List.getElem?_cons_succ, List.getElem?_cons_zero]; rfl) (by kernel_rfl) (by kernel_rfl) (by intro _ _ _ h; exact h) (by rfl) (fun wz => ?_) ?_
        rotate_left
        · first | (go_simp; done) | (go_simp; with_reducible rfl)
        simp only [Act.put, List.setIfInBounds_toArray, List.set_cons_succ, List.set_cons_zero]
        refine Rg.wpD_done (by kernel_rfl) ?_
        clear hb1 HN
        generalize addL ls ix 1 = ls' at *
        go_upto_region 23 with fail
      case' inr.inr.inl =>
        subst hw
        go_upto_region 22 with fail
        clear a0
        obtain ⟨S6, C6⟩ := HX.out
        obtain ⟨R, hR⟩ : ∃ R, addR ls ix = R := ⟨_, rfl⟩
        have hp := S6.drew.relm (by have := HIL.out; omega) HIX.out
        rw [hR] at hp
        have hb1 : (R == R) = true := by simp
        have HeldS := (C6.kept .drew).one
        have HN : Hid (_ = _) := hR
        clear hR S6
        refine Rg.wpD_begin [0, 1, 2, 3, 4, 5, 6] (fun Y => Y.cell? ⟨A, 1, none⟩ = some (.int .i64 ix)) (by kernel_rfl) ?_
        refine Rg.wpD_load 0 (v := ?_) (by simp only [List.getElem?_toArray, List.getElem?_cons_zero]; rfl) (by kernel_rfl) (by kernel_rfl) (by intro _ _ _ h; exact h) HeldS (by rfl) (fun wz hz => ?_) ?_
        rotate_left
        · first | (go_simp; done) | (go_simp; with_reducible rfl)
        simp only [Act.put, List.setIfInBounds_toArray, List.set_cons_succ, List.set_cons_zero]
        refine Rg.wpD_load 1 (v := ?_) (by simp only [List.getElem?_toArray, List.getElem?_cons_succ, List.getElem?_cons_zero]; rfl) (by kernel_rfl) (by kernel_rfl) (by intro _ _ _ h; exact h) HeldS (by rfl) (fun wz hz => ?_) ?_
        rotate_left
        · first | (go_simp; done) | (go_simp; with_reducible rfl)
        simp only [Act.put, List.setIfInBounds_toArray, List.set_cons_succ, List.set_cons_zero]
        refine Rg.wpD_load 4 (v := ?_) (by simp only [List.getElem?_toArray, List.getElem?_cons_succ, List.getElem?_cons_zero]; rfl) (by kernel_rfl) (by kernel_rfl) (by intro _ _ _ h; exact h) HeldS (by rfl) (fun wz hz => ?_) ?_
        rotate_left
        · first | (go_simp; done) | (go_simp; with_reducible rfl)
        simp only [Act.put, List.setIfInBounds_toArray, List.set_cons_succ, List.set_cons_zero]
        refine Rg.wpD_load 5 (v := ?_) (by simp only [List.getElem?_toArray, List.getElem?_cons_succ, List.getElem?_cons_zero]; rfl) (by kernel_rfl) (by kernel_rfl) (by intro _ _ _ h; exact h) HeldS (by rfl) (fun wz hz => ?_) ?_
        rotate_left
        · first | (go_simp; done) | (go_simp; with_reducible rfl)
        simp only [Act.put, List.setIfInBounds_toArray, List.set_cons_succ, List.set_cons_zero]
        refine Rg.wpD_load 6 (v := ?_) (by simp only [List.getElem?_toArray, List.getElem?_cons_succ, List.getElem?_cons_zero]; rfl) (by kernel_rfl) (by kernel_rfl) (by intro _ _ _ h; exact h) HeldS (by rfl) (fun wz hz => ?_) ?_
        rotate_left
        · first | (go_simp; done) | (go_simp; with_reducible rfl)
        simp only [Act.put, List.setIfInBounds_toArray, List.set_cons_succ, List.set_cons_zero]
        clear HeldS
        refine Rg.wpD_do 2 (by kernel_rfl) (by simp only [List.getElem?_toArray, List.getElem?_cons_succ, List.getElem?_cons_zero]; rfl) (fun K hK => ?_)
        go_simp
        go_at_call 12
        refine Calls.mono hp ?_
        clear hp
        rintro e w7 ⟨rfl, S7, k7⟩
        have C7 := (C6.kept .drew).kept k7
        refine hK _ _ (fun _ => C7.one) ?_
        clear hK K C6 k7
        have hq := HNUM.out R w7
        refine Rg.wpD_do 3 (by kernel_rfl) (by simp only [List.getElem?_toArray, List.getElem?_cons_succ, List.getElem?_cons_zero]; rfl) (fun K hK => ?_)
        go_simp
        go_at_call 9
        refine Calls.mono hq ?_
        clear hq
        rintro e wz ⟨rfl, rfl⟩
        refine hK _ _ (fun _ => C7.one) ?_
        clear hK K
        have hp := S7.relr (by have := HIL.out; omega) HIX.out
        rw [HN.out] at hp
        clear S7
        refine Rg.wpD_do 7 (by kernel_rfl) (by simp only [List.getElem?_toArray, List.getElem?_cons_succ, List.getElem?_cons_zero]; rfl) (fun K hK => ?_)
        go_simp
        go_at_call 13
        refine Calls.mono hp ?_
        clear hp
        rintro e w8 ⟨rfl, S8, k8⟩
        have C8 := C7.kept k8
        refine hK _ _ (fun h => absurd h (by decide)) ?_
        clear hK K C7 k8
        refine Rg.wpD_pure 8 (v := ?_) (by simp only [List.getElem?_toArray, List.getElem?_cons_succ, List.getElem?_cons_zero]; rfl) (by kernel_rfl) (by kernel_rfl) (by intro _ _ _ h; exact h) (by rfl) (fun wz => ?_) ?_
        rotate_left
        · first | (go_simp; done) | (go_simp; with_reducible rfl)
        simp only [Act.put, List.setIfInBounds_toArray, List.set_cons_succ, List.set_cons_zero]
        refine Rg.wpD_pure 9 (v := ?_) (by simp only [List.getElem?_toArray, List.getElem?_cons_succ, List.getElem?_cons_zero]; rfl) (by kernel_rfl) (by kernel_rfl) (by intro _ _ _ h; exact h) (by rfl) (fun wz => ?_) ?_
        rotate_left
        · first | (go_simp; done) | (go_simp; with_reducible rfl)
        simp only [Act.put, List.setIfInBounds_toArray, List.set_cons_succ, List.set_cons_zero]
        refine Rg.wpD_done (by kernel_rfl) ?_
        clear hb1 HN
        generalize addL ls ix (-1) = ls' at *
        go_upto_region 23 with fail
      case' inr.inr.inr =>
        obtain ⟨n0, n1, n2⟩ := hw
        have e0 : (wy == 0) = false := by simpa using n0
        have e1 : (wy == 1) = false := by simpa using n1
        have e2 : (wy == 2) = false := by simpa using n2
        clear n0 n1 n2
        go_upto_region 14 with fail
        clear a0 e0 e1 e2
        obtain ⟨S6, C6⟩ := HX.out
        obtain ⟨⟨x, R⟩, hR⟩ : ∃ y, getV ls ix = y := ⟨_, rfl⟩
        have hp := S6.getm HIX.out
        rw [hR] at hp
        have hb1 : (R == R) = true := by simp
        have c1 := C6.one
        have HN : Hid (_ ∧ _) := ⟨hR, C6⟩
        clear hR S6 C6
        go_wp2_with fail
        go_at_call 14
        refine Calls.mono hp ?_
        clear hp c1
        rintro e w7 ⟨rfl, S7, b7⟩
        have C7 := HN.out.2.kept (.next b7)
        have qa : Below w7.heap.size w7 (w7.alloc (.cells (styL x).toArray 35)) := (Below.refl _ _).alloc (Nat.le_refl _) _
        have X8 := SAt.new w7 x
        have S8 := S7.next qa
        have C8 := C7.kept (.next qa)
        simp only [styL] at X8 S8 C8
        clear S7 C7 b7 qa
        go_upto_region 15 with fail
        generalize w7.alloc _ = w8 at *
        generalize w7.heap.size = B at *
        have hp := S8.getr HIX.out
        rw [HN.out.1] at hp
        have c1 := C8.one
        have HC : Hid (_ ∧ _) := ⟨C8, X8⟩
        clear S8 C8 X8
        go_wp2_with fail
        go_at_call 15
        refine Calls.mono hp ?_
        clear hp c1
        rintro e w9 ⟨rfl, S9, b9⟩
        have C9 := HC.out.1.kept (.next b9)
        have X9 := HC.out.2.next b9
        have qa : Below w9.heap.size w9 (w9.alloc (.cells (styL x).toArray 35)) := (Below.refl _ _).alloc (Nat.le_refl _) _
        have Y8 := SAt.new w9 x
        have S8 := (S9.next qa).mono (show 3 * i + 1 ≤ 3 * i + 1 + 1 + 1 by omega)
        have C8 := C9.kept (.next qa)
        have X8 := X9.next qa
        simp only [styL] at X8 Y8 S8 C8
        clear S9 C9 X9 b9 qa HC
        go_upto_region 16 with fail
        generalize w9.alloc _ = w10 at *
        generalize w9.heap.size = B2 at *
        obtain ⟨x0, x1, x2, x3, x4, x5, x6, x7⟩ := X8.cells
        obtain ⟨y0, y1, y2, y3, y4, y5, y6, y7⟩ := Y8.cells
        have he := eq_sty x w10
        simp only [sty] at he
        have HF : Hid (_ ∧ _) := ⟨S8, C8⟩
        clear S8 C8 X8 Y8 HN
        have hq := HNUM.out R w10
        go_wp2_with fail
        go_at_call 9
        refine Calls.mono hq ?_
        clear hq
        rintro e wz ⟨rfl, hwz⟩
        have hwy := hwz.symm
        clear hwz
        subst hwy
        go_upto_region 23 with fail
        clear hb1 he x0 x1 x2 x3 x4 x5 x6 x7 y0 y1 y2 y3 y4 y5 y6 y7
        obtain ⟨S8, C8⟩ := HF.out
      all_goals
        clear HX
        obtain ⟨C, hp⟩ := S8.drew.counts HIX.out
        have hne : (C != C) = false := by simp
        have HeldS := (C8.kept .drew).one
        refine Rg.wpD_begin [3, 4, 5, 6, 7, 8] (fun Y => Y.cell? ⟨A, 1, none⟩ = some (.int .i64 ix)) (by kernel_rfl) ?_
        refine Rg.wpD_pure 0 (v := ?_) (by simp only [List.getElem?_toArray, List.getElem?_cons_zero]; rfl) (by kernel_rfl) (by kernel_rfl) (by intro _ _ _ h; exact h) (by rfl) (fun wz => ?_) ?_
        rotate_left
        · first | (go_simp; done) | (go_simp; with_reducible rfl)
        simp only [Act.put, List.setIfInBounds_toArray, List.set_cons_succ, List.set_cons_zero]
        refine Rg.wpD_pure 1 (v := ?_) (by simp only [List.getElem?_toArray, List.getElem?_cons_succ, List.getElem?_cons_zero]; rfl) (by kernel_rfl) (by kernel_rfl) (by intro _ _ _ h; exact h) (by rfl) (fun wz => ?_) ?_
        rotate_left
        · first | (go_simp; done) | (go_simp; with_reducible rfl)
        simp only [Act.put, List.setIfInBounds_toArray, List.set_cons_succ, List.set_cons_zero]
        refine Rg.wpD_pure 2 (v := ?_) (by simp only [List.getElem?_toArray, List.getElem?_cons_succ, List.getElem?_cons_zero]; rfl) (by kernel_rfl) (by kernel_rfl) (by intro _ _ _ h; exact h) (by rfl) (fun wz => ?_) ?_
        rotate_left
        · first | (go_simp; done) | (go_simp; with_reducible rfl)
        simp only [Act.put, List.setIfInBounds_toArray, List.set_cons_succ, List.set_cons_zero]
        refine Rg.wpD_load 3 (v := ?_) (by simp only [List.getElem?_toArray, List.getElem?_cons_succ, List.getElem?_cons_zero]; rfl) (by kernel_rfl) (by kernel_rfl) (by intro _ _ _ h; exact h) HeldS (by rfl) (fun wz hz => ?_) ?_
        rotate_left
        · first | (go_simp; done) | (go_simp; with_reducible rfl)
        simp only [Act.put, List.setIfInBounds_toArray, List.set_cons_succ, List.set_cons_zero]
        refine Rg.wpD_load 4 (v := ?_) (by simp only [List.getElem?_toArray, List.getElem?_cons_succ, List.getElem?_cons_zero]; rfl) (by kernel_rfl) (by kernel_rfl) (by intro _ _ _ h; exact h) HeldS (by rfl) (fun wz hz => ?_) ?_
        rotate_left
        · first | (go_simp; done) | (go_simp; with_reducible rfl)
        simp only [Act.put, List.setIfInBounds_toArray, List.set_cons_succ, List.set_cons_zero]
        refine Rg.wpD_load 6 (v := ?_) (by simp only [List.getElem?_toArray, List.getElem?_cons_succ, List.getElem?_cons_zero]; rfl) (by kernel_rfl) (by kernel_rfl) (by intro _ _ _ h; exact h) HeldS (by rfl) (fun wz hz => ?_) ?_
        rotate_left
        · first | (go_simp; done) | (go_simp; with_reducible rfl)
        simp only [Act.put, List.setIfInBounds_toArray, List.set_cons_succ, List.set_cons_zero]
        refine Rg.wpD_load 7 (v := ?_) (by simp only [List.getElem?_toArray, List.getElem?_cons_succ, List.getElem?_cons_zero]; rfl) (by kernel_rfl) (by kernel_rfl) (by intro _ _ _ h; exact h) HeldS (by rfl) (fun wz hz => ?_) ?_
        rotate_left
        · first | (go_simp; done) | (go_simp; with_reducible rfl)
        simp only [Act.put, List.setIfInBounds_toArray, List.set_cons_succ, List.set_cons_zero]
        refine Rg.wpD_load 8 (v := ?_) (by simp only [List.getElem?_toArray, List.getElem?_cons_succ, List.getElem?_cons_zero]; rfl) (by kernel_rfl) (by kernel_rfl) (by intro _ _ _ h; exact h) HeldS (by rfl) (fun wz hz => ?_) ?_
        rotate_left
        · first | (go_simp; done) | (go_simp; with_reducible rfl)
        simp only [Act.put, List.setIfInBounds_toArray, List.set_cons_succ, List.set_cons_zero]
        clear HeldS
        refine Rg.wpD_do 5 (by kernel_rfl) (by simp only [List.getElem?_toArray, List.getElem?_cons_succ, List.getElem?_cons_zero]; rfl) (fun K hK => ?_)
        go_simp
        go_at_call 16
        refine Calls.mono hp ?_
        clear hp
        rintro e v9 ⟨rfl, ⟨S9, k9⟩, hp⟩
        have C9 := (C8.kept .drew).kept k9
        refine hK _ _ (fun _ => C9.one) ?_
        clear hK K C8 k9 S8 C9
        refine Rg.wpD_do 9 (by kernel_rfl) (by simp only [List.getElem?_toArray, List.getElem?_cons_succ, List.getElem?_cons_zero]; rfl) (fun K hK => ?_)
        go_simp
        go_at_call 17
        refine Calls.mono hp ?_
        clear hp
        rintro e v10 ⟨rfl, rfl⟩
        refine hK _ _ (fun h => absurd h (by decide)) ?_
        clear hK K
        refine Rg.wpD_pure 10 (v := ?_) (by simp only [List.getElem?_toArray, List.getElem?_cons_succ, List.getElem?_cons_zero]; rfl) (by kernel_rfl) (by kernel_rfl) (by intro _ _ _ h; exact h) (by rfl) (fun wz => ?_) ?_
        rotate_left
        · first | (go_simp; done) | (go_simp; with_reducible rfl)
        simp only [Act.put, List.setIfInBounds_toArray, List.set_cons_succ, List.set_cons_zero]
        refine Rg.wpD_pure 11 (v := ?_) (by simp only [List.getElem?_toArray, List.getElem?_cons_succ, List.getElem?_cons_zero]; rfl) (by kernel_rfl) (by kernel_rfl) (by intro _ _ _ h; exact h) (by rfl) (fun wz => ?_) ?_
        rotate_left
        · first | (go_simp; done) | (go_simp; with_reducible rfl)
        simp only [Act.put, List.setIfInBounds_toArray, List.set_cons_succ, List.set_cons_zero]
        refine Rg.wpD_pure 12 (v := ?_) (by simp only [List.getElem?_toArray, List.getElem?_cons_succ, List.getElem?_cons_zero]; rfl) (by kernel_rfl) (by kernel_rfl) (by intro _ _ _ h; exact h) (by rfl) (fun wz => ?_) ?_
        rotate_left
        · first | (go_simp; done) | (go_simp; with_reducible rfl)
        simp only [Act.put, List.setIfInBounds_toArray, List.set_cons_succ, List.set_cons_zero]
        refine Rg.wpD_pure 14 (v := ?_) (by simp only [List.getElem?_toArray, List.getElem?_cons_succ, List.getElem?_cons_zero]; rfl) (by kernel_rfl) (by kernel_rfl) (by intro _ _ _ h; exact h) (by rfl) (fun wz => ?_) ?_
        rotate_left
        · first | (go_simp; done) | (go_simp; with_reducible rfl)
        simp only [Act.put, List.setIfInBounds_toArray, List.set_cons_succ, List.set_cons_zero]
        clear hne
        obtain ⟨M, hp, hq⟩ := S9.lives (by have := HIL.out; omega)
        have hne : ((M : Int) != (M : Int)) = false := by simp
        refine Rg.wpD_do 13 (by kernel_rfl) (by simp only [List.getElem?_toArray, List.getElem?_cons_succ, List.getElem?_cons_zero]; rfl) (fun K hK => ?_)
        go_simp
        go_at_call 18
        refine Calls.mono hp ?_
        clear hp
        rintro e v11 ⟨rfl, rfl⟩
        refine hK _ _ (fun h => absurd h (by decide)) ?_
        clear hK K
        refine Rg.wpD_do 15 (by kernel_rfl) (by simp only [List.getElem?_toArray, List.getElem?_cons_succ, List.getElem?_cons_zero]; rfl) (fun K hK => ?_)
        go_simp
        go_at_call 19
        refine Calls.mono hq ?_
        clear hq
        rintro e v12 ⟨rfl, rfl⟩
        refine hK _ _ (fun h => absurd h (by decide)) ?_
        clear hK K
        refine Rg.wpD_pure 16 (v := ?_) (by simp only [List.getElem?_toArray, List.getElem?_cons_succ, List.getElem?_cons_zero]; rfl) (by kernel_rfl) (by kernel_rfl) (by intro _ _ _ h; exact h) (by rfl) (fun wz => ?_) ?_
        rotate_left
        · first | (go_simp; done) | (go_simp; with_reducible rfl)
        simp only [Act.put, List.setIfInBounds_toArray, List.set_cons_succ, List.set_cons_zero]
        refine Rg.wpD_pure 17 (v := ?_) (by simp only [List.getElem?_toArray, List.getElem?_cons_succ, List.getElem?_cons_zero]; rfl) (by kernel_rfl) (by kernel_rfl) (by intro _ _ _ h; exact h) (by rfl) (fun wz => ?_) ?_
        rotate_left
        · first | (go_simp; done) | (go_simp; with_reducible rfl)
        simp only [Act.put, List.setIfInBounds_toArray, List.set_cons_succ, List.set_cons_zero]
        refine Rg.wpD_done (by kernel_rfl) ?_
        go_wp2_with fail
        go_roundw
        case rel => exact ⟨i + 1, _, _, by go_num, HIL.out.1, S9⟩
        case measure => have := HIL.out; simp [intOf] <;> omega
    · have hlt : decide (i < L) = false := by simpa using hil
      clear hi hil
      go_wp2
      go_ret
      exact ⟨rfl, HS.out.main.below⟩


set_option maxRecDepth 100000 in
theorem storePlays_lifted (os : Os) (started : os.Started) (H : Type) (enc : TypeId × Value → H) :
    ReturnsInHanded {} Try.checked os 3 .any (Rows.storePlaysSpec.pre6 enc Try.prog Try.f3 Rows.storePlaysRow.domain false) (Rows.storePlaysSpec.post enc Try.prog Try.f3 false true false false) := by
  refine returnsInHanded_of_change_sized (C := Try.checked) ownNone started (by kernel_rfl) Try.func3
    (ChangeSpec.witness6 (enc := enc) (C := Try.checked) false ⟨#[], #[.slice none 0 0], []⟩ 8 (by kernel_rfl) (by kernel_rfl) (by kernel_rfl) (by kernel_rfl)) ?_
  intro W base args ds gs before hval hW _ hsz0 _
  have hW' := hW
  obtain ⟨p, q, hA0, hV, rfl, hfz, hnd⟩ := hW
  have hA : DataW.TrodAll enc Try.prog W 0 (fun _ => true) true Try.f3.params.toList args.toList ds p := hA0
  rw [Try.params3] at hA hval hsz0
  obtain ⟨v0, vs0, d0, ds0, p0, q0, hargs, rfl, rfl, h0, r0⟩ := trodAll_cons hA
  obtain ⟨rfl, rfl, rfl⟩ := trodAll_nil r0
  obtain rfl : args = #[v0] := by cases args; simp_all
  obtain ⟨rfl, rfl⟩ := trodVars_none hV
  have hsz := List.all_eq_true.1 hsz0
  obtain ⟨a0, len0, cap0, rfl⟩ := okWide_slice Try.underlying22 (hval 0 22 v0 rfl rfl)
  have k0 := h0
  have lt0 : ∀ x ∈ p0, x.block < W.heap.size := by obtain ⟨m, hm⟩ := k0; exact DataW.trod_lt m _ _ _ hm
  obtain ⟨z0, w0⟩ := calls19At_of_reads k0 (fun n hn => by simpa using hsz n (DataW.weights_mem_each (j := 0) rfl rfl n hn))
  clear hA0
  refine (storePlays_walk W _ z0 w0).mono fun e W' ⟨he, bel⟩ => ?_
  subst he
  exact ⟨_, rfl, _, _, _, [], _, [], hW', trodAll_mk1 (shut_bool Try.underlying4 _), (trodAll_cons_mk (Below.trod laidOut (by kernel_rfl) (of_decide_eq_true (by kernel_rfl)) k0 bel lt0) trodAll_mk0), rfl, bel.frame _, fun h => by cases h⟩

theorem storePlays_said : Rows.StorePlaysSaid :=
  OpenClaim.holds_of_wide 3 Try.f3 rfl rfl rfl rfl rfl rfl rfl ⟨rfl, rfl, rfl, rfl, rfl⟩ rfl rfl rfl rfl rfl (by kernel_rfl) Try.func3 (by kernel_rfl)
    (of_decide_eq_true (by kernel_rfl)) (by unfold Func.isWrapper; first | (rw [if_pos (by decide +kernel)]; kernel_rfl) | (rw [if_neg (by decide +kernel)]; exact ⟨rfl, rfl⟩))
    (fun os started H enc _ => storePlays_lifted os started H enc)
#print axioms storePlays_said

end Go.Proofs.Ytiaomdlfccpcmaa
