/- For every hash and every two numbers: the law tapestrierlaw13.BloomFull returns true and leaves its arguments as they were; no condition. -/
import Derived.Test.YteklgelmakbmcaaBlMay
import Derived.Test.YteklgelmakbmcaaBlFact
import Derived.Test.YteklgelmakbmcaaBlArgs
namespace Go.Proofs.Yteklgelmakbmcaa
open Go Go.ChangeShapes Go.WideShapes Go.ChangeAt Go.RowKit Bl

/-- A filter of the call's own: its block b, all below n as it was. -/
structure Has (w : World) (b : Nat) (c : Nat → Nat) (X : World) : Prop where
  flt : FltAt X b c
  low : w.heap.size ≤ b
  below : Below w.heap.size w X
theorem Has.push {w : World} {b : Nat} {c : Nat → Nat} {X : World} (hh : Has w b c X) (h : Int) :
    Calls Try.prog 18 #[.pointer (some ⟨b, 0, none⟩), .slice (some ⟨X.heap.size, 0, none⟩) 1 1] (X.alloc (.cells #[.int .i64 h] 3)) fun e w' => (∃ u, e = .returned u) ∧ Has w b (pushV c [h]) w' := by
  have hlt := hh.flt.lt
  refine Calls.mono (push_any b c _ _ _ (hh.flt.kept (Below.heap_alloc _ _ _ hlt)) (one_new X h) (fun r hr _ => by simp [Value.ownBlock] at hr; omega)) ?_
  rintro e w' ⟨hu, hf, fr⟩
  have hs := hh.below.size
  have hl := hh.low
  exact ⟨hu, hf, hh.low, (hh.below.alloc (by omega) _).trans (fr.below (by simp; omega) (fun r (e : r = b) => by omega))⟩
theorem Has.pop {w : World} {b : Nat} {c : Nat → Nat} {X : World} (hh : Has w b c X) (h : Int) :
    Calls Try.prog 19 #[.pointer (some ⟨b, 0, none⟩), .slice (some ⟨X.heap.size, 0, none⟩) 1 1] (X.alloc (.cells #[.int .i64 h] 3)) fun e w' => (∃ u, e = .returned u) ∧ Has w b (popV c [h]) w' := by
  have hlt := hh.flt.lt
  refine Calls.mono (pop_any b c _ _ _ (hh.flt.kept (Below.heap_alloc _ _ _ hlt)) (one_new X h) (fun r hr _ => by simp [Value.ownBlock] at hr; omega)) ?_
  rintro e w' ⟨hu, hf, fr⟩
  have hs := hh.below.size
  have hl := hh.low
  exact ⟨hu, hf, hh.low, (hh.below.alloc (by omega) _).trans (fr.below (by simp; omega) (fun r (e : r = b) => by omega))⟩
theorem Has.ext {w : World} {b : Nat} {c c' : Nat → Nat} {X : World} (hh : Has w b c X) (e : ∀ i, c' i = c i) : Has w b c' X := ⟨hh.flt.ext e, hh.low, hh.below⟩

set_option maxRecDepth 100000 in
set_option maxHeartbeats 1000000 in
theorem bloomFull_walk (w : World) (h : Int) (_h0 : (Lit.int .i64 h).wf = true) (up : Int) (_h1 : (Lit.int .i64 up).wf = true) (down : Int) (_h2 : (Lit.int .i64 down).wf = true) :
    Calls Try.prog 8 #[.int .i64 h, .int .i64 up, .int .i64 down] w fun e w' => e = .returned (.bool true) ∧ Below w.heap.size w w' := by
  have hal := alive_any w
  go_enter Try.func8, Try.ntmps8
  go_wp2_with fail
  go_at_call 9
  refine Calls.mono hal ?_
  clear hal _h0 _h1 _h2
  rintro e w1 ⟨rfl, b1⟩
  by_cases g1 : up < 0
  · have d1 : decide (up < 0) = true := by simpa using g1
    clear g1
    go_wp2
    go_ret
    exact ⟨rfl, b1⟩
  have d1 : decide (up < 0) = false := by simpa using g1
  by_cases g2 : 400 < up
  · have d2 : decide ((400 : Int) < up) = true := by simpa using g2
    clear g1 g2
    go_wp2
    go_ret
    exact ⟨rfl, b1⟩
  have d2 : decide ((400 : Int) < up) = false := by simpa using g2
  by_cases g3 : down < 0
  · have d3 : decide (down < 0) = true := by simpa using g3
    clear g1 g2 g3
    go_wp2
    go_ret
    exact ⟨rfl, b1⟩
  have d3 : decide (down < 0) = false := by simpa using g3
  by_cases g4 : 400 < down
  · have d4 : decide ((400 : Int) < down) = true := by simpa using g4
    clear g1 g2 g3 g4
    go_wp2
    go_ret
    exact ⟨rfl, b1⟩
  have d4 : decide ((400 : Int) < down) = false := by simpa using g4
  obtain ⟨nu, rfl⟩ : ∃ n : Nat, up = n := ⟨up.toNat, by omega⟩
  obtain ⟨nd, rfl⟩ : ∃ n : Nat, down = n := ⟨down.toNat, by omega⟩
  have k1 : nu ≤ 400 := by omega
  have k2 : nd ≤ 400 := by omega
  clear g1 g2 g3 g4
  obtain ⟨W0, hW0⟩ : ∃ W0, w1.alloc (.cells Try.zeroCells41 41) = W0 := ⟨_, rfl⟩
  have S0 : Has w w1.heap.size (stV h 0) W0 := by rw [← hW0]; exact ⟨(FltAt.zero w1).ext (st_zero h), b1.size, b1.alloc b1.size _⟩
  have HS0 : Hid (Has _ _ _ _) := S0
  clear b1 S0
  go_wp2_with fail
  have S0 := HS0.out
  clear hW0 d1 d2 d3 d4 HS0
  go_loopw [9] (fun x wr => ∃ k : Nat, x = .int .i64 k ∧ k ≤ nu ∧ Has w w1.heap.size (stV h (min k 255)) wr) (fun x _ => nu - (intOf x).toNat)
  case atStart => exact ⟨0, rfl, Nat.zero_le _, S0⟩
  case round =>
    clear S0
    obtain ⟨k, rfl, hk, S⟩ := hrel
    have HS : Hid (Has _ _ _ _) := S
    clear S
    by_cases hkn : k < nu
    · have hlt : decide (k < nu) = true := by simpa using hkn
      have hp := HS.out.push h
      have hk4 : k < 400 := by omega
      go_wp2_with fail
      go_at_call 18
      refine Calls.mono hp ?_
      clear hp
      rintro e w2 ⟨⟨u, rfl⟩, S2⟩
      go_wp2
      go_roundw
      case rel => exact ⟨k + 1, by go_num, by omega, S2.ext (fun i => by rw [push_st]; congr 1; split <;> omega)⟩
      case measure => simp [intOf]; omega
    · have hlt : decide (k < nu) = false := by simpa using hkn
      obtain rfl : k = nu := by omega
      have S1 := HS.out
      clear hk hkn HS
      go_wp2_with fail
      go_loopw [10] (fun x wr => ∃ j : Nat, x = .int .i64 j ∧ j ≤ nd ∧ Has w w1.heap.size (stV h (leftV (min k 255) j)) wr) (fun x _ => nd - (intOf x).toNat)
      case atStart => exact ⟨0, rfl, Nat.zero_le _, S1.ext (fun i => by unfold leftV; congr 1; split <;> omega)⟩
      case round =>
        clear S1
        obtain ⟨j, rfl, hj, S⟩ := hrel
        have HS : Hid (Has _ _ _ _) := S
        clear S
        by_cases hjn : j < nd
        · have hlt : decide (j < nd) = true := by simpa using hjn
          have hp := HS.out.pop h
          have hk4 : j < 400 := by omega
          go_wp2_with fail
          go_at_call 19
          refine Calls.mono hp ?_
          clear hp
          rintro e w2 ⟨⟨u, rfl⟩, S2⟩
          go_wp2
          go_roundw
          case rel => exact ⟨j + 1, by go_num, by omega, S2.ext (fun i => by rw [pop_st, left_next (by omega)])⟩
          case measure => simp [intOf]; omega
        · have hlt : decide (j < nd) = false := by simpa using hjn
          obtain rfl : j = nd := by omega
          have S1 := HS.out
          have hc := count_any w1.heap.size _ (firstV h : Nat) wr S1.flt
          have hm := may_any w1.heap.size _ h wr S1.flt
          have hf := first_lt h
          rw [if_pos ⟨by omega, by omega⟩, Int.toNat_natCast, st_first] at hc
          rw [may_st] at hm
          have ha := and32 h
          have hr : ((loV h : Nat) : Int) % 1024 = ((firstV h : Nat) : Int) := by unfold firstV; omega
          have HB : Hid (Below _ _ _) := S1.below
          obtain ⟨m, hm0⟩ : ∃ m, m = leftV (min k 255) j := ⟨_, rfl⟩
          rw [← hm0] at hc hm
          have hM : m = if 255 ≤ k then 255 else k - j := by
            rw [hm0]
            unfold leftV
            by_cases hk : 255 ≤ k
            · rw [if_pos (by omega), if_pos hk]
            · rw [if_neg (by omega), if_neg hk]; omega
          clear hj hjn HS S1 hm0 hf
          by_cases hk : 255 ≤ k
          · rw [if_pos hk] at hM
            subst hM
            have e1 : decide ((255 : Int) ≤ (k : Int)) = true := by simp; omega
            have e1' : decide (255 ≤ k) = true := by simp; omega
            have HE : Hid (_ = _) := (rfl : (0 : Nat) = 0)
            clear hk
            by_cases hn : k < j
            · have e2 : decide ((k : Int) - (j : Int) < 0) = true := by simp; omega
              clear hn
              go_wp2_with fail
              go_at_call 24
              refine Calls.mono hc ?_
              clear hc
              rintro e w3 ⟨rfl, rfl⟩
              go_wp2_with fail
              go_at_call 22
              refine Calls.mono hm ?_
              clear hm
              rintro e w4 ⟨rfl, b4⟩
              go_wp2
              go_ret
              exact ⟨by simp, HB.out.trans (b4.mono HB.out.size)⟩
            · have e2 : decide ((k : Int) - (j : Int) < 0) = false := by simp; omega
              clear hn
              go_wp2_with fail
              go_at_call 24
              refine Calls.mono hc ?_
              clear hc
              rintro e w3 ⟨rfl, rfl⟩
              go_wp2_with fail
              go_at_call 22
              refine Calls.mono hm ?_
              clear hm
              rintro e w4 ⟨rfl, b4⟩
              go_wp2
              go_ret
              exact ⟨by simp, HB.out.trans (b4.mono HB.out.size)⟩
          · rw [if_neg hk] at hM
            have e1 : decide ((255 : Int) ≤ (k : Int)) = false := by simp; omega
            have e1' : decide (255 ≤ k) = false := by simp; omega
            clear hk
            by_cases hn : k < j
            · have e2 : decide ((k : Int) - (j : Int) < 0) = true := by simp; omega
              obtain rfl : m = 0 := by omega
              clear hM
              clear hn
              go_wp2_with fail
              go_at_call 24
              refine Calls.mono hc ?_
              clear hc
              rintro e w3 ⟨rfl, rfl⟩
              go_wp2_with fail
              go_at_call 22
              refine Calls.mono hm ?_
              clear hm
              rintro e w4 ⟨rfl, b4⟩
              go_wp2
              go_ret
              exact ⟨by simp, HB.out.trans (b4.mono HB.out.size)⟩
            · have e2 : decide ((k : Int) - (j : Int) < 0) = false := by simp; omega
              have e3 : (k : Int) - (j : Int) = (m : Int) := by omega
              rw [e3] at e2
              clear hM
              clear hn
              go_wp2_with fail
              go_at_call 24
              refine Calls.mono hc ?_
              clear hc
              rintro e w3 ⟨rfl, rfl⟩
              go_wp2_with fail
              go_at_call 22
              refine Calls.mono hm ?_
              clear hm
              rintro e w4 ⟨rfl, b4⟩
              go_wp2
              go_ret
              exact ⟨by simp, HB.out.trans (b4.mono HB.out.size)⟩


set_option maxRecDepth 100000 in
theorem bloomFull_lifted (os : Os) (started : os.Started) (H : Type) (enc : TypeId × Value → H) :
    ReturnsInHanded {} Try.checked os 8 .any (Rows.bloomFullSpec.pre6 enc Try.prog Try.f8 Rows.bloomFullRow.domain false) (Rows.bloomFullSpec.post enc Try.prog Try.f8 false true false false) := by
  refine returnsInHanded_of_change_sized (C := Try.checked) ownNone started (by kernel_rfl) Try.func8
    (ChangeSpec.witness6 (enc := enc) (C := Try.checked) false ⟨#[], #[.int .i64 0, .int .i64 0, .int .i64 0], []⟩ 8 (by kernel_rfl) (by kernel_rfl) (by kernel_rfl) (by kernel_rfl)) ?_
  intro W base args ds gs before hval hW _ hsz0 _
  have hW' := hW
  obtain ⟨p, q, hA0, hV, rfl, hfz, hnd⟩ := hW
  have hA : DataW.TrodAll enc Try.prog W 0 (fun _ => true) true Try.f8.params.toList args.toList ds p := hA0
  rw [Try.params8] at hA hval hsz0
  obtain ⟨v0, vs0, d0, ds0, p0, q0, hargs, rfl, rfl, h0, r0⟩ := trodAll_cons hA
  obtain ⟨v1, vs1, d1, ds1, p1, q1, rfl, rfl, rfl, h1, r1⟩ := trodAll_cons r0
  obtain ⟨v2, vs2, d2, ds2, p2, q2, rfl, rfl, rfl, h2, r2⟩ := trodAll_cons r1
  obtain ⟨rfl, rfl, rfl⟩ := trodAll_nil r2
  obtain rfl : args = #[v0, v1, v2] := by cases args; simp_all
  obtain ⟨rfl, rfl⟩ := trodVars_none hV
  obtain ⟨a0, rfl, rfl, rfl, w0⟩ := open_int Try.underlying3 (hval 0 3 v0 rfl rfl) h0
  obtain ⟨a1, rfl, rfl, rfl, w1⟩ := open_int Try.underlying3 (hval 1 3 v1 rfl rfl) h1
  obtain ⟨a2, rfl, rfl, rfl, w2⟩ := open_int Try.underlying3 (hval 2 3 v2 rfl rfl) h2
  clear hA0
  refine (bloomFull_walk W a0 w0 a1 w1 a2 w2).mono fun e W' ⟨he, bel⟩ => ?_
  subst he
  exact ⟨_, rfl, _, _, _, [], _, [], hW', trodAll_mk1 (shut_bool Try.underlying4 _), (trodAll_cons_mk (shut_int Try.underlying3 w0) (trodAll_cons_mk (shut_int Try.underlying3 w1) (trodAll_cons_mk (shut_int Try.underlying3 w2) trodAll_mk0))), rfl, bel.frame _, fun h => by cases h⟩

theorem bloomFull_said : Rows.BloomFullSaid :=
  OpenClaim.holds_of_wide 8 Try.f8 rfl rfl rfl rfl rfl rfl rfl ⟨rfl, rfl, rfl, rfl, rfl⟩ rfl rfl rfl rfl rfl (by kernel_rfl) Try.func8 (by kernel_rfl)
    (of_decide_eq_true (by kernel_rfl)) (by unfold Func.isWrapper; first | (rw [if_pos (by decide +kernel)]; kernel_rfl) | (rw [if_neg (by decide +kernel)]; exact ⟨rfl, rfl⟩))
    (fun os started H enc _ => bloomFull_lifted os started H enc)
#print axioms bloomFull_said

end Go.Proofs.Yteklgelmakbmcaa
