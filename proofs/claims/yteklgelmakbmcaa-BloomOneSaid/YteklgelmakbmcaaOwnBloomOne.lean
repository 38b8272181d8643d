/- For every hash: the law tapestrierlaw13.BloomOne returns true and leaves its argument as it was; no condition. -/
import Derived.Test.YteklgelmakbmcaaBlHas
import Derived.Test.YteklgelmakbmcaaBlArgs
namespace Go.Proofs.Yteklgelmakbmcaa
open Go Go.ChangeShapes Go.WideShapes Go.ChangeAt Go.RowKit Bl

set_option maxRecDepth 100000 in
set_option maxHeartbeats 1000000 in
theorem bloomOne_walk (w : World) (h : Int) (_h0 : (Lit.int .i64 h).wf = true) :
    Calls Try.prog 7 #[.int .i64 h] w fun e w' => e = .returned (.bool true) ∧ Below w.heap.size w w' := by
  have hal := alive_any w
  go_enter Try.func7, Try.ntmps7
  go_wp2_with fail
  go_at_call 9
  refine Calls.mono hal ?_
  clear hal _h0
  rintro e w1 ⟨rfl, b1⟩
  obtain ⟨W0, hW0⟩ : ∃ W0, w1.alloc (.cells Try.zeroCells41 41) = W0 := ⟨_, rfl⟩
  have S0 : Has w w1.heap.size (stV h 0) W0 := by rw [← hW0]; exact ⟨(FltAt.zero w1).ext (st_zero h), b1.size, b1.alloc b1.size _⟩
  have hp := S0.push h
  clear b1 S0
  go_wp2_with fail
  go_at_call 18
  refine Calls.mono hp ?_
  clear hp hW0
  rintro e w2 ⟨⟨u, rfl⟩, S2⟩
  have S2 := S2.ext (c' := stV h 1) (fun i => by rw [push_st]; rfl)
  have ha := and32 h
  have hx := loV_lt h
  have hr : ((loV h : Nat) : Int) % 1024 = ((firstV h : Nat) : Int) := by unfold firstV; omega
  have hr2 : ((loV h : Nat) : Int) / 1024 % 1024 = ((secondV h : Nat) : Int) := by unfold secondV; omega
  have HS : Hid (Has _ _ _ _) := S2
  clear S2
  go_wp2_with fail
  rw [hr, hr2]
  have S2 := HS.out
  clear ha hx hr hr2 HS
  have hf1 := first_lt h
  have hf2 := second_lt h
  obtain ⟨a, hA⟩ : ∃ a, firstV h = a := ⟨_, rfl⟩
  obtain ⟨c, hC⟩ : ∃ c, secondV h = c := ⟨_, rfl⟩
  have HA : Hid (_ = _) := hA
  have HC : Hid (_ = _) := hC
  rw [hA, hC]
  rw [hA] at hf1
  rw [hC] at hf2
  clear hA hC
  go_loopw [8, 9] (fun y x wr => ∃ k : Nat, y = .int .i64 (sumV (stV h 1) k : Nat) ∧ x = .int .i64 k ∧ k ≤ 1024 ∧ Has w w1.heap.size (stV h 1) wr) (fun _ x _ => 1024 - (intOf x).toNat)
  case atStart => exact ⟨0, rfl, rfl, Nat.zero_le _, S2⟩
  case round =>
    clear S2
    obtain ⟨k, rfl, rfl, hk, S⟩ := hrel
    have HS : Hid (Has _ _ _ _) := S
    clear S
    by_cases hkn : k < 1024
    · have hlt : decide (k < 1024) = true := by simpa using hkn
      have hlt' : decide ((k : Int) < 1024) = true := by simp; omega
      have hc := HS.out.count k hkn
      have hsum := sum_le (stV h 1) (fun i => by unfold stV; split <;> omega) k
      have hle : stV h 1 k ≤ 255 := by unfold stV; split <;> omega
      have hnx : sumV (stV h 1) (k + 1) = sumV (stV h 1) k + stV h 1 k := rfl
      have HN : Hid (_ = _) := hnx
      obtain ⟨s, hs⟩ : ∃ s, s = sumV (stV h 1) k := ⟨_, rfl⟩
      obtain ⟨t, ht⟩ : ∃ t, t = stV h 1 k := ⟨_, rfl⟩
      rw [← hs] at hsum ⊢
      rw [← ht] at hle hc
      have HST : Hid (_ ∧ _) := ⟨hs, ht⟩
      have hs4 : s ≤ 262144 := by omega
      clear hsum hnx hs ht
      go_wp2_with fail
      go_at_call 24
      refine Calls.mono hc ?_
      clear hc
      rintro e w3 ⟨rfl, rfl⟩
      go_wp2
      go_roundw
      case rel => exact ⟨k + 1, by rw [HN.out, ← HST.out.1, ← HST.out.2]; go_num, by go_num, by omega, HS.out⟩
      case measure => simp [intOf]; omega
    · have hlt : decide (k < 1024) = false := by simpa using hkn
      have hlt' : decide ((k : Int) < 1024) = false := by simp; omega
      obtain rfl : k = 1024 := by omega
      clear hk hkn
      have hsm := sum_st h
      rw [HA.out, HC.out] at hsm
      have hm := HS.out.may h
      rw [may_st] at hm
      have h1 := HS.out.count a hf1
      have h2 := HS.out.count c hf2
      rw [show stV h 1 a = 1 by rw [← HA.out]; exact st_first h 1] at h1
      rw [show stV h 1 c = 1 by rw [← HC.out]; exact st_second h 1] at h2
      have HM : Hid (∀ X, Has w w1.heap.size (stV h 1) X → Calls Try.prog 24 #[.pointer (some ⟨w1.heap.size, 0, none⟩), .int .i64 (a : Int)] X fun e w' => e = .returned (.int .i64 1) ∧ w' = X) := fun X hX => by
        have := hX.count a hf1
        rwa [show stV h 1 a = 1 by rw [← HA.out]; exact st_first h 1] at this
      have HM2 : Hid (∀ X, Has w w1.heap.size (stV h 1) X → Calls Try.prog 24 #[.pointer (some ⟨w1.heap.size, 0, none⟩), .int .i64 (c : Int)] X fun e w' => e = .returned (.int .i64 1) ∧ w' = X) := fun X hX => by
        have := hX.count c hf2
        rwa [show stV h 1 c = 1 by rw [← HC.out]; exact st_second h 1] at this
      have HP : Hid (∀ X, Has w w1.heap.size (stV h 1) X → Calls Try.prog 19 #[.pointer (some ⟨w1.heap.size, 0, none⟩), .slice (some ⟨X.heap.size, 0, none⟩) 1 1] (X.alloc (.cells #[.int .i64 h] 3)) fun e w' => (∃ u, e = .returned u) ∧ Has w w1.heap.size (stV h 0) w') := fun X hX =>
        Calls.mono (hX.pop h) (fun e w' hh => ⟨hh.1, hh.2.ext (fun i => by rw [pop_st]; rfl)⟩)
      have HZ : Hid (∀ X, Has w w1.heap.size (stV h 0) X → ∀ j : Nat, j < 1024 → Calls Try.prog 24 #[.pointer (some ⟨w1.heap.size, 0, none⟩), .int .i64 (j : Int)] X fun e w' => e = .returned (.int .i64 0) ∧ w' = X) := fun X hX j hj => by
        have := hX.count j hj
        rwa [st_zero] at this
      clear h1 h2
      rw [hsm]
      by_cases hac : a = c
      · have hq : ((a : Int) == (c : Int)) = true := by simp [hac]
        rw [if_pos hac]
        clear hac hsm hlt hlt' HS
        go_wp2_with fail
        go_at_call 22
        refine Calls.mono hm ?_
        clear hm
        rintro e w3 ⟨rfl, S3⟩
        have h1 := HM.out w3 S3
        go_wp2_with fail
        go_at_call 24
        refine Calls.mono h1 ?_
        clear h1
        rintro e w4 ⟨rfl, rfl⟩
        have h1 := HM2.out w4 S3
        go_wp2_with fail
        go_at_call 24
        refine Calls.mono h1 ?_
        clear h1
        rintro e w5 ⟨rfl, rfl⟩
        have h1 := HP.out w5 S3
        go_wp2_with fail
        go_at_call 19
        refine Calls.mono h1 ?_
        clear h1 S3
        rintro e w6 ⟨⟨u2, rfl⟩, S6⟩
        have h1 := HZ.out w6 S6 a hf1
        go_wp2_with fail
        go_at_call 24
        refine Calls.mono h1 ?_
        clear h1
        rintro e w7 ⟨rfl, rfl⟩
        have h1 := HZ.out w7 S6 c hf2
        go_wp2_with fail
        go_at_call 24
        refine Calls.mono h1 ?_
        clear h1
        rintro e w8 ⟨rfl, rfl⟩
        have h1 := S6.may h
        rw [may_st] at h1
        clear S6
        go_wp2_with fail
        go_at_call 22
        refine Calls.mono h1 ?_
        clear h1
        rintro e w9 ⟨rfl, S9⟩
        have HB : Hid (Below _ _ _) := S9.below
        clear S9
        go_wp2
        go_ret
        exact ⟨rfl, HB.out⟩
      · have hq : ((a : Int) == (c : Int)) = false := beq_eq_false_iff_ne.2 (by omega)
        rw [if_neg hac]
        clear hac hsm hlt hlt' HS
        go_wp2_with fail
        go_at_call 22
        refine Calls.mono hm ?_
        clear hm
        rintro e w3 ⟨rfl, S3⟩
        have h1 := HM.out w3 S3
        go_wp2_with fail
        go_at_call 24
        refine Calls.mono h1 ?_
        clear h1
        rintro e w4 ⟨rfl, rfl⟩
        have h1 := HM2.out w4 S3
        go_wp2_with fail
        go_at_call 24
        refine Calls.mono h1 ?_
        clear h1
        rintro e w5 ⟨rfl, rfl⟩
        have h1 := HP.out w5 S3
        go_wp2_with fail
        go_at_call 19
        refine Calls.mono h1 ?_
        clear h1 S3
        rintro e w6 ⟨⟨u2, rfl⟩, S6⟩
        have h1 := HZ.out w6 S6 a hf1
        go_wp2_with fail
        go_at_call 24
        refine Calls.mono h1 ?_
        clear h1
        rintro e w7 ⟨rfl, rfl⟩
        have h1 := HZ.out w7 S6 c hf2
        go_wp2_with fail
        go_at_call 24
        refine Calls.mono h1 ?_
        clear h1
        rintro e w8 ⟨rfl, rfl⟩
        have h1 := S6.may h
        rw [may_st] at h1
        clear S6
        go_wp2_with fail
        go_at_call 22
        refine Calls.mono h1 ?_
        clear h1
        rintro e w9 ⟨rfl, S9⟩
        have HB : Hid (Below _ _ _) := S9.below
        clear S9
        go_wp2
        go_ret
        exact ⟨rfl, HB.out⟩


set_option maxRecDepth 100000 in
theorem bloomOne_lifted (os : Os) (started : os.Started) (H : Type) (enc : TypeId × Value → H) :
    ReturnsInHanded {} Try.checked os 7 .any (Rows.bloomOneSpec.pre6 enc Try.prog Try.f7 Rows.bloomOneRow.domain false) (Rows.bloomOneSpec.post enc Try.prog Try.f7 false true false false) := by
  refine returnsInHanded_of_change_sized (C := Try.checked) ownNone started (by kernel_rfl) Try.func7
    (ChangeSpec.witness6 (enc := enc) (C := Try.checked) false ⟨#[], #[.int .i64 0], []⟩ 8 (by kernel_rfl) (by kernel_rfl) (by kernel_rfl) (by kernel_rfl)) ?_
  intro W base args ds gs before hval hW _ hsz0 _
  have hW' := hW
  obtain ⟨p, q, hA0, hV, rfl, hfz, hnd⟩ := hW
  have hA : DataW.TrodAll enc Try.prog W 0 (fun _ => true) true Try.f7.params.toList args.toList ds p := hA0
  rw [Try.params7] at hA hval hsz0
  obtain ⟨v0, vs0, d0, ds0, p0, q0, hargs, rfl, rfl, h0, r0⟩ := trodAll_cons hA
  obtain ⟨rfl, rfl, rfl⟩ := trodAll_nil r0
  obtain rfl : args = #[v0] := by cases args; simp_all
  obtain ⟨rfl, rfl⟩ := trodVars_none hV
  obtain ⟨a0, rfl, rfl, rfl, w0⟩ := open_int Try.underlying3 (hval 0 3 v0 rfl rfl) h0
  clear hA0
  refine (bloomOne_walk W a0 w0).mono fun e W' ⟨he, bel⟩ => ?_
  subst he
  exact ⟨_, rfl, _, _, _, [], _, [], hW', trodAll_mk1 (shut_bool Try.underlying4 _), (trodAll_cons_mk (shut_int Try.underlying3 w0) trodAll_mk0), rfl, bel.frame _, fun h => by cases h⟩

theorem bloomOne_said : Rows.BloomOneSaid :=
  OpenClaim.holds_of_wide 7 Try.f7 rfl rfl rfl rfl rfl rfl rfl ⟨rfl, rfl, rfl, rfl, rfl⟩ rfl rfl rfl rfl rfl (by kernel_rfl) Try.func7 (by kernel_rfl)
    (of_decide_eq_true (by kernel_rfl)) (by unfold Func.isWrapper; first | (rw [if_pos (by decide +kernel)]; kernel_rfl) | (rw [if_neg (by decide +kernel)]; exact ⟨rfl, rfl⟩))
    (fun os started H enc _ => bloomOne_lifted os started H enc)
#print axioms bloomOne_said

end Go.Proofs.Yteklgelmakbmcaa
