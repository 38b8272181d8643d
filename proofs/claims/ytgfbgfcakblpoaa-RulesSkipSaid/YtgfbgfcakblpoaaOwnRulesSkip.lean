/- For every slice of tokens and every integer: the law tapestrierlaw5.RulesSkip returns true and leaves its arguments as they were; no condition. -/
import Derived.Test.YtgfbgfcakblpoaaRsAlive
import Derived.Test.YtgfbgfcakblpoaaRsRefA
import Derived.Test.YtgfbgfcakblpoaaRsArgs
namespace Go.Proofs.Ytgfbgfcakblpoaa
open Go Go.ChangeShapes Go.WideShapes Go.ChangeAt Go.RowKit

set_option maxRecDepth 100000 in
set_option maxHeartbeats 2000000 in
theorem rulesSkip_walk (w : World) (v : Value) (ts : List Bt) (hv : BtsAt w.heap.size w v ts) (i : Int) (_hi : (Lit.int .i64 i).wf = true) :
    Calls Try.prog 5 #[v, .int .i64 i] w fun e w' => e = .returned (.bool true) ∧ Below w.heap.size w w' := by
  have h0 := alive5_any w
  obtain ⟨p, cap, rfl⟩ := hv.len
  go_enter Try.func5, Try.ntmps5
  go_wp2_with fail
  refine h0.mono ?_
  clear h0
  rintro e w1 ⟨rfl, b1⟩
  have hv1 := hv.next b1
  have hbig := big_any _ ts w1 hv1
  go_wp2_with fail
  refine hbig.mono ?_
  clear hbig
  rintro e w2 (⟨rfl, rfl⟩ | ⟨rfl, hlen, rfl⟩)
  · go_wp2
    go_ret
    exact ⟨rfl, b1⟩
  · by_cases hin : 0 ≤ i ∧ i < (ts.length : Int)
    · obtain ⟨k, rfl⟩ : ∃ k : Nat, i = (k : Int) := ⟨i.toNat, by omega⟩
      have hk : k < ts.length := by omega
      have h1 := skip_in _ ts k w2 hv1 hk (by omega)
      have hp := run_drop_pos (ks := kds ts) (i := k) (by rw [kds_length]; exact hk)
      have hq := run_drop_le (kds ts) k
      rw [kds_length] at hq
      go_wp2_with fail
      refine h1.mono ?_
      clear h1
      rintro e w3 ⟨rfl, b3⟩
      have h2 := refSkip_in _ ts k w3 (hv1.next b3) hk (by omega)
      generalize run [] ((kds ts).drop k) = m at *
      have hg1 : ¬ (k : Int) < 0 := by omega
      have hg2 : ¬ (ts.length : Int) ≤ (k : Int) := by omega
      have hg3 : (k : Int) < ((k + m : Nat) : Int) := by omega
      have hg4 : ((k + m : Nat) : Int) ≤ (ts.length : Int) := by omega
      generalize ((k + m : Nat) : Int) = K at *
      go_wp2_with fail
      refine h2.mono ?_
      clear h2
      rintro e w4 ⟨rfl, b4⟩
      go_wp2
      go_ret
      exact ⟨rfl, b1.trans ((b3.mono b1.size).trans (b4.mono (Nat.le_trans b1.size b3.size)))⟩
    · have ho : i < 0 ∨ (ts.length : Int) ≤ i := by omega
      have h1 := skip_out 16 (.inl rfl) _ ts i w2 hv1 ho
      have h2 := skip_out 17 (.inr rfl) _ ts i w2 hv1 ho
      by_cases hneg : i < 0
      · go_wp2_with fail
        refine h1.mono ?_
        rintro e w3 ⟨rfl, rfl⟩
        go_wp2_with fail
        refine h2.mono ?_
        rintro e w4 ⟨rfl, rfl⟩
        go_wp2
        go_ret
        exact ⟨rfl, b1⟩
      · have hge : (ts.length : Int) ≤ i := by omega
        go_wp2_with fail
        refine h1.mono ?_
        rintro e w3 ⟨rfl, rfl⟩
        go_wp2_with fail
        refine h2.mono ?_
        rintro e w4 ⟨rfl, rfl⟩
        go_wp2
        go_ret
        exact ⟨rfl, b1⟩


set_option maxRecDepth 100000 in
theorem rulesSkip_lifted (os : Os) (started : os.Started) (H : Type) (enc : TypeId × Value → H) :
    ReturnsInHanded {} Try.checked os 5 .any (Rows.rulesSkipSpec.pre6 enc Try.prog Try.f5 Rows.rulesSkipRow.domain false) (Rows.rulesSkipSpec.post enc Try.prog Try.f5 false true false false) := by
  refine returnsInHanded_of_change_sized (C := Try.checked) ownNone started (by kernel_rfl) Try.func5
    (ChangeSpec.witness6 (enc := enc) (C := Try.checked) false ⟨#[], #[.slice none 0 0, .int .i64 0], []⟩ 8 (by kernel_rfl) (by kernel_rfl) (by kernel_rfl) (by kernel_rfl)) ?_
  intro W base args ds gs before hval hW _ hsz0 _
  have hW' := hW
  obtain ⟨p, q, hA0, hV, rfl, hfz, hnd⟩ := hW
  have hA : DataW.TrodAll enc Try.prog W 0 (fun _ => true) true Try.f5.params.toList args.toList ds p := hA0
  rw [Try.params5] at hA hval hsz0
  obtain ⟨v0, vs0, d0, ds0, p0, q0, hargs, rfl, rfl, h0, r0⟩ := trodAll_cons hA
  obtain ⟨v1, vs1, d1, ds1, p1, q1, rfl, rfl, rfl, h1, r1⟩ := trodAll_cons r0
  obtain ⟨rfl, rfl, rfl⟩ := trodAll_nil r1
  obtain rfl : args = #[v0, v1] := by cases args; simp_all
  obtain ⟨rfl, rfl⟩ := trodVars_none hV
  obtain ⟨a0, len0, cap0, rfl⟩ := okWide_slice Try.underlying22 (hval 0 22 v0 rfl rfl)
  have k0 := h0
  have lt0 : ∀ x ∈ p0, x.block < W.heap.size := by obtain ⟨m, hm⟩ := k0; exact DataW.trod_lt m _ _ _ hm
  obtain ⟨z0, w0⟩ := tokensAt_of_reads k0
  obtain ⟨a1, rfl, rfl, rfl, w1⟩ := open_int Try.underlying3 (hval 1 3 v1 rfl rfl) h1
  clear hA0
  refine (rulesSkip_walk W _ z0 w0 a1 w1).mono fun e W' ⟨he, bel⟩ => ?_
  subst he
  exact ⟨_, rfl, _, _, _, [], _, [], hW', trodAll_mk1 (shut_bool Try.underlying4 _), (trodAll_cons_mk (Below.trod laidOut (by kernel_rfl) (of_decide_eq_true (by kernel_rfl)) k0 bel lt0) (trodAll_cons_mk (shut_int Try.underlying3 w1) trodAll_mk0)), rfl, bel.frame _, fun h => by cases h⟩

theorem rulesSkip_said : Rows.RulesSkipSaid :=
  OpenClaim.holds_of_wide 5 Try.f5 rfl rfl rfl rfl rfl rfl rfl ⟨rfl, rfl, rfl, rfl, rfl⟩ rfl rfl rfl rfl rfl (by kernel_rfl) Try.func5 (by kernel_rfl)
    (of_decide_eq_true (by kernel_rfl)) (by unfold Func.isWrapper; first | (rw [if_pos (by decide +kernel)]; kernel_rfl) | (rw [if_neg (by decide +kernel)]; exact ⟨rfl, rfl⟩))
    (fun os started H enc _ => rulesSkip_lifted os started H enc)
#print axioms rulesSkip_said


end Go.Proofs.Ytgfbgfcakblpoaa
