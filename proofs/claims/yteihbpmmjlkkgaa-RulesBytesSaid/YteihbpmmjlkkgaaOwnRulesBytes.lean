/- For every slice of bytes: the law tapestrierlaw5.RulesBytes returns true and leaves its argument as it was; no condition. -/
import Derived.Test.YteihbpmmjlkkgaaRsAlive
import Derived.Test.YteihbpmmjlkkgaaRsRefC
import Derived.Test.YteihbpmmjlkkgaaRsSame
import Derived.Test.YteihbpmmjlkkgaaRsArgs
namespace Go.Proofs.Yteihbpmmjlkkgaa
open Go Go.ChangeShapes Go.WideShapes Go.ChangeAt Go.RowKit

set_option maxRecDepth 100000 in
set_option maxHeartbeats 2000000 in
theorem rulesBytes_walk (w : World) (v : Value) (bs : List UInt8) (hv : BytesAt w.heap.size w v bs) :
    Calls Try.prog 4 #[v] w fun e w' => e = .returned (.bool true) ∧ Below w.heap.size w w' := by
  have h0 := alive5_any w
  obtain ⟨p, cap, rfl, _⟩ := hv.len
  go_enter Try.func4, Try.ntmps4
  go_wp2_with fail
  refine h0.mono ?_
  clear h0
  rintro e w1 ⟨rfl, b1⟩
  by_cases hn : 2000 < bs.length
  · have hni : (2000 : Int) < (bs.length : Int) := by omega
    clear hv
    go_wp2
    go_ret
    exact ⟨rfl, b1⟩
  · have hni : ¬ (2000 : Int) < (bs.length : Int) := by omega
    have hof := of_any _ bs w1 ((hv.below b1).mono b1.size) (by omega)
    clear hv
    go_wp2_with fail
    refine hof.mono ?_
    clear hof
    rintro e w2 ⟨v2, rfl, hr2, b2⟩
    have hlen := tksB_len bs
    have hv2 := BtsAt.of_owns hr2 rfl
    clear hr2
    generalize tksB bs = ts at *
    have b02 := below_next b1 b2
    have h3 := parse_any v2 ts w2 hv2 (by omega)
    go_wp2_with fail
    refine h3.mono ?_
    clear h3
    rintro e w3 ⟨v3, rfl, ⟨vs, hR⟩, b3⟩
    have b03 := below_next b02 b3
    have h4 := refRules_any v2 ts w3 (hv2.next b3) (by omega)
    go_wp2_with fail
    refine h4.mono ?_
    clear h4
    rintro e w4 ⟨v4, rfl, ⟨vs', hR'⟩, b4⟩
    have b04 := below_next b03 b4
    have h5 := sameRaws_yes v3 v4 (rules ts) vs vs' _ _ w4 (hR.kept (grown_of_below' b4 none)) hR'
    go_wp2_with fail
    refine h5.mono ?_
    clear h5
    rintro e w5 ⟨rfl, n, rfl⟩
    go_wp2
    go_ret
    exact ⟨rfl, below_next b04 (below_drewN _ _)⟩


set_option maxRecDepth 100000 in
theorem rulesBytes_lifted (os : Os) (started : os.Started) (H : Type) (enc : TypeId × Value → H) :
    ReturnsInHanded {} Try.checked os 4 .any (Rows.rulesBytesSpec.pre6 enc Try.prog Try.f4 Rows.rulesBytesRow.domain false) (Rows.rulesBytesSpec.post enc Try.prog Try.f4 false true false false) := by
  refine returnsInHanded_of_change_sized (C := Try.checked) ownNone started (by kernel_rfl) Try.func4
    (ChangeSpec.witness6 (enc := enc) (C := Try.checked) false ⟨#[], #[.slice none 0 0], []⟩ 8 (by kernel_rfl) (by kernel_rfl) (by kernel_rfl) (by kernel_rfl)) ?_
  intro W base args ds gs before hval hW _ hsz0 _
  have hW' := hW
  obtain ⟨p, q, hA0, hV, rfl, hfz, hnd⟩ := hW
  have hA : DataW.TrodAll enc Try.prog W 0 (fun _ => true) true Try.f4.params.toList args.toList ds p := hA0
  rw [Try.params4] at hA hval hsz0
  obtain ⟨v0, vs0, d0, ds0, p0, q0, hargs, rfl, rfl, h0, r0⟩ := trodAll_cons hA
  obtain ⟨rfl, rfl, rfl⟩ := trodAll_nil r0
  obtain rfl : args = #[v0] := by cases args; simp_all
  obtain ⟨rfl, rfl⟩ := trodVars_none hV
  obtain ⟨a0, len0, cap0, rfl⟩ := okWide_slice Try.underlying29 (hval 0 29 v0 rfl rfl)
  have k0 := h0
  have lt0 : ∀ x ∈ p0, x.block < W.heap.size := by obtain ⟨m, hm⟩ := k0; exact DataW.trod_lt m _ _ _ hm
  obtain ⟨z0, w0⟩ := bytesAt_of_reads k0
  clear hA0
  refine (rulesBytes_walk W _ z0 w0).mono fun e W' ⟨he, bel⟩ => ?_
  subst he
  exact ⟨_, rfl, _, _, _, [], _, [], hW', trodAll_mk1 (shut_bool Try.underlying4 _), (trodAll_cons_mk (Below.trod laidOut (by kernel_rfl) (of_decide_eq_true (by kernel_rfl)) k0 bel lt0) trodAll_mk0), rfl, bel.frame _, fun h => by cases h⟩

theorem rulesBytes_said : Rows.RulesBytesSaid :=
  OpenClaim.holds_of_wide 4 Try.f4 rfl rfl rfl rfl rfl rfl rfl ⟨rfl, rfl, rfl, rfl, rfl⟩ rfl rfl rfl rfl rfl (by kernel_rfl) Try.func4 (by kernel_rfl)
    (of_decide_eq_true (by kernel_rfl)) (by unfold Func.isWrapper; first | (rw [if_pos (by decide +kernel)]; kernel_rfl) | (rw [if_neg (by decide +kernel)]; exact ⟨rfl, rfl⟩))
    (fun os started H enc _ => rulesBytes_lifted os started H enc)
#print axioms rulesBytes_said


end Go.Proofs.Yteihbpmmjlkkgaa
