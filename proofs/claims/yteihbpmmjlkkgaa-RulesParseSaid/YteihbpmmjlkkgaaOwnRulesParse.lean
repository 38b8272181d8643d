/- For every slice of tokens: the law tapestrierlaw5.RulesParse returns true and leaves its argument as it was; no condition. -/
import Derived.Test.YteihbpmmjlkkgaaRsAlive
import Derived.Test.YteihbpmmjlkkgaaRsRefC
import Derived.Test.YteihbpmmjlkkgaaRsSame
import Derived.Test.YteihbpmmjlkkgaaRsArgs
namespace Go.Proofs.Yteihbpmmjlkkgaa
open Go Go.ChangeShapes Go.WideShapes Go.ChangeAt Go.RowKit

set_option maxRecDepth 100000 in
set_option maxHeartbeats 2000000 in
theorem rulesParse_walk (w : World) (v : Value) (ts : List Bt) (hv : BtsAt w.heap.size w v ts) :
    Calls Try.prog 3 #[v] w fun e w' => e = .returned (.bool true) ∧ Below w.heap.size w w' := by
  have h0 := alive5_any w
  obtain ⟨i0, hi, hz0, hz1, hz2⟩ := info_parts infoTk5
  obtain ⟨p, cap, rfl⟩ := hv.len
  go_enter Try.func3, Try.ntmps3
  go_wp2_with fail
  refine h0.mono ?_
  clear h0
  rintro e w1 ⟨rfl, b1⟩
  have hv1 := hv.next b1
  have hbig := big_any _ ts w1 hv1
  go_wp2_with fail
  refine hbig.mono ?_
  clear hbig
  rintro e w2 (⟨rfl, rfl⟩ | ⟨rfl, hlen, rfl⟩)
  · go_wp2
    go_ret
    exact ⟨rfl, b1⟩
  · have hsrc := hv1.src
    go_wp2_with (at_builtin; refine wpList_append_src _ rfl _ _ 22 rfl w2.heap.size 38 i0 (.agg #[.int .i64 0, .string ⟨#[]⟩, .int .i64 0, .bool false, .int .i64 0]) 5 48 Try.underlying22 hi hz0 hz1 hz2 rfl (by decide) _ 0 [] rfl (World.ownsRow_nil _ _ _ _) _ ts.length (btsCells ts) rfl (btsCells_length ts) hsrc (btsCells_one ts) (by unfold maxLen; omega) (by omega) (Nat.le_refl _) ?_; intro v2 w3 hown hgrow)
    have b2 : Below w2.heap.size w2 w3 := (Below.refl _ w2).grown hgrow (Nat.le_refl _) (fun r e => by cases e)
    rw [Nat.zero_add, List.nil_append] at hown
    have hv2 := BtsAt.of_owns hown rfl
    clear hown hgrow hsrc
    have hv3 := hv1.next b2
    have b03 := below_next b1 b2
    have h3 := parse_any v2 ts w3 hv2 (by omega)
    refine h3.mono ?_
    clear h3
    rintro e w4 ⟨v4, rfl, ⟨vs, hR⟩, b4⟩
    have b04 := below_next b03 b4
    have h4 := refRules_any _ ts w4 (hv3.next b4) (by omega)
    go_wp2_with fail
    refine h4.mono ?_
    clear h4
    rintro e w5 ⟨v5, rfl, ⟨vs', hR'⟩, b5⟩
    have b05 := below_next b04 b5
    have h5 := sameRaws_yes v4 v5 (rules ts) vs vs' _ _ w5 (hR.kept (grown_of_below' b5 none)) hR'
    have hv5 := (hv3.next b4).next b5
    have hv6 := (hv2.next b4).next b5
    clear hv hv1 hv2 hv3 hR hR'
    generalize rules ts = rs at *
    go_wp2_with fail
    refine h5.mono ?_
    clear h5
    rintro e w6 ⟨rfl, n, rfl⟩
    have h6 := sameBts_yes _ _ ts (w5.drewN n) (bts_heap hv6 rfl) (bts_heap hv5 rfl)
    go_wp2_with fail
    refine h6.mono ?_
    clear h6
    rintro e w7 ⟨rfl, m, rfl⟩
    go_wp2
    go_ret
    exact ⟨rfl, below_next b05 (below_drewN _ _)⟩


set_option maxRecDepth 100000 in
theorem rulesParse_lifted (os : Os) (started : os.Started) (H : Type) (enc : TypeId × Value → H) :
    ReturnsInHanded {} Try.checked os 3 .any (Rows.rulesParseSpec.pre6 enc Try.prog Try.f3 Rows.rulesParseRow.domain false) (Rows.rulesParseSpec.post enc Try.prog Try.f3 false true false false) := by
  refine returnsInHanded_of_change_sized (C := Try.checked) ownNone started (by kernel_rfl) Try.func3
    (ChangeSpec.witness6 (enc := enc) (C := Try.checked) false ⟨#[], #[.slice none 0 0], []⟩ 8 (by kernel_rfl) (by kernel_rfl) (by kernel_rfl) (by kernel_rfl)) ?_
  intro W base args ds gs before hval hW _ hsz0 _
  have hW' := hW
  obtain ⟨p, q, hA0, hV, rfl, hfz, hnd⟩ := hW
  have hA : DataW.TrodAll enc Try.prog W 0 (fun _ => true) true Try.f3.params.toList args.toList ds p := hA0
  rw [Try.params3] at hA hval hsz0
  obtain ⟨v0, vs0, d0, ds0, p0, q0, hargs, rfl, rfl, h0, r0⟩ := trodAll_cons hA
  obtain ⟨rfl, rfl, rfl⟩ := trodAll_nil r0
  obtain rfl : args = #[v0] := by cases args; simp_all
  obtain ⟨rfl, rfl⟩ := trodVars_none hV
  obtain ⟨a0, len0, cap0, rfl⟩ := okWide_slice Try.underlying22 (hval 0 22 v0 rfl rfl)
  have k0 := h0
  have lt0 : ∀ x ∈ p0, x.block < W.heap.size := by obtain ⟨m, hm⟩ := k0; exact DataW.trod_lt m _ _ _ hm
  obtain ⟨z0, w0⟩ := tokensAt_of_reads k0
  clear hA0
  refine (rulesParse_walk W _ z0 w0).mono fun e W' ⟨he, bel⟩ => ?_
  subst he
  exact ⟨_, rfl, _, _, _, [], _, [], hW', trodAll_mk1 (shut_bool Try.underlying4 _), (trodAll_cons_mk (Below.trod laidOut (by kernel_rfl) (of_decide_eq_true (by kernel_rfl)) k0 bel lt0) trodAll_mk0), rfl, bel.frame _, fun h => by cases h⟩

theorem rulesParse_said : Rows.RulesParseSaid :=
  OpenClaim.holds_of_wide 3 Try.f3 rfl rfl rfl rfl rfl rfl rfl ⟨rfl, rfl, rfl, rfl, rfl⟩ rfl rfl rfl rfl rfl (by kernel_rfl) Try.func3 (by kernel_rfl)
    (of_decide_eq_true (by kernel_rfl)) (by unfold Func.isWrapper; first | (rw [if_pos (by decide +kernel)]; kernel_rfl) | (rw [if_neg (by decide +kernel)]; exact ⟨rfl, rfl⟩))
    (fun os started H enc _ => rulesParse_lifted os started H enc)
#print axioms rulesParse_said


end Go.Proofs.Yteihbpmmjlkkgaa
