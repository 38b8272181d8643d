/- For all integers: the law tapestrierlaw3.NumRises returns true and leaves its arguments as they were; conditions: the library's tables hold what its text lays (the card ties them to the program's text). -/
import Derived.Test.YtbeokoajabhpoabDoorNmAlive
import Derived.Test.YtbeokoajabhpoabDoorNmLaid
namespace Go.Proofs.YtbeokoajabhpoabDoor
open Go Go.ChangeShapes Go.WideShapes Go.ChangeAt Go.RowKit

theorem add_rises {a b : Int} (c : Int) (h : a ≤ b) : capI (capI a + capI c) ≤ capI (capI b + capI c) :=
  capI_rises (by have := capI_rises h; omega)
theorem times_rises {a b c : Int} (h : a ≤ b) (hc : 0 ≤ c) : capI ((capI a * capI c).tdiv 1000) ≤ capI ((capI b * capI c).tdiv 1000) := by
  have h0 : 0 ≤ capI c := by have := capI_rises hc; rw [show capI 0 = 0 from rfl] at this; exact this
  exact capI_rises (Int.tdiv_le_tdiv (by decide) (Int.mul_le_mul_of_nonneg_right (capI_rises h) h0))
theorem times_falls {a b c : Int} (h : a ≤ b) (hc : c < 0) : capI ((capI b * capI c).tdiv 1000) ≤ capI ((capI a * capI c).tdiv 1000) := by
  have h0 : capI c ≤ 0 := by have := capI_rises (show c ≤ 0 by omega); rw [show capI 0 = 0 from rfl] at this; exact this
  exact capI_rises (Int.tdiv_le_tdiv (by decide) (Int.mul_le_mul_of_nonpos_right (capI_rises h) h0))

set_option maxRecDepth 100000 in
set_option maxHeartbeats 1000000 in
theorem numRises_walk (w : World) (hT : Tabs w.heap.size w) (a : Int) (_wa : (Lit.int .i64 a).wf = true) (b : Int) (_wb : (Lit.int .i64 b).wf = true) (c : Int) (_wc : (Lit.int .i64 c).wf = true) :
    Calls Tryd.prog 3 #[.int .i64 a, .int .i64 b, .int .i64 c] w fun e w' => e = .returned (.bool true) ∧ Below w.heap.size w w' := by
  have h0 := alive_any w hT
  by_cases hab : b < a
  · go_enter Tryd.func3, Tryd.ntmps3
    go_wp2_with fail
    refine h0.mono ?_
    rintro e w1 ⟨rfl, b1⟩
    clear h0
    go_wp2
    go_ret
    exact ⟨rfl, b1⟩
  · have hle : a ≤ b := by omega
    have h1 := add_any a c
    have h2 := add_any b c
    have h3 := times_any a c
    have h4 := times_any b c
    have r1 := add_rises c hle
    by_cases hc : c < 0
    · have r2 := times_falls hle hc
      generalize capI (capI a + capI c) = x at *
      generalize capI (capI b + capI c) = y at *
      generalize capI ((capI a * capI c).tdiv 1000) = u at *
      generalize capI ((capI b * capI c).tdiv 1000) = v at *
      go_enter Tryd.func3, Tryd.ntmps3
      go_wp2_with fail
      refine h0.mono ?_
      rintro e w1 ⟨rfl, b1⟩
      clear h0
      go_wp2_with fail
      refine (h1 _).mono ?_
      rintro e w' ⟨rfl, rfl⟩
      go_wp2_with fail
      refine (h2 _).mono ?_
      rintro e w' ⟨rfl, rfl⟩
      go_wp2_with fail
      refine (h3 _).mono ?_
      rintro e w' ⟨rfl, rfl⟩
      go_wp2_with fail
      refine (h4 _).mono ?_
      rintro e w' ⟨rfl, rfl⟩
      go_wp2
      go_ret
      exact ⟨rfl, b1⟩
    · have r2 := times_rises hle (show 0 ≤ c by omega)
      generalize capI (capI a + capI c) = x at *
      generalize capI (capI b + capI c) = y at *
      generalize capI ((capI a * capI c).tdiv 1000) = u at *
      generalize capI ((capI b * capI c).tdiv 1000) = v at *
      go_enter Tryd.func3, Tryd.ntmps3
      go_wp2_with fail
      refine h0.mono ?_
      rintro e w1 ⟨rfl, b1⟩
      clear h0
      go_wp2_with fail
      refine (h1 _).mono ?_
      rintro e w' ⟨rfl, rfl⟩
      go_wp2_with fail
      refine (h2 _).mono ?_
      rintro e w' ⟨rfl, rfl⟩
      go_wp2_with fail
      refine (h3 _).mono ?_
      rintro e w' ⟨rfl, rfl⟩
      go_wp2_with fail
      refine (h4 _).mono ?_
      rintro e w' ⟨rfl, rfl⟩
      go_wp2
      go_ret
      exact ⟨rfl, b1⟩

theorem numRises_met (os : Os) : laidMet Tryd.prog Rows.numRisesRow.laid ((laidIn (World.holding Tryd.prog os ⟨#[], #[], []⟩)).forCall (fun _ _ => 0) ⟨#[], #[.int .i64 0, .int .i64 0, .int .i64 0], []⟩).memory :=
  laidMet_of_run' 8 (by kernel_rfl) (by kernel_rfl)
theorem numRises_reads (os : Os) {H : Type} (enc : TypeId × Value → H) : ∃ places, DataW.whole enc Tryd.prog ((laidIn (World.holding Tryd.prog os ⟨#[], #[], []⟩)).forCall (fun _ _ => 0) ⟨#[], #[.int .i64 0, .int .i64 0, .int .i64 0], []⟩).memory Tryd.f3.params.toList Rows.numRisesSpec.vars false (#[.int .i64 0, .int .i64 0, .int .i64 0] : Array Value).toList 8 = some ([.lit (.int .i64 0), .lit (.int .i64 0), .lit (.int .i64 0)], [], places) :=
  ⟨[], by kernel_rfl⟩

set_option maxRecDepth 100000 in
theorem numRises_lifted (os : Os) (started : os.Started) (H : Type) (enc : TypeId × Value → H) (F : Stop.Interp) :
    ReturnsInHanded {} Tryd.checked os 3 .any ((OpenSpec.ofChange Rows.numRisesSpec).preRow enc Tryd.prog Tryd.f3 Rows.numRisesRow.domain false Rows.numRisesRow.laid) (((OpenSpec.ofChange Rows.numRisesSpec).at F).post enc Tryd.prog Tryd.f3 false true false false) := by
  obtain ⟨places, hx⟩ := numRises_reads os enc
  refine returnsInHanded_of_row (C := Tryd.checked) (s := OpenSpec.ofChange Rows.numRisesSpec) ownNone started (by kernel_rfl) Tryd.func3
    (witness_row_at (enc := enc) (C := Tryd.checked) false (laidIn (World.holding Tryd.prog os ⟨#[], #[], []⟩)) #[.int .i64 0, .int .i64 0, .int .i64 0] rfl (by kernel_rfl) (by kernel_rfl) (by kernel_rfl)
      (OpenSpec.preRow_of_cond 8 hx (by kernel_rfl) (fun k hk => by cases hk) (by kernel_rfl) (numRises_met os))) ?_
  intro W base args ds gs before hval hW _ _ _ hL hS _
  have hW' := hW
  obtain ⟨p, q, hA0, hV, rfl, hfz, hnd⟩ := hW
  have hA : DataW.TrodAll enc Tryd.prog W 0 (fun _ => true) true Tryd.f3.params.toList args.toList ds p := hA0
  rw [Tryd.params3] at hA hval
  obtain ⟨v0, vs0, d0, ds0, p0, q0, hargs, rfl, rfl, h0, r0⟩ := trodAll_cons hA
  obtain ⟨v1, vs1, d1, ds1, p1, q1, rfl, rfl, rfl, h1, r1⟩ := trodAll_cons r0
  obtain ⟨v2, vs2, d2, ds2, p2, q2, rfl, rfl, rfl, h2, r2⟩ := trodAll_cons r1
  obtain ⟨rfl, rfl, rfl⟩ := trodAll_nil r2
  obtain rfl : args = #[v0, v1, v2] := by cases args; simp_all
  obtain ⟨rfl, rfl⟩ := trodVars_none hV
  obtain ⟨a0, rfl, rfl, rfl, w0⟩ := open_int Tryd.underlying3 (hval 0 3 v0 rfl rfl) h0
  obtain ⟨a1, rfl, rfl, rfl, w1⟩ := open_int Tryd.underlying3 (hval 1 3 v1 rfl rfl) h1
  obtain ⟨a2, rfl, rfl, rfl, w2⟩ := open_int Tryd.underlying3 (hval 2 3 v2 rfl rfl) h2
  clear hA0
  refine (numRises_walk W (tabs_of_laid hL hS) a0 w0 a1 w1 a2 w2).mono fun e W' ⟨he, bel⟩ => ?_
  subst he
  exact ⟨_, rfl, _, _, _, [], _, [], hW', trodAll_mk1 (shut_bool Tryd.underlying4 _), (trodAll_cons_mk (shut_int Tryd.underlying3 w0) (trodAll_cons_mk (shut_int Tryd.underlying3 w1) (trodAll_cons_mk (shut_int Tryd.underlying3 w2) trodAll_mk0))), rfl, bel.frame _, fun h => by cases h⟩

theorem numRises_said : Rows.NumRisesSaid :=
  OpenClaim.holds_of_cond 3 Tryd.f3 rfl rfl rfl rfl rfl rfl rfl ⟨rfl, rfl, rfl, rfl, rfl⟩ rfl rfl rfl rfl rfl (by kernel_rfl) Tryd.func3 (by kernel_rfl)
    (of_decide_eq_true (by kernel_rfl)) (by unfold Func.isWrapper; first | (rw [if_pos (by decide +kernel)]; kernel_rfl) | (rw [if_neg (by decide +kernel)]; exact ⟨rfl, rfl⟩))
    (fun os started H enc _ F => by rw [OpenClaim.pre_eq_preRow]; exact numRises_lifted os started H enc F)

theorem numRises_plain (f : FuncId) (fn : Func) (hf : Tryd.pinned.checked.prog.funcNamed "tapestrier/tapestrierlaw3.NumRises" = some f) (hfn : Tryd.pinned.checked.prog.funcs[f]? = some fn) :
    false = Tryd.pinned.checked.prog.looks [] ∧ ∀ (j : Nat) t, fn.params[j]? = some t → Tryd.pinned.checked.prog.wantsStandIn t = false := by
  obtain rfl : f = 3 := Option.some.inj ((show Tryd.prog.funcNamed "tapestrier/tapestrierlaw3.NumRises" = some 3 by kernel_rfl).symm.trans hf) |>.symm
  obtain rfl : fn = Tryd.f3 := (Option.some.inj (Tryd.func3.symm.trans hfn)).symm
  refine ⟨by kernel_rfl, fun j t ht => ?_⟩
  rw [Tryd.params3] at ht
  have hm : t ∈ [3] := by simpa using Array.mem_of_getElem? ht
  have hall : ([3].all fun u => !Tryd.prog.wantsStandIn u) = true := by kernel_rfl
  exact (show Tryd.prog.wantsStandIn t = false by simpa using List.all_eq_true.1 hall t hm)

theorem numRises_card : Rows.NumRisesCardSaid :=
  Claim7.holds_tied_plain_at .later [] _ _ _ _ numRises_said (fun _ h => by cases h) (by kernel_rfl) (fun _ h => by cases h) numRises_row_tie rfl ⟨rfl, rfl⟩ (by kernel_rfl) rfl numRises_plain (by kernel_rfl)
#print axioms numRises_card

end Go.Proofs.YtbeokoajabhpoabDoor
