/- For every slice of bytes: the law tapestrierlaw1.TextPoints returns true and leaves its argument as it was; conditions: the library's two UTF-8 tables hold what its text lays (the card ties them to the program's text). -/
import Derived.Test.YtpbgefgoccmncaaDoorRefPts
import Derived.Test.YtpbgefgoccmncaaDoorOpen
namespace Go.Proofs.YtpbgefgoccmncaaDoor
open Go Go.ChangeShapes Go.WideShapes Go.ChangeAt Go.RowKit

set_option maxRecDepth 100000 in
set_option maxHeartbeats 2000000 in
theorem textPoints_walk (w : World) (hT : Tabs w.heap.size w) (v : Value) (bs : List UInt8) (hB : BytesAt w.heap.size w v bs) :
    Calls Tryd.prog 3 #[v] w fun e w' => e = .returned (.bool true) ∧ Below w.heap.size w w' := by
  have h0 := alive_any w hT
  by_cases hlt : bs.length ≤ 2000
  · have hll := ipts_length_le bs
    have hpl := prep_length_le (ipts bs)
    have hm : bs.length * 8 ≤ 281474976710656 := by omega
    have hlm : (ipts bs).length ≤ maxLen := by unfold maxLen; omega
    have hpm : (prep (ipts bs)).length ≤ maxLen := by unfold maxLen; omega
    obtain ⟨p, cap, hv, _⟩ := hB.len
    have hi : ¬ (2000 : Int) < bs.length := by omega
    have step : ∀ {x y : World}, Below w.heap.size w x → Below x.heap.size x y → Below w.heap.size w y := fun a b => a.trans (b.mono a.size)
    subst hv
    go_enter Tryd.func3, Tryd.ntmps3
    go_wp2_with fail
    refine h0.mono ?_
    rintro e w1 ⟨rfl, b1⟩
    clear h0
    have B1 := (hB.below b1).mono b1.size
    have T1 := (hT.below b1).mono b1.size
    have c1 := points_any _ bs w1 B1 T1 hm
    go_wp2_with fail
    refine c1.mono ?_
    clear c1
    rintro e w2 ⟨v2, rfl, r2, b2⟩
    have B2 := (B1.below b2).mono b2.size
    have I2 := IntsAt.of_owns r2 rfl
    have c2 := refPoints_any _ bs w2 B2 (by omega)
    clear r2
    go_wp2_with fail
    refine c2.mono ?_
    clear c2
    rintro e w3 ⟨v3, rfl, r3, b3⟩
    have I3 := IntsAt.of_owns r3 rfl
    have c3 := same_yes _ _ _ w3 ((I2.below b3).mono b3.size) I3 hlm
    clear r3
    go_wp2_with fail
    refine c3.mono ?_
    clear c3
    rintro e w4 ⟨rfl, n4, rfl⟩
    have b4 : Below w3.heap.size w3 (w3.drewN n4) := below_drewN _ _
    have T4 := (((((T1.below b2).mono b2.size).below b3).mono b3.size).below b4).mono b4.size
    have B4 := (((B2.below b3).mono b3.size).below b4).mono b4.size
    generalize w3.drewN n4 = w4 at *
    have c5 := prepare_any _ bs w4 B4 T4 hm
    go_wp2_with fail
    refine c5.mono ?_
    clear c5
    rintro e w5 ⟨v5, rfl, r5, b5⟩
    have B5 := (B4.below b5).mono b5.size
    have I5 := IntsAt.of_owns r5 rfl
    have c6 := refPrepare_any _ bs w5 B5 (by omega)
    clear r5
    go_wp2_with fail
    refine c6.mono ?_
    clear c6
    rintro e w6 ⟨v6, rfl, r6, b6⟩
    have I6 := IntsAt.of_owns r6 rfl
    have c7 := same_yes _ _ _ w6 ((I5.below b6).mono b6.size) I6 hpm
    clear r6
    go_wp2_with fail
    refine c7.mono ?_
    clear c7
    rintro e w7 ⟨rfl, n7, rfl⟩
    have b7 : Below w6.heap.size w6 (w6.drewN n7) := below_drewN _ _
    have hbb := step (step (step (step (step (step b1 b2) b3) b4) b5) b6) b7
    generalize w6.drewN n7 = w7 at *
    go_wp2
    go_ret
    exact ⟨rfl, hbb⟩
  · have hi : (2000 : Int) < bs.length := by omega
    obtain ⟨p, cap, hv, _⟩ := hB.len
    subst hv
    clear hB hT
    go_enter Tryd.func3, Tryd.ntmps3
    go_wp2_with fail
    refine h0.mono ?_
    rintro e w1 ⟨rfl, b1⟩
    clear h0
    go_wp2
    go_ret
    exact ⟨rfl, b1⟩

theorem textPoints_met (os : Os) : laidMet Tryd.prog Rows.textPointsRow.laid ((laidIn (World.holding Tryd.prog os ⟨#[], #[], []⟩)).forCall (fun _ _ => 0) ⟨#[], #[.slice none 0 0], []⟩).memory :=
  laidMet_of_run' 8 (by kernel_rfl) (by kernel_rfl)
theorem textPoints_reads (os : Os) {H : Type} (enc : TypeId × Value → H) : ∃ places, DataW.whole enc Tryd.prog ((laidIn (World.holding Tryd.prog os ⟨#[], #[], []⟩)).forCall (fun _ _ => 0) ⟨#[], #[.slice none 0 0], []⟩).memory Tryd.f3.params.toList Rows.textPointsSpec.vars false (#[.slice none 0 0] : Array Value).toList 8 = some ([.nil], [], places) :=
  ⟨[], by kernel_rfl⟩

set_option maxRecDepth 100000 in
theorem textPoints_lifted (os : Os) (started : os.Started) (H : Type) (enc : TypeId × Value → H) (F : Stop.Interp) :
    ReturnsInHanded {} Tryd.checked os 3 .any ((OpenSpec.ofChange Rows.textPointsSpec).preRow enc Tryd.prog Tryd.f3 Rows.textPointsRow.domain false Rows.textPointsRow.laid) (((OpenSpec.ofChange Rows.textPointsSpec).at F).post enc Tryd.prog Tryd.f3 false true false false) := by
  obtain ⟨places, hx⟩ := textPoints_reads os enc
  refine returnsInHanded_of_row (C := Tryd.checked) (s := OpenSpec.ofChange Rows.textPointsSpec) ownNone started (by kernel_rfl) Tryd.func3
    (witness_row_at (enc := enc) (C := Tryd.checked) false (laidIn (World.holding Tryd.prog os ⟨#[], #[], []⟩)) #[.slice none 0 0] rfl (by kernel_rfl) (by kernel_rfl) (by kernel_rfl)
      (OpenSpec.preRow_of_cond 8 hx (by kernel_rfl) (fun k hk => by cases hk) (by kernel_rfl) (textPoints_met os))) ?_
  intro W base args ds gs before hval hW _ _ _ hL _ _
  have hW' := hW
  obtain ⟨p, q, hA0, hV, rfl, hfz, hnd⟩ := hW
  have hA : DataW.TrodAll enc Tryd.prog W 0 (fun _ => true) true Tryd.f3.params.toList args.toList ds p := hA0
  rw [Tryd.params3] at hA hval
  obtain ⟨v0, vs0, d0, ds0, p0, q0, hargs, rfl, rfl, h0, r0⟩ := trodAll_cons hA
  obtain ⟨rfl, rfl, rfl⟩ := trodAll_nil r0
  obtain rfl : args = #[v0] := by cases args; simp_all
  obtain ⟨rfl, rfl⟩ := trodVars_none hV
  obtain ⟨a0, len0, cap0, rfl⟩ := okWide_slice Tryd.underlying22 (hval 0 22 v0 rfl rfl)
  have k0 := h0
  have lt0 : ∀ x ∈ p0, x.block < W.heap.size := by obtain ⟨m, hm⟩ := k0; exact DataW.trod_lt m _ _ _ hm
  obtain ⟨z0, w0⟩ := bytesAt_of_reads k0
  clear hA0
  refine (textPoints_walk W (tabs_of_laid hL) _ z0 w0).mono fun e W' ⟨he, bel⟩ => ?_
  subst he
  exact ⟨_, rfl, _, _, _, [], _, [], hW', trodAll_mk1 (shut_bool Tryd.underlying4 _), (trodAll_cons_mk (Below.trod laidOut (by kernel_rfl) (of_decide_eq_true (by kernel_rfl)) k0 bel lt0) trodAll_mk0), rfl, bel.frame _, fun h => by cases h⟩

theorem textPoints_said : Rows.TextPointsSaid :=
  OpenClaim.holds_of_cond 3 Tryd.f3 rfl rfl rfl rfl rfl rfl rfl ⟨rfl, rfl, rfl, rfl, rfl⟩ rfl rfl rfl rfl rfl (by kernel_rfl) Tryd.func3 (by kernel_rfl)
    (of_decide_eq_true (by kernel_rfl)) (by unfold Func.isWrapper; first | (rw [if_pos (by decide +kernel)]; kernel_rfl) | (rw [if_neg (by decide +kernel)]; exact ⟨rfl, rfl⟩))
    (fun os started H enc _ F => by rw [OpenClaim.pre_eq_preRow]; exact textPoints_lifted os started H enc F)

theorem textPoints_plain (f : FuncId) (fn : Func) (hf : Tryd.pinned.checked.prog.funcNamed "tapestrier/tapestrierlaw1.TextPoints" = some f) (hfn : Tryd.pinned.checked.prog.funcs[f]? = some fn) :
    false = Tryd.pinned.checked.prog.looks [] ∧ ∀ (j : Nat) t, fn.params[j]? = some t → Tryd.pinned.checked.prog.wantsStandIn t = false := by
  obtain rfl : f = 3 := Option.some.inj ((show Tryd.prog.funcNamed "tapestrier/tapestrierlaw1.TextPoints" = some 3 by kernel_rfl).symm.trans hf) |>.symm
  obtain rfl : fn = Tryd.f3 := (Option.some.inj (Tryd.func3.symm.trans hfn)).symm
  refine ⟨by kernel_rfl, fun j t ht => ?_⟩
  rw [Tryd.params3] at ht
  have hm : t ∈ [22] := by simpa using Array.mem_of_getElem? ht
  have hall : ([22].all fun u => !Tryd.prog.wantsStandIn u) = true := by kernel_rfl
  exact (show Tryd.prog.wantsStandIn t = false by simpa using List.all_eq_true.1 hall t hm)

theorem textPoints_card : Rows.TextPointsCardSaid :=
  Claim7.holds_tied_plain_at .later [] _ _ _ _ textPoints_said (fun _ h => by cases h) (by kernel_rfl) (fun _ h => by cases h) textPoints_row_tie rfl ⟨rfl, rfl⟩ (by kernel_rfl) rfl textPoints_plain (by kernel_rfl)
#print axioms textPoints_card

end Go.Proofs.YtpbgefgoccmncaaDoor
