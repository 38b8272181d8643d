/- For all slices of integers: the law tapestrierlaw4.TokPoints returns true and leaves its argument as it was; conditions: the tables hold what their texts lay (the card ties them to the program's text). -/
import Derived.Test.YtmjbajocdchdiaaGreatDoorTkTxt0
namespace Go.Proofs.YtmjbajocdchdiaaGreatDoor
open Go Go.ChangeShapes Go.WideShapes Go.ChangeAt Go.RowKit

set_option maxRecDepth 100000 in
set_option maxHeartbeats 2000000 in
theorem tokPoints_walk (w : World) (hT : LTabs w.heap.size w) (v : Value) (l : List Int) (hI : IntsAt w.heap.size w v l) :
    Calls Tryz.prog 4 #[v] w fun e w' => e = .returned (.bool true) ∧ Below w.heap.size w w' := by
  have h0 := alive_any w hT
  obtain ⟨p, cap, rfl⟩ := hI.len
  go_enter Tryz.func4, Tryz.ntmps4
  go_wp2_with fail
  refine h0.mono ?_
  clear h0
  rintro e w1 ⟨rfl, b1⟩
  by_cases hn : 500 < l.length
  · have hni : (500 : Int) < (l.length : Int) := by omega
    clear hI hT
    go_wp2
    go_ret
    exact ⟨rfl, b1⟩
  have hni : ¬ (500 : Int) < (l.length : Int) := by omega
  have hI1 := (hI.below b1).mono b1.size
  have h2 := tokens_any _ l w1 hI1 (by omega) (hT.next b1).2
  have hlen : (toks nvOf (l.map fixC)).length ≤ 500 := by
    have := toks_le nvOf (l.map fixC)
    rw [List.length_map] at this
    omega
  go_wp2_with fail
  refine h2.mono ?_
  clear h2
  rintro e w2 ⟨v2, rfl, r2, b2⟩
  have b02 := b1.trans (b2.mono b1.size)
  have h3 := Ref.tokens_any _ l w2 ((hI1.below b2).mono b2.size) (by omega)
  rw [bts_cells, show Ref.nv = nvOf from rfl] at h3
  have T2 := TksAt.of_owns r2
  generalize toks nvOf (l.map fixC) = ts at *
  clear hI hI1 hT r2
  go_wp2_with fail
  refine h3.mono ?_
  clear h3
  rintro e w3 ⟨v3, rfl, r3, b3⟩
  have b03 := b02.trans (b3.mono b02.size)
  have h4 := sameToks_yes v2 v3 ts w3 (T2.next b3) (TksAt.of_owns r3) (by omega)
  clear T2 r3
  go_wp2_with fail
  refine h4.mono ?_
  clear h4
  rintro e w4 ⟨rfl, b4⟩
  have b04 := b03.trans (b4.mono b03.size)
  have h5 := text_nil w4
  go_wp2_with fail
  refine h5.mono ?_
  clear h5
  rintro e w5 ⟨rfl, b5⟩
  go_wp2
  go_ret
  exact ⟨rfl, b04.trans (b5.mono b04.size)⟩

theorem tokPoints_met (os : Os) : laidMet Tryz.prog Rows.tokPointsRow.laid ((laidIn (World.holding Tryz.prog os ⟨#[], #[], []⟩)).forCall (fun _ _ => 0) ⟨#[], #[.slice none 0 0], []⟩).memory :=
  laidMet_of_run' 8 (by kernel_rfl) (by kernel_rfl)
theorem tokPoints_reads (os : Os) {H : Type} (enc : TypeId × Value → H) : ∃ places, DataW.whole enc Tryz.prog ((laidIn (World.holding Tryz.prog os ⟨#[], #[], []⟩)).forCall (fun _ _ => 0) ⟨#[], #[.slice none 0 0], []⟩).memory Tryz.f4.params.toList Rows.tokPointsSpec.vars false (#[.slice none 0 0] : Array Value).toList 8 = some ([.nil], [], places) :=
  ⟨[], by kernel_rfl⟩

set_option maxRecDepth 100000 in
theorem tokPoints_lifted (os : Os) (started : os.Started) (H : Type) (enc : TypeId × Value → H) (F : Stop.Interp) :
    ReturnsInHanded {} Tryz.checked os 4 .any ((OpenSpec.ofChange Rows.tokPointsSpec).preRow enc Tryz.prog Tryz.f4 Rows.tokPointsRow.domain false Rows.tokPointsRow.laid) (((OpenSpec.ofChange Rows.tokPointsSpec).at F).post enc Tryz.prog Tryz.f4 false true false false) := by
  obtain ⟨places, hx⟩ := tokPoints_reads os enc
  refine returnsInHanded_of_row (C := Tryz.checked) (s := OpenSpec.ofChange Rows.tokPointsSpec) ownNone started (by kernel_rfl) Tryz.func4
    (witness_row_at (enc := enc) (C := Tryz.checked) false (laidIn (World.holding Tryz.prog os ⟨#[], #[], []⟩)) #[.slice none 0 0] rfl (by kernel_rfl) (by kernel_rfl) (by kernel_rfl)
      (OpenSpec.preRow_of_cond 8 hx (by kernel_rfl) (fun k hk => by cases hk) (by kernel_rfl) (tokPoints_met os))) ?_
  intro W base args ds gs before hval hW _ _ _ hL hS _
  have hW' := hW
  obtain ⟨p, q, hA0, hV, rfl, hfz, hnd⟩ := hW
  have hA : DataW.TrodAll enc Tryz.prog W 0 (fun _ => true) true Tryz.f4.params.toList args.toList ds p := hA0
  rw [Tryz.params4] at hA hval
  obtain ⟨v0, vs0, d0, ds0, p0, q0, hargs, rfl, rfl, h0, r0⟩ := trodAll_cons hA
  obtain ⟨rfl, rfl, rfl⟩ := trodAll_nil r0
  obtain rfl : args = #[v0] := by cases args; simp_all
  obtain ⟨rfl, rfl⟩ := trodVars_none hV
  obtain ⟨a0, len0, cap0, rfl⟩ := okWide_slice Tryz.underlying28 (hval 0 28 v0 rfl rfl)
  have k0 := h0
  have lt0 : ∀ x ∈ p0, x.block < W.heap.size := by obtain ⟨m, hm⟩ := k0; exact DataW.trod_lt m _ _ _ hm
  obtain ⟨z0, w0⟩ := intsAt_of_reads k0
  clear hA0
  refine (tokPoints_walk W (tabs_of_laid hL hS) _ z0 w0).mono fun e W' ⟨he, bel⟩ => ?_
  subst he
  exact ⟨_, rfl, _, _, _, [], _, [], hW', trodAll_mk1 (shut_bool Tryz.underlying4 _), (trodAll_cons_mk (Below.trod laidOut (by kernel_rfl) (of_decide_eq_true (by kernel_rfl)) k0 bel lt0) trodAll_mk0), rfl, bel.frame _, fun h => by cases h⟩

theorem tokPoints_said : Rows.TokPointsSaid :=
  OpenClaim.holds_of_cond 4 Tryz.f4 rfl rfl rfl rfl rfl rfl rfl ⟨rfl, rfl, rfl, rfl, rfl⟩ rfl rfl rfl rfl rfl (by kernel_rfl) Tryz.func4 (by kernel_rfl)
    (of_decide_eq_true (by kernel_rfl)) (by unfold Func.isWrapper; first | (rw [if_pos (by decide +kernel)]; kernel_rfl) | (rw [if_neg (by decide +kernel)]; exact ⟨rfl, rfl⟩))
    (fun os started H enc _ F => by rw [OpenClaim.pre_eq_preRow]; exact tokPoints_lifted os started H enc F)

theorem tokPoints_plain (f : FuncId) (fn : Func) (hf : Tryz.pinned.checked.prog.funcNamed "tapestrier/tapestrierlaw4.TokPoints" = some f) (hfn : Tryz.pinned.checked.prog.funcs[f]? = some fn) :
    false = Tryz.pinned.checked.prog.looks [] ∧ ∀ (j : Nat) t, fn.params[j]? = some t → Tryz.pinned.checked.prog.wantsStandIn t = false := by
  obtain rfl : f = 4 := Option.some.inj ((show Tryz.prog.funcNamed "tapestrier/tapestrierlaw4.TokPoints" = some 4 by kernel_rfl).symm.trans hf) |>.symm
  obtain rfl : fn = Tryz.f4 := (Option.some.inj (Tryz.func4.symm.trans hfn)).symm
  refine ⟨by kernel_rfl, fun j t ht => ?_⟩
  rw [Tryz.params4] at ht
  have hm : t ∈ [28] := by simpa using Array.mem_of_getElem? ht
  have hall : ([28].all fun u => !Tryz.prog.wantsStandIn u) = true := by kernel_rfl
  exact (show Tryz.prog.wantsStandIn t = false by simpa using List.all_eq_true.1 hall t hm)

theorem tokPoints_card : Rows.TokPointsCardSaid :=
  Claim7.holds_tied_plain_at .later [] _ _ _ _ tokPoints_said (fun _ h => by cases h) (by kernel_rfl) (fun _ h => by cases h) tokPoints_row_tie rfl ⟨rfl, rfl⟩ (by kernel_rfl) rfl tokPoints_plain (by kernel_rfl)
#print axioms tokPoints_card

end Go.Proofs.YtmjbajocdchdiaaGreatDoor
