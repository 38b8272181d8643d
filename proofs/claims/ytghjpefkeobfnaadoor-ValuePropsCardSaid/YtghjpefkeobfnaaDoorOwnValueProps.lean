/- For every integer and every string: the law tapestrierlaw7.ValueProps returns true and leaves its arguments as they were; no condition (its card: the tables of words and of properties read off the program's text). -/
import Derived.Test.YtghjpefkeobfnaaDoorVlAlive
import Derived.Test.YtghjpefkeobfnaaDoorVlProp
import Derived.Test.YtghjpefkeobfnaaDoorVlLaid
namespace Go.Proofs.YtghjpefkeobfnaaDoor
open Go Go.ChangeShapes Go.WideShapes Go.ChangeAt Go.RowKit Vl
open Go.ChangeMaps (open_string shut_string)

theorem there_of (p : Int) : (0 ≤ p ∧ p < 8 ∧ propV (propAt p).1 = (p, true)) ∨ (p < 0 ∧ propV (propAt p).1 = (0, false)) ∨ (¬ p < 0 ∧ ¬ p < 8 ∧ propV (propAt p).1 = (0, false)) := by
  by_cases hp : 0 ≤ p ∧ p ≤ 7
  · refine .inl ⟨hp.1, by omega, ?_⟩
    obtain rfl | rfl | rfl | rfl | rfl | rfl | rfl | rfl : p = 0 ∨ p = 1 ∨ p = 2 ∨ p = 3 ∨ p = 4 ∨ p = 5 ∨ p = 6 ∨ p = 7 := by omega
    all_goals decide +kernel
  · rw [show propAt p = ([], false, 0) from if_neg hp]
    have : propV [] = (0, false) := by decide +kernel
    by_cases h0 : p < 0
    · exact .inr (.inl ⟨h0, this⟩)
    · exact .inr (.inr ⟨h0, by omega, this⟩)

set_option maxRecDepth 100000 in
set_option maxHeartbeats 4000000 in
theorem valueProps_walk (w : World) (hT : Tabs7 w.heap.size w) (p : Int) (_hp : (Lit.int .i64 p).wf = true) (s : ByteArray) (_hs : s.size ≤ maxLen) :
    Calls Tryd.prog 4 #[.int .i64 p, .string s] w fun e w' => e = .returned (.bool true) ∧ Below w.heap.size w w' := by
  have h0 := alive7_any w hT.1
  go_enter Tryd.func4, Tryd.ntmps4
  go_wp2_with fail
  refine h0.mono ?_
  clear h0
  rintro e w1 ⟨rfl, b1⟩
  have hP := (hT.next b1).2
  clear hT
  have h1 := prop_any s w1 hP
  have h2 := refProp_any s w1
  obtain ⟨n, ok, hV⟩ : ∃ n ok, propV s.data.toList = (n, ok) := ⟨_, _, rfl⟩
  rw [hV] at h1 h2
  clear hV
  go_wp2_with fail
  refine h1.mono ?_
  clear h1
  rintro e w1' ⟨rfl, rfl⟩
  go_wp2_with fail
  refine h2.mono ?_
  clear h2
  rintro e w2 ⟨rfl, b2⟩
  replace hP := hP.next b2
  have b02 := below_next b1 b2
  have h3 := name_any p w2 hP
  have hth := there_of p
  have hn := fun X hX => name_any p X hX
  have hrn := fun X => refName_any p X
  have hi := fun X hX => inherits_any p X hX
  have hri := fun X => refInherits_any p X
  have ht := fun X hX => initial_any p X hX
  have hrt := fun X => refInitial_any p X
  have hpr := fun X hX => prop_any ⟨(propAt p).1.toArray⟩ X hX
  replace hpr : ∀ X, PropsAt X.heap.size X → Calls Tryd.prog 12 #[.string ⟨(propAt p).1.toArray⟩] X fun e w' => e = .returned (.tuple #[.int .i64 (propV (propAt p).1).1, .bool (propV (propAt p).1).2]) ∧ w' = X := hpr
  obtain ⟨pp, there, hV⟩ : ∃ pp there, propV (propAt p).1 = (pp, there) := ⟨_, _, rfl⟩
  simp only [hV] at hpr hth
  clear hV
  generalize propAt p = r at *
  obtain ⟨nm, ih, ini⟩ := r
  simp only at h3 hn hrn hi hri ht hrt hpr
  generalize (⟨nm.toArray⟩ : ByteArray) = z at *
  go_wp2_with fail
  refine h3.mono ?_
  clear h3
  rintro e w3 ⟨rfl, b3⟩
  replace hP := hP.next b3
  have b03 := below_next b02 b3
  have h4 := hpr w3 hP
  clear hpr
  go_wp2_with fail
  refine h4.mono ?_
  clear h4
  rintro e w3' ⟨rfl, rfl⟩
  have hn4 := hn _ hP
  go_wp2_with fail
  refine hn4.mono ?_
  clear hn4 hn
  rintro e w4 ⟨rfl, b4⟩
  have hP4 := hP.next b4
  have b04 := below_next b03 b4
  go_wp2_with fail
  refine (hrn _).mono ?_
  clear hrn
  rintro e w5 ⟨rfl, b5⟩
  have hP5 := hP4.next b5
  have b05 := below_next b04 b5
  have hi5 := hi w5 hP5
  go_wp2_with fail
  refine hi5.mono ?_
  clear hi5 hi
  rintro e w6 ⟨rfl, b6⟩
  have hP6 := hP5.next b6
  have b06 := below_next b05 b6
  go_wp2_with fail
  refine (hri _).mono ?_
  clear hri
  rintro e w6' ⟨rfl, rfl⟩
  have ht6 := ht _ hP6
  go_wp2_with fail
  refine ht6.mono ?_
  clear ht6 ht
  rintro e w7 ⟨rfl, b7⟩
  have b07 := below_next b06 b7
  go_wp2_with fail
  refine (hrt _).mono ?_
  clear hrt
  rintro e w7' ⟨rfl, rfl⟩
  clear hP hP4 hP5 hP6 b1 b2 b3 b4 b5 b6 b7 b02 b03 b04 b05 b06
  rcases hth with ⟨i1, i2, i3⟩ | ⟨i1, i3⟩ | ⟨i1, i2, i3⟩
  case' inr.inr =>
    have i4 : decide (p < 8) = false := decide_eq_false (by omega)
    clear i2
  all_goals
    simp only [Prod.mk.injEq] at i3
    obtain ⟨rfl, rfl⟩ := i3
    go_wp2
    go_ret
    exact ⟨rfl, b07⟩

theorem valueProps_met (os : Os) : laidMet Tryd.prog Rows.valuePropsRow.laid ((laidIn (World.holding Tryd.prog os ⟨#[], #[], []⟩)).forCall (fun _ _ => 0) ⟨#[], #[.int .i64 0, .string ⟨#[]⟩], []⟩).memory :=
  laidMet_of_run' 8 (by kernel_rfl) (by kernel_rfl)
theorem valueProps_reads (os : Os) {H : Type} (enc : TypeId × Value → H) : ∃ places, DataW.whole enc Tryd.prog ((laidIn (World.holding Tryd.prog os ⟨#[], #[], []⟩)).forCall (fun _ _ => 0) ⟨#[], #[.int .i64 0, .string ⟨#[]⟩], []⟩).memory Tryd.f4.params.toList Rows.valuePropsSpec.vars false (#[.int .i64 0, .string ⟨#[]⟩] : Array Value).toList 8 = some ([.lit (.int .i64 0), .lit (.string [])], [], places) :=
  ⟨[], by kernel_rfl⟩

set_option maxRecDepth 100000 in
theorem valueProps_lifted (os : Os) (started : os.Started) (H : Type) (enc : TypeId × Value → H) (F : Stop.Interp) :
    ReturnsInHanded {} Tryd.checked os 4 .any ((OpenSpec.ofChange Rows.valuePropsSpec).preRow enc Tryd.prog Tryd.f4 Rows.valuePropsRow.domain false Rows.valuePropsRow.laid) (((OpenSpec.ofChange Rows.valuePropsSpec).at F).post enc Tryd.prog Tryd.f4 false true false false) := by
  obtain ⟨places, hx⟩ := valueProps_reads os enc
  refine returnsInHanded_of_row (C := Tryd.checked) (s := OpenSpec.ofChange Rows.valuePropsSpec) ownNone started (by kernel_rfl) Tryd.func4
    (witness_row_at (enc := enc) (C := Tryd.checked) false (laidIn (World.holding Tryd.prog os ⟨#[], #[], []⟩)) #[.int .i64 0, .string ⟨#[]⟩] rfl (by kernel_rfl) (by kernel_rfl) (by kernel_rfl)
      (OpenSpec.preRow_of_cond 8 hx (by kernel_rfl) (fun k hk => by cases hk) (by kernel_rfl) (valueProps_met os))) ?_
  intro W base args ds gs before hval hW _ _ _ hL hS _
  have hW' := hW
  obtain ⟨p, q, hA0, hV, rfl, hfz, hnd⟩ := hW
  have hA : DataW.TrodAll enc Tryd.prog W 0 (fun _ => true) true Tryd.f4.params.toList args.toList ds p := hA0
  rw [Tryd.params4] at hA hval
  obtain ⟨v0, vs0, d0, ds0, p0, q0, hargs, rfl, rfl, h0, r0⟩ := trodAll_cons hA
  obtain ⟨v1, vs1, d1, ds1, p1, q1, rfl, rfl, rfl, h1, r1⟩ := trodAll_cons r0
  obtain ⟨rfl, rfl, rfl⟩ := trodAll_nil r1
  obtain rfl : args = #[v0, v1] := by cases args; simp_all
  obtain ⟨rfl, rfl⟩ := trodVars_none hV
  obtain ⟨a0, rfl, rfl, rfl, w0⟩ := open_int Tryd.underlying3 (hval 0 3 v0 rfl rfl) h0
  obtain ⟨s1, rfl, rfl, rfl, w1⟩ := open_string Tryd.underlying9 (hval 1 9 v1 rfl rfl) h1
  clear hA0
  refine (valueProps_walk W (tabs_of_laid2 hL hS) a0 w0 s1 w1).mono fun e W' ⟨he, bel⟩ => ?_
  subst he
  exact ⟨_, rfl, _, _, _, [], _, [], hW', trodAll_mk1 (shut_bool Tryd.underlying4 _), (trodAll_cons_mk (shut_int Tryd.underlying3 w0) (trodAll_cons_mk (shut_string Tryd.underlying9 w1) trodAll_mk0)), rfl, bel.frame _, fun h => by cases h⟩

theorem valueProps_said : Rows.ValuePropsSaid :=
  OpenClaim.holds_of_cond 4 Tryd.f4 rfl rfl rfl rfl rfl rfl rfl ⟨rfl, rfl, rfl, rfl, rfl⟩ rfl rfl rfl rfl rfl (by kernel_rfl) Tryd.func4 (by kernel_rfl)
    (of_decide_eq_true (by kernel_rfl)) (by unfold Func.isWrapper; first | (rw [if_pos (by decide +kernel)]; kernel_rfl) | (rw [if_neg (by decide +kernel)]; exact ⟨rfl, rfl⟩))
    (fun os started H enc _ F => by rw [OpenClaim.pre_eq_preRow]; exact valueProps_lifted os started H enc F)

theorem valueProps_plain (f : FuncId) (fn : Func) (hf : Tryd.pinned.checked.prog.funcNamed "tapestrier/tapestrierlaw7.ValueProps" = some f) (hfn : Tryd.pinned.checked.prog.funcs[f]? = some fn) :
    false = Tryd.pinned.checked.prog.looks [] ∧ ∀ (j : Nat) t, fn.params[j]? = some t → Tryd.pinned.checked.prog.wantsStandIn t = false := by
  obtain rfl : f = 4 := Option.some.inj ((show Tryd.prog.funcNamed "tapestrier/tapestrierlaw7.ValueProps" = some 4 by kernel_rfl).symm.trans hf) |>.symm
  obtain rfl : fn = Tryd.f4 := (Option.some.inj (Tryd.func4.symm.trans hfn)).symm
  refine ⟨by kernel_rfl, fun j t ht => ?_⟩
  rw [Tryd.params4] at ht
  have hm : t ∈ [3, 9] := by simpa using Array.mem_of_getElem? ht
  have hall : ([3, 9].all fun u => !Tryd.prog.wantsStandIn u) = true := by kernel_rfl
  exact (show Tryd.prog.wantsStandIn t = false by simpa using List.all_eq_true.1 hall t hm)

theorem valueProps_card : Rows.ValuePropsCardSaid :=
  Claim7.holds_tied_plain_at .later [] _ _ _ _ valueProps_said (fun _ h => by cases h) (by kernel_rfl) (fun _ h => by cases h) valueProps_row_tie rfl ⟨rfl, rfl⟩ (by kernel_rfl) rfl valueProps_plain (by kernel_rfl)
#print axioms valueProps_card


end Go.Proofs.YtghjpefkeobfnaaDoor
