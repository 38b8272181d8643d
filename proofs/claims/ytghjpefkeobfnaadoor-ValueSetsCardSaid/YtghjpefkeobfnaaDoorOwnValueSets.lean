/- For every slice of declarations: the law tapestrierlaw7.ValueSets returns true and leaves its argument as it was; no condition (its card: the tables of words and of properties read off the program's text). -/
import Derived.Test.YtghjpefkeobfnaaDoorVlAlive
import Derived.Test.YtghjpefkeobfnaaDoorVlSetsR
import Derived.Test.YtghjpefkeobfnaaDoorVlDecls
namespace Go.Proofs.YtghjpefkeobfnaaDoor
open Go Go.ChangeShapes Go.WideShapes Go.ChangeAt Go.RowKit Vl
open Go.ChangeMaps (open_string shut_string)

set_option maxRecDepth 100000 in
set_option maxHeartbeats 4000000 in
theorem valueSets_walk (w : World) (hT : Tabs7 w.heap.size w) (v : Value) (ds : List Dl) (hv : DlsAt w.heap.size w v ds) (ht : ∀ d ∈ ds, ∀ t ∈ d.val, t.text.size ≤ maxLen) :
    Calls Tryd.prog 5 #[v] w fun e w' => e = .returned (.bool true) ∧ Below w.heap.size w w' := by
  have h0 := alive7_any w hT.1
  have hl := hv.short
  obtain ⟨q, cap, rfl⟩ := hv.len
  go_enter Tryd.func5, Tryd.ntmps5
  go_wp2_with fail
  refine h0.mono ?_
  clear h0
  rintro e w1 ⟨rfl, b1⟩
  replace hT := hT.next b1
  replace hv := hv.next b1
  by_cases hn : 60 < ds.length
  · have hni : (60 : Int) < (ds.length : Int) := by omega
    clear hv hT ht
    go_wp2
    go_ret
    exact ⟨rfl, b1⟩
  have hni : ¬ (60 : Int) < (ds.length : Int) := by omega
  have HT : Hid (∀ d ∈ ds, ∀ t ∈ d.val, t.text.size ≤ maxLen) := ht
  clear ht
  go_wp2
  go_loopw [4] (fun x wr => ∃ k : Nat, x = .int .i64 k ∧ k ≤ ds.length ∧ w1 = wr) (fun x _ => ds.length - (intOf x).toNat)
  case atStart => exact ⟨0, rfl, Nat.zero_le _, rfl⟩
  case round =>
    obtain ⟨k, rfl, hk, rfl⟩ := hrel
    by_cases hlt : k < ds.length
    · have hki : (k : Int) < (ds.length : Int) := by omega
      obtain ⟨bk, off, rfl, hbk, _, _, x0, x1, x2, hbt⟩ := hv.get (List.getElem?_eq_getElem hlt)
      generalize ds[k] = d at *
      obtain ⟨name, val, dv, imp⟩ := d
      simp only at x0 x1 x2 hbt
      have hbl := hbt.short
      obtain ⟨qd, cd, rfl⟩ := hbt.len
      clear hv hbt
      by_cases hs : 20 < val.length
      · have hsi : (20 : Int) < (val.length : Int) := by omega
        go_wp2
        go_ret
        exact ⟨rfl, b1⟩
      have hsi : ¬ (20 : Int) < (val.length : Int) := by omega
      by_cases hz : 100 < name.size
      · have hzi : (100 : Int) < (name.size : Int) := by omega
        go_wp2
        go_ret
        exact ⟨rfl, b1⟩
      · have hzi : ¬ (100 : Int) < (name.size : Int) := by omega
        go_wp2
        exact ⟨⟨k + 1, by go_num, by omega, trivial⟩, by simp [intOf]; omega⟩
    · have hki : ¬ (k : Int) < (ds.length : Int) := by omega
      have h1 := sets_any _ ds w1 hT hv HT (by omega)
      have hAl := setsV_len ds
      go_wp2_with fail
      refine h1.mono ?_
      clear h1
      rintro e w2 ⟨v2, rfl, hR2, b2⟩
      have h2 := refSets_any _ ds w2 (hv.next b2) HT (by omega)
      go_wp2_with fail
      refine h2.mono ?_
      clear h2
      rintro e w3 ⟨v3, rfl, hR3, b3⟩
      have h3 := sameSets_yes v2 v3 (setsV ds) _ _ w3 (hR2.keep b3) hR3 (by omega)
      have b03 := below_next (below_next b1 b2) b3
      go_wp2_with fail
      refine h3.mono ?_
      clear h3
      rintro e w4 ⟨rfl, m, rfl⟩
      have b04 := below_next b03 (below_drewN w3 m)
      clear hR2 hR3 hv hT
      go_wp2
      go_ret
      exact ⟨rfl, b04⟩

theorem valueSets_met (os : Os) : laidMet Tryd.prog Rows.valueSetsRow.laid ((laidIn (World.holding Tryd.prog os ⟨#[], #[], []⟩)).forCall (fun _ _ => 0) ⟨#[], #[.slice none 0 0], []⟩).memory :=
  laidMet_of_run' 8 (by kernel_rfl) (by kernel_rfl)
theorem valueSets_reads (os : Os) {H : Type} (enc : TypeId × Value → H) : ∃ places, DataW.whole enc Tryd.prog ((laidIn (World.holding Tryd.prog os ⟨#[], #[], []⟩)).forCall (fun _ _ => 0) ⟨#[], #[.slice none 0 0], []⟩).memory Tryd.f5.params.toList Rows.valueSetsSpec.vars false (#[.slice none 0 0] : Array Value).toList 8 = some ([.nil], [], places) :=
  ⟨[], by kernel_rfl⟩

set_option maxRecDepth 100000 in
theorem valueSets_lifted (os : Os) (started : os.Started) (H : Type) (enc : TypeId × Value → H) (F : Stop.Interp) :
    ReturnsInHanded {} Tryd.checked os 5 .any ((OpenSpec.ofChange Rows.valueSetsSpec).preRow enc Tryd.prog Tryd.f5 Rows.valueSetsRow.domain false Rows.valueSetsRow.laid) (((OpenSpec.ofChange Rows.valueSetsSpec).at F).post enc Tryd.prog Tryd.f5 false true false false) := by
  obtain ⟨places, hx⟩ := valueSets_reads os enc
  refine returnsInHanded_of_row (C := Tryd.checked) (s := OpenSpec.ofChange Rows.valueSetsSpec) ownNone started (by kernel_rfl) Tryd.func5
    (witness_row_at (enc := enc) (C := Tryd.checked) false (laidIn (World.holding Tryd.prog os ⟨#[], #[], []⟩)) #[.slice none 0 0] rfl (by kernel_rfl) (by kernel_rfl) (by kernel_rfl)
      (OpenSpec.preRow_of_cond 8 hx (by kernel_rfl) (fun k hk => by cases hk) (by kernel_rfl) (valueSets_met os))) ?_
  intro W base args ds gs before hval hW _ _ _ hL hS _
  have hW' := hW
  obtain ⟨p, q, hA0, hV, rfl, hfz, hnd⟩ := hW
  have hA : DataW.TrodAll enc Tryd.prog W 0 (fun _ => true) true Tryd.f5.params.toList args.toList ds p := hA0
  rw [Tryd.params5] at hA hval
  obtain ⟨v0, vs0, d0, ds0, p0, q0, hargs, rfl, rfl, h0, r0⟩ := trodAll_cons hA
  obtain ⟨rfl, rfl, rfl⟩ := trodAll_nil r0
  obtain rfl : args = #[v0] := by cases args; simp_all
  obtain ⟨rfl, rfl⟩ := trodVars_none hV
  obtain ⟨a0, len0, cap0, rfl⟩ := okWide_slice Tryd.underlying37 (hval 0 37 v0 rfl rfl)
  have k0 := h0
  have lt0 : ∀ x ∈ p0, x.block < W.heap.size := by obtain ⟨m, hm⟩ := k0; exact DataW.trod_lt m _ _ _ hm
  obtain ⟨z0, w0, y0⟩ := declsAt_of_reads k0
  clear hA0
  refine (valueSets_walk W (tabs_of_laid2 hL hS) _ z0 w0 y0).mono fun e W' ⟨he, bel⟩ => ?_
  subst he
  exact ⟨_, rfl, _, _, _, [], _, [], hW', trodAll_mk1 (shut_bool Tryd.underlying4 _), (trodAll_cons_mk (Below.trod laidOut (by kernel_rfl) (of_decide_eq_true (by kernel_rfl)) k0 bel lt0) trodAll_mk0), rfl, bel.frame _, fun h => by cases h⟩

theorem valueSets_said : Rows.ValueSetsSaid :=
  OpenClaim.holds_of_cond 5 Tryd.f5 rfl rfl rfl rfl rfl rfl rfl ⟨rfl, rfl, rfl, rfl, rfl⟩ rfl rfl rfl rfl rfl (by kernel_rfl) Tryd.func5 (by kernel_rfl)
    (of_decide_eq_true (by kernel_rfl)) (by unfold Func.isWrapper; first | (rw [if_pos (by decide +kernel)]; kernel_rfl) | (rw [if_neg (by decide +kernel)]; exact ⟨rfl, rfl⟩))
    (fun os started H enc _ F => by rw [OpenClaim.pre_eq_preRow]; exact valueSets_lifted os started H enc F)

theorem valueSets_plain (f : FuncId) (fn : Func) (hf : Tryd.pinned.checked.prog.funcNamed "tapestrier/tapestrierlaw7.ValueSets" = some f) (hfn : Tryd.pinned.checked.prog.funcs[f]? = some fn) :
    false = Tryd.pinned.checked.prog.looks [] ∧ ∀ (j : Nat) t, fn.params[j]? = some t → Tryd.pinned.checked.prog.wantsStandIn t = false := by
  obtain rfl : f = 5 := Option.some.inj ((show Tryd.prog.funcNamed "tapestrier/tapestrierlaw7.ValueSets" = some 5 by kernel_rfl).symm.trans hf) |>.symm
  obtain rfl : fn = Tryd.f5 := (Option.some.inj (Tryd.func5.symm.trans hfn)).symm
  refine ⟨by kernel_rfl, fun j t ht => ?_⟩
  rw [Tryd.params5] at ht
  have hm : t ∈ [37] := by simpa using Array.mem_of_getElem? ht
  have hall : ([37].all fun u => !Tryd.prog.wantsStandIn u) = true := by kernel_rfl
  exact (show Tryd.prog.wantsStandIn t = false by simpa using List.all_eq_true.1 hall t hm)

theorem valueSets_card : Rows.ValueSetsCardSaid :=
  Claim7.holds_tied_plain_at .later [] _ _ _ _ valueSets_said (fun _ h => by cases h) (by kernel_rfl) (fun _ h => by cases h) valueSets_row_tie rfl ⟨rfl, rfl⟩ (by kernel_rfl) rfl valueSets_plain (by kernel_rfl)
#print axioms valueSets_card


end Go.Proofs.YtghjpefkeobfnaaDoor
