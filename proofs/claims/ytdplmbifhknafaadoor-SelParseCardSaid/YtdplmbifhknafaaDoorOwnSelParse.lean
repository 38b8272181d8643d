/- For every slice of tokens: the law tapestrierlaw8.SelParse returns true and leaves its argument as it was; no condition (its card: the table of operators read off the program's text). -/
import Derived.Test.YtdplmbifhknafaaDoorSlGg
import Derived.Test.YtdplmbifhknafaaDoorSlArgs
import Derived.Test.YtdplmbifhknafaaDoorSrD
import Derived.Test.YtdplmbifhknafaaDoorSmSel
import Derived.Test.YtdplmbifhknafaaDoorSmTok
namespace Go.Proofs.YtdplmbifhknafaaDoor
open Go.Proofs.YtdplmbifhknafaaDoor.Tre
open Go Go.ChangeShapes Go.WideShapes Go.ChangeAt Go.RowKit Sl

theorem infoTk8 : (Tryd.prog.info? 25).map (fun i => (i.zero, i.size, i.bytes)) = some (some (.agg #[.int .i64 0, .string ⟨#[]⟩, .int .i64 0, .bool false, .int .i64 0]), 5, 48) := by kernel_rfl

set_option maxRecDepth 100000 in
set_option maxHeartbeats 4000000 in
theorem selParse_walk (w : World) (hT : OpsAt w.heap.size w) (v : Value) (ts : List Bt) (hv : BtsAt w.heap.size w v ts) (hz : ∀ t ∈ ts, t.text.size ≤ maxLen ∧ -9223372036854775808 ≤ t.n ∧ t.n ≤ 9223372036854775807) :
    Calls Tryd.prog 3 #[v] w fun e w' => e = .returned (.bool true) ∧ Below w.heap.size w w' := by
  have h0 := alive_any w hT
  obtain ⟨i0, hi, hz0, hz1, hz2⟩ := info_parts infoTk8
  have hl := hv.short
  obtain ⟨q, cap, rfl⟩ := hv.len
  go_enter Tryd.func3, Tryd.ntmps3
  go_wp2_with fail
  refine h0.mono ?_
  clear h0
  rintro e w1 ⟨rfl, b1⟩
  have hT1 := hT.next b1
  replace hv := hv.next b1
  clear hT
  by_cases hn : 1100 < ts.length
  · have hni : (1100 : Int) < (ts.length : Int) := by omega
    clear hv hT1 hz
    go_wp2
    go_ret
    exact ⟨rfl, b1⟩
  have hni : ¬ (1100 : Int) < (ts.length : Int) := by omega
  have HZ : Hid (∀ t ∈ ts, -9223372036854775808 ≤ t.n ∧ t.n ≤ 9223372036854775807) := fun t h => (hz t h).2
  clear hz
  go_wp2
  go_loopw [4] (fun x wr => ∃ k : Nat, x = .int .i64 k ∧ k ≤ ts.length ∧ Hid (∀ (j : Nat) (t : Bt), j < k → ts[j]? = some t → t.text.size ≤ 100) ∧ w1 = wr) (fun x _ => ts.length - (intOf x).toNat)
  case atStart => exact ⟨0, rfl, Nat.zero_le _, fun j _ h => absurd h (Nat.not_lt_zero j), rfl⟩
  case round =>
    obtain ⟨k, rfl, hk, HK, rfl⟩ := hrel
    by_cases hlt : k < ts.length
    · have hki : (k : Int) < (ts.length : Int) := by omega
      have htk := List.getElem?_eq_getElem hlt
      obtain ⟨bk, off, rfl, hbk, _, _, _, hc, _⟩ := hv.get htk
      generalize ts[k] = t at *
      clear hv
      by_cases hs : 100 < t.text.size
      · have hsi : (100 : Int) < (t.text.size : Int) := by omega
        go_wp2
        go_ret
        exact ⟨rfl, b1⟩
      · have hsi : ¬ (100 : Int) < (t.text.size : Int) := by omega
        go_wp2
        refine ⟨⟨k + 1, by go_num, by omega, fun j u hj hu => ?_, trivial⟩, by simp [intOf]; omega⟩
        by_cases e : j = k
        · subst e
          cases htk.symm.trans hu
          omega
        · exact HK j u (by omega) hu
    · have hki : ¬ (k : Int) < (ts.length : Int) := by omega
      have HG : Hid (Sl.Good ts) := fun t ht => by
        obtain ⟨j, hj⟩ := List.mem_iff_getElem?.1 ht
        have := HK j t (by have := (List.getElem?_eq_some_iff.1 hj).1; omega) hj
        exact ⟨by omega, HZ t ht⟩
      clear HZ HK
      have hsrc := Sl.btsSrc hv
      go_wp2_with (at_builtin; refine wpList_append_src _ rfl _ _ 22 rfl w1.heap.size 25 i0 (.agg #[.int .i64 0, .string ⟨#[]⟩, .int .i64 0, .bool false, .int .i64 0]) 5 48 Tryd.underlying22 hi hz0 hz1 hz2 rfl (by decide) _ 0 [] rfl (World.ownsRow_nil _ _ _ _) _ ts.length (btsCells ts) rfl (btsCells_length ts) hsrc (btsCells_one ts) (by unfold maxLen; omega) (by omega) (Nat.le_refl _) ?_; intro v2 w2 hown hgrow)
      have b2 : Below w1.heap.size w1 w2 := (Below.refl _ w1).grown hgrow (Nat.le_refl _) (fun r e => by cases e)
      rw [Nat.zero_add, List.nil_append] at hown
      have hv2 := BtsAt.of_owns hown rfl
      clear hown hgrow hsrc
      have hv1 := hv.next b2
      have b02 := below_next b1 b2
      have h3 := Sl.parse_any v2 ts w2 hv2 (hT1.next b2) HG
      clear hv hT1
      refine h3.mono ?_
      clear h3
      rintro e w3 ⟨hcs, b3⟩
      have b03 := below_next b02 b3
      have h4 := Sr.selectors_any _ ts w3 (hv1.next b3) HG
      obtain ⟨V, hV⟩ : ∃ V, parseV ts = V := ⟨_, rfl⟩
      rw [hV] at hcs h4
      clear HG hV
      replace hv1 := hv1.next b3
      replace hv2 := hv2.next b3
      rcases hcs with ⟨l, x, rfl, rfl, hx⟩ | ⟨rfl, rfl⟩
      · have hx' := Wg.SelsAt.toE 9 hx
        clear hx
        go_wp2_with fail
        refine h4.mono ?_
        clear h4
        rintro e w4 ⟨l', y, ok, rfl, hy, b4, hyn⟩
        have b04 := below_next b03 b4
        obtain ⟨rfl, rfl⟩ : ok = true ∧ l = l' := by
          rcases hyn with ⟨rfl, h⟩ | ⟨_, h, _⟩
          · exact ⟨rfl, Option.some.inj h⟩
          · cases h
        have h5 := Wg.sameSels_all 9 x y l w4 (hx'.next b4) (Wg.SelsAt.toE 9 hy)
        replace hv1 := hv1.next b4
        replace hv2 := hv2.next b4
        clear hx' hy hyn
        go_wp2_with fail
        refine h5.mono ?_
        clear h5
        rintro e w5 ⟨rfl, b5⟩
        have h6 := Sl.sameBts_yes _ _ ts w5 (hv2.next b5) (hv1.next b5)
        clear hv1 hv2
        go_wp2_with fail
        refine h6.mono ?_
        clear h6
        rintro e w6 ⟨rfl, n, rfl⟩
        go_wp2
        go_ret
        exact ⟨rfl, below_next (below_next b04 b5) (below_drewN _ _)⟩
      · go_wp2_with fail
        refine h4.mono ?_
        clear h4
        rintro e w4 ⟨l', y, ok, rfl, hy, b4, hyn⟩
        have b04 := below_next b03 b4
        obtain ⟨rfl, rfl, rfl⟩ : ok = false ∧ l' = [] ∧ y = .slice none 0 0 := by
          rcases hyn with ⟨_, h⟩ | ⟨h1, _, h2, h3⟩
          · cases h
          · exact ⟨h1, h2, h3⟩
        have h5 := Wg.sameSels_all 9 (.slice none 0 0) (.slice none 0 0) [] w4 (Wg.SelsE.nil _ _ _) (Wg.SelsE.nil _ _ _)
        replace hv1 := hv1.next b4
        replace hv2 := hv2.next b4
        clear hy hyn
        go_wp2_with fail
        refine h5.mono ?_
        clear h5
        rintro e w5 ⟨rfl, b5⟩
        have h6 := Sl.sameBts_yes _ _ ts w5 (hv2.next b5) (hv1.next b5)
        clear hv1 hv2
        go_wp2_with fail
        refine h6.mono ?_
        clear h6
        rintro e w6 ⟨rfl, n, rfl⟩
        go_wp2
        go_ret
        exact ⟨rfl, below_next (below_next b04 b5) (below_drewN _ _)⟩

theorem selParse_met (os : Os) : laidMet Tryd.prog Rows.selParseRow.laid ((laidIn (World.holding Tryd.prog os ⟨#[], #[], []⟩)).forCall (fun _ _ => 0) ⟨#[], #[.slice none 0 0], []⟩).memory :=
  laidMet_of_run' 8 (by kernel_rfl) (by kernel_rfl)
theorem selParse_reads (os : Os) {H : Type} (enc : TypeId × Value → H) : ∃ places, DataW.whole enc Tryd.prog ((laidIn (World.holding Tryd.prog os ⟨#[], #[], []⟩)).forCall (fun _ _ => 0) ⟨#[], #[.slice none 0 0], []⟩).memory Tryd.f3.params.toList Rows.selParseSpec.vars false (#[.slice none 0 0] : Array Value).toList 8 = some ([.nil], [], places) :=
  ⟨[], by kernel_rfl⟩

set_option maxRecDepth 100000 in
theorem selParse_lifted (os : Os) (started : os.Started) (H : Type) (enc : TypeId × Value → H) (F : Stop.Interp) :
    ReturnsInHanded {} Tryd.checked os 3 .any ((OpenSpec.ofChange Rows.selParseSpec).preRow enc Tryd.prog Tryd.f3 Rows.selParseRow.domain false Rows.selParseRow.laid) (((OpenSpec.ofChange Rows.selParseSpec).at F).post enc Tryd.prog Tryd.f3 false true false false) := by
  obtain ⟨places, hx⟩ := selParse_reads os enc
  refine returnsInHanded_of_row (C := Tryd.checked) (s := OpenSpec.ofChange Rows.selParseSpec) ownNone started (by kernel_rfl) Tryd.func3
    (witness_row_at (enc := enc) (C := Tryd.checked) false (laidIn (World.holding Tryd.prog os ⟨#[], #[], []⟩)) #[.slice none 0 0] rfl (by kernel_rfl) (by kernel_rfl) (by kernel_rfl)
      (OpenSpec.preRow_of_cond 8 hx (by kernel_rfl) (fun k hk => by cases hk) (by kernel_rfl) (selParse_met os))) ?_
  intro W base args ds gs before hval hW _ _ _ hL hS _
  have hW' := hW
  obtain ⟨p, q, hA0, hV, rfl, hfz, hnd⟩ := hW
  have hA : DataW.TrodAll enc Tryd.prog W 0 (fun _ => true) true Tryd.f3.params.toList args.toList ds p := hA0
  rw [Tryd.params3] at hA hval
  obtain ⟨v0, vs0, d0, ds0, p0, q0, hargs, rfl, rfl, h0, r0⟩ := trodAll_cons hA
  obtain ⟨rfl, rfl, rfl⟩ := trodAll_nil r0
  obtain rfl : args = #[v0] := by cases args; simp_all
  obtain ⟨rfl, rfl⟩ := trodVars_none hV
  obtain ⟨a0, len0, cap0, rfl⟩ := okWide_slice Tryd.underlying22 (hval 0 22 v0 rfl rfl)
  have k0 := h0
  have lt0 : ∀ x ∈ p0, x.block < W.heap.size := by obtain ⟨m, hm⟩ := k0; exact DataW.trod_lt m _ _ _ hm
  obtain ⟨z0, w0, y0⟩ := tokensAt_of_reads k0
  clear hA0
  refine (selParse_walk W (tabs_of_laid hL hS) _ z0 w0 y0).mono fun e W' ⟨he, bel⟩ => ?_
  subst he
  exact ⟨_, rfl, _, _, _, [], _, [], hW', trodAll_mk1 (shut_bool Tryd.underlying4 _), (trodAll_cons_mk (Below.trod laidOut (by kernel_rfl) (of_decide_eq_true (by kernel_rfl)) k0 bel lt0) trodAll_mk0), rfl, bel.frame _, fun h => by cases h⟩

theorem selParse_said : Rows.SelParseSaid :=
  OpenClaim.holds_of_cond 3 Tryd.f3 rfl rfl rfl rfl rfl rfl rfl ⟨rfl, rfl, rfl, rfl, rfl⟩ rfl rfl rfl rfl rfl (by kernel_rfl) Tryd.func3 (by kernel_rfl)
    (of_decide_eq_true (by kernel_rfl)) (by unfold Func.isWrapper; first | (rw [if_pos (by decide +kernel)]; kernel_rfl) | (rw [if_neg (by decide +kernel)]; exact ⟨rfl, rfl⟩))
    (fun os started H enc _ F => by rw [OpenClaim.pre_eq_preRow]; exact selParse_lifted os started H enc F)

theorem selParse_plain (f : FuncId) (fn : Func) (hf : Tryd.pinned.checked.prog.funcNamed "tapestrier/tapestrierlaw8.SelParse" = some f) (hfn : Tryd.pinned.checked.prog.funcs[f]? = some fn) :
    false = Tryd.pinned.checked.prog.looks [] ∧ ∀ (j : Nat) t, fn.params[j]? = some t → Tryd.pinned.checked.prog.wantsStandIn t = false := by
  obtain rfl : f = 3 := Option.some.inj ((show Tryd.prog.funcNamed "tapestrier/tapestrierlaw8.SelParse" = some 3 by kernel_rfl).symm.trans hf) |>.symm
  obtain rfl : fn = Tryd.f3 := (Option.some.inj (Tryd.func3.symm.trans hfn)).symm
  refine ⟨by kernel_rfl, fun j t ht => ?_⟩
  rw [Tryd.params3] at ht
  have hm : t ∈ [22] := by simpa using Array.mem_of_getElem? ht
  have hall : ([22].all fun u => !Tryd.prog.wantsStandIn u) = true := by kernel_rfl
  exact (show Tryd.prog.wantsStandIn t = false by simpa using List.all_eq_true.1 hall t hm)

theorem selParse_card : Rows.SelParseCardSaid :=
  Claim7.holds_tied_plain_at .later [] _ _ _ _ selParse_said (fun _ h => by cases h) (by kernel_rfl) (fun _ h => by cases h) selParse_row_tie rfl ⟨rfl, rfl⟩ (by kernel_rfl) rfl selParse_plain (by kernel_rfl)
#print axioms selParse_card


end Go.Proofs.YtdplmbifhknafaaDoor
