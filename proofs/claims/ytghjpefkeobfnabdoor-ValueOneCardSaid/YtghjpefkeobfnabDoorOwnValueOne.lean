/- For every slice of declarations: the law tapestrierlaw7.ValueOne returns true and leaves its argument as it was; no condition (its card: the tables of words and of properties read off the program's text). -/
import Derived.Test.YtghjpefkeobfnabDoorVlAlive
import Derived.Test.YtghjpefkeobfnabDoorVlDecls
import Derived.Test.YtghjpefkeobfnabDoorVlSetsG
import Derived.Deep.RegionLaw
namespace Go.Proofs.YtghjpefkeobfnabDoor
open Go Go.ChangeShapes Go.WideShapes Go.ChangeAt Go.RowKit Vl
open Go.ChangeMaps (open_string shut_string)

set_option maxRecDepth 100000 in
set_option maxHeartbeats 4000000 in
theorem valueOne_walk (w : World) (hT : Tabs7 w.heap.size w) (v : Value) (ds : List Dl) (hv : DlsAt w.heap.size w v ds) (ht : ∀ d ∈ ds, ∀ t ∈ d.val, t.text.size ≤ maxLen) :
    Calls Tryd.prog 5 #[v] w fun e w' => e = .returned (.bool true) ∧ Below w.heap.size w w' := by
  have h0 := alive7_any w hT.1
  have hl := hv.short
  obtain ⟨q, cap, rfl⟩ := hv.len
  go_enter Tryd.func5, Tryd.ntmps5
  go_wp2_with fail
  refine h0.mono ?_
  clear h0
  rintro e w1 ⟨rfl, b1⟩
  replace hT := hT.next b1
  replace hv := hv.next b1
  by_cases hn : 60 < ds.length
  · have hni : (60 : Int) < (ds.length : Int) := by omega
    clear hv hT ht
    go_wp2
    go_ret
    exact ⟨rfl, b1⟩
  have hni : ¬ (60 : Int) < (ds.length : Int) := by omega
  have h1 := sets_any _ ds w1 hT hv ht (by omega)
  have HT : Hid (∀ d ∈ ds, ∀ t ∈ d.val, t.text.size ≤ maxLen) := ht
  clear ht
  go_wp2_with fail
  refine h1.mono ?_
  clear h1
  rintro e w2 ⟨v2, rfl, hR, b2⟩
  replace hT := hT.next b2
  replace hv := hv.next b2
  have hb2 := below_next b1 b2
  have hAl := setsV_len ds
  obtain ⟨A, hA⟩ : ∃ A, setsV ds = A := ⟨_, rfl⟩
  rw [hA] at hR hAl
  obtain ⟨qa, ca, rfl⟩ := hR.form
  go_wp2
  go_loopw [4, 6] (fun m i wr => ∃ (k : Nat) (qs : List Sv), i = .int .i64 k ∧ m = .int .i64 qs.length ∧ k ≤ ds.length ∧ qs.length ≤ k ∧ Hid (qs ++ setsV (ds.drop k) = A) ∧ Below w2.heap.size w2 wr) (fun _ i _ => ds.length - (intOf i).toNat)
  case atStart => exact ⟨0, [], rfl, rfl, Nat.zero_le _, by simp, hA, Below.refl _ _⟩
  case round =>
    obtain ⟨k, qs, rfl, rfl, hk, hqk, HA, hbr⟩ := hrel
    clear hA
    have hTr := hT.next hbr
    have hvr := hv.next hbr
    have hRr := hR.keep hbr
    have hbw := below_next hb2 hbr
    by_cases hlt : k < ds.length
    · have hki : (k : Int) < (ds.length : Int) := by omega
      have hdk : ds[k]? = some ds[k] := List.getElem?_eq_getElem hlt
      have htd := (show ∀ d ∈ ds, ∀ t ∈ d.val, t.text.size ≤ maxLen from HT) ds[k] (List.getElem_mem hlt)
      obtain ⟨bk, off, rfl, hbk, _, _, x0, x1, x2, hbt⟩ := hvr.get hdk
      have HA2 : qs ++ ((setOf ds[k]).toList ++ setsV (ds.drop (k + 1))) = A := by
        rw [← setsV_drop hdk]
        exact HA
      unfold setOf at HA2
      clear HA hdk
      generalize ds[k] = d at *
      obtain ⟨name, val, dv, imp⟩ := d
      simp only at htd x0 x1 x2 hbt HA2
      have hbl := hbt.short
      obtain ⟨qd, cd, rfl⟩ := hbt.len
      clear hvr
      by_cases hs : 20 < val.length
      · have hsi : (20 : Int) < (val.length : Int) := by omega
        clear HA2 hbt hRr hTr htd
        go_wp2
        go_ret
        exact ⟨rfl, hbw⟩
      have hsi : ¬ (20 : Int) < (val.length : Int) := by omega
      by_cases hz : 100 < name.size
      · have hzi : (100 : Int) < (name.size : Int) := by omega
        clear HA2 hbt hRr hTr htd
        go_wp2
        go_ret
        exact ⟨rfl, hbw⟩
      have hzi : ¬ (100 : Int) < (name.size : Int) := by omega
      have hp := prop_any name _ hTr.2
      obtain ⟨pn, ok, hV⟩ : ∃ pn ok, propV name.data.toList = (pn, ok) := ⟨_, _, rfl⟩
      rw [hV] at hp HA2
      simp only at hp HA2
      clear hV
      have hpa := parse_any pn _ val _ hTr.1 hbt htd
      obtain ⟨v1, v2, v3, hV⟩ : ∃ v1 v2 v3, parseV pn val = (v1, v2, v3) := ⟨_, _, _, rfl⟩
      rw [hV] at hpa HA2
      simp only at HA2
      unfold ret at hpa
      simp only at hpa
      clear hV htd hbt hTr
      go_wp2_with fail
      refine hp.mono ?_
      clear hp
      rintro e wr' ⟨rfl, rfl⟩
      go_wp2_with fail
      refine hpa.mono ?_
      clear hpa
      rintro e w3 ⟨rfl, b3⟩
      have hb3 := below_next hbr b3
      have hs3 := hb3.size
      have x2' := (b3.cell (p := ⟨bk, off + k * 3 + 2, none⟩) hbk).trans x2
      have hbk3 : bk < w3.heap.size := Nat.lt_of_lt_of_le hbk b3.size
      have hR3 := hRr.keep b3
      have bE : Below w3.heap.size w3 (w3.alloc (.cells #[.int .i64 v1, .int .i64 v2] 26)) := (Below.refl _ _).alloc (Nat.le_refl _) _
      have kE : Blk (w3.alloc (.cells #[.int .i64 v1, .int .i64 v2] 26)) w3.heap.size _ _ := Blk.new w3 26 [.int .i64 v1, .int .i64 v2]
      have hb4 := below_next hb3 bE
      clear x0 x1 x2 hRr
      cases ok with
      | false =>
        have HA3 : Hid (qs ++ setsV (ds.drop (k + 1)) = A) := by unfold Hid; simpa using HA2
        clear HA2 hR3 x2' kE
        go_wp2
        exact ⟨⟨k + 1, qs, by go_num, rfl, by omega, by omega, HA3, hb4⟩, by simp [intOf]; omega⟩
      | true =>
        cases v3 with
        | false =>
          have HA3 : Hid (qs ++ setsV (ds.drop (k + 1)) = A) := by unfold Hid; simpa using HA2
          clear HA2 hR3 x2' kE
          go_wp2
          exact ⟨⟨k + 1, qs, by go_num, rfl, by omega, by omega, HA3, hb4⟩, by simp [intOf]; omega⟩
        | true =>
          have HA3 : Hid ((qs ++ [(pn, v1, v2, imp)]) ++ setsV (ds.drop (k + 1)) = A) := by unfold Hid; simpa using HA2
          have hget : A[qs.length]? = some (pn, v1, v2, imp) := by
            rw [← HA2]
            simp
          have hlt2 : (qs.length : Int) < (A.length : Int) := by
            have := (List.getElem?_eq_some_iff.1 hget).1
            omega
          have hge2 : ¬ (A.length : Int) ≤ (qs.length : Int) := by omega
          obtain ⟨g, rfl, y0, y1, y2, y3⟩ := (hR3.keep bE).get hget
          have x4 := (bE.cell (p := ⟨bk, off + k * 3 + 2, none⟩) hbk3).trans x2'
          obtain ⟨⟨z0, z1⟩, _⟩ := blk2 kE
          simp only at y0 y1 y2 y3
          clear HA2 hget hR3 x2' bE kE hR
          go_upto_region 14 with fail
          generalize w3.alloc (.cells #[.int .i64 v1, .int .i64 v2] 26) = w4 at *
          have hge3 : decide (A.length ≤ qs.length) = false := decide_eq_false (by omega)
          go_quiet (fail)
          go_wp2
          exact ⟨⟨k + 1, qs ++ [(pn, v1, v2, imp)], by go_num, by simp, by omega, by simp; omega, HA3, below_next hb4 (below_drewN w4 _)⟩, by simp [intOf]; omega⟩
    · have hki : ¬ (k : Int) < (ds.length : Int) := by omega
      obtain rfl : qs = A := by
        have := HA
        unfold Hid at this
        rw [List.drop_eq_nil_of_le (by omega)] at this
        simpa [setsV] using this
      clear HA
      go_wp2
      go_ret
      exact ⟨rfl, hbw⟩

theorem valueOne_met (os : Os) : laidMet Tryd.prog Rows.valueOneRow.laid ((laidIn (World.holding Tryd.prog os ⟨#[], #[], []⟩)).forCall (fun _ _ => 0) ⟨#[], #[.slice none 0 0], []⟩).memory :=
  laidMet_of_run' 8 (by kernel_rfl) (by kernel_rfl)
theorem valueOne_reads (os : Os) {H : Type} (enc : TypeId × Value → H) : ∃ places, DataW.whole enc Tryd.prog ((laidIn (World.holding Tryd.prog os ⟨#[], #[], []⟩)).forCall (fun _ _ => 0) ⟨#[], #[.slice none 0 0], []⟩).memory Tryd.f5.params.toList Rows.valueOneSpec.vars false (#[.slice none 0 0] : Array Value).toList 8 = some ([.nil], [], places) :=
  ⟨[], by kernel_rfl⟩

set_option maxRecDepth 100000 in
theorem valueOne_lifted (os : Os) (started : os.Started) (H : Type) (enc : TypeId × Value → H) (F : Stop.Interp) :
    ReturnsInHanded {} Tryd.checked os 5 .any ((OpenSpec.ofChange Rows.valueOneSpec).preRow enc Tryd.prog Tryd.f5 Rows.valueOneRow.domain false Rows.valueOneRow.laid) (((OpenSpec.ofChange Rows.valueOneSpec).at F).post enc Tryd.prog Tryd.f5 false true false false) := by
  obtain ⟨places, hx⟩ := valueOne_reads os enc
  refine returnsInHanded_of_row (C := Tryd.checked) (s := OpenSpec.ofChange Rows.valueOneSpec) ownNone started (by kernel_rfl) Tryd.func5
    (witness_row_at (enc := enc) (C := Tryd.checked) false (laidIn (World.holding Tryd.prog os ⟨#[], #[], []⟩)) #[.slice none 0 0] rfl (by kernel_rfl) (by kernel_rfl) (by kernel_rfl)
      (OpenSpec.preRow_of_cond 8 hx (by kernel_rfl) (fun k hk => by cases hk) (by kernel_rfl) (valueOne_met os))) ?_
  intro W base args ds gs before hval hW _ _ _ hL hS _
  have hW' := hW
  obtain ⟨p, q, hA0, hV, rfl, hfz, hnd⟩ := hW
  have hA : DataW.TrodAll enc Tryd.prog W 0 (fun _ => true) true Tryd.f5.params.toList args.toList ds p := hA0
  rw [Tryd.params5] at hA hval
  obtain ⟨v0, vs0, d0, ds0, p0, q0, hargs, rfl, rfl, h0, r0⟩ := trodAll_cons hA
  obtain ⟨rfl, rfl, rfl⟩ := trodAll_nil r0
  obtain rfl : args = #[v0] := by cases args; simp_all
  obtain ⟨rfl, rfl⟩ := trodVars_none hV
  obtain ⟨a0, len0, cap0, rfl⟩ := okWide_slice Tryd.underlying34 (hval 0 34 v0 rfl rfl)
  have k0 := h0
  have lt0 : ∀ x ∈ p0, x.block < W.heap.size := by obtain ⟨m, hm⟩ := k0; exact DataW.trod_lt m _ _ _ hm
  obtain ⟨z0, w0, y0⟩ := declsAt_of_reads k0
  clear hA0
  refine (valueOne_walk W (tabs_of_laid2 hL hS) _ z0 w0 y0).mono fun e W' ⟨he, bel⟩ => ?_
  subst he
  exact ⟨_, rfl, _, _, _, [], _, [], hW', trodAll_mk1 (shut_bool Tryd.underlying4 _), (trodAll_cons_mk (Below.trod laidOut (by kernel_rfl) (of_decide_eq_true (by kernel_rfl)) k0 bel lt0) trodAll_mk0), rfl, bel.frame _, fun h => by cases h⟩

theorem valueOne_said : Rows.ValueOneSaid :=
  OpenClaim.holds_of_cond 5 Tryd.f5 rfl rfl rfl rfl rfl rfl rfl ⟨rfl, rfl, rfl, rfl, rfl⟩ rfl rfl rfl rfl rfl (by kernel_rfl) Tryd.func5 (by kernel_rfl)
    (of_decide_eq_true (by kernel_rfl)) (by unfold Func.isWrapper; first | (rw [if_pos (by decide +kernel)]; kernel_rfl) | (rw [if_neg (by decide +kernel)]; exact ⟨rfl, rfl⟩))
    (fun os started H enc _ F => by rw [OpenClaim.pre_eq_preRow]; exact valueOne_lifted os started H enc F)

theorem valueOne_plain (f : FuncId) (fn : Func) (hf : Tryd.pinned.checked.prog.funcNamed "tapestrier/tapestrierlaw7.ValueOne" = some f) (hfn : Tryd.pinned.checked.prog.funcs[f]? = some fn) :
    false = Tryd.pinned.checked.prog.looks [] ∧ ∀ (j : Nat) t, fn.params[j]? = some t → Tryd.pinned.checked.prog.wantsStandIn t = false := by
  obtain rfl : f = 5 := Option.some.inj ((show Tryd.prog.funcNamed "tapestrier/tapestrierlaw7.ValueOne" = some 5 by kernel_rfl).symm.trans hf) |>.symm
  obtain rfl : fn = Tryd.f5 := (Option.some.inj (Tryd.func5.symm.trans hfn)).symm
  refine ⟨by kernel_rfl, fun j t ht => ?_⟩
  rw [Tryd.params5] at ht
  have hm : t ∈ [34] := by simpa using Array.mem_of_getElem? ht
  have hall : ([34].all fun u => !Tryd.prog.wantsStandIn u) = true := by kernel_rfl
  exact (show Tryd.prog.wantsStandIn t = false by simpa using List.all_eq_true.1 hall t hm)

theorem valueOne_card : Rows.ValueOneCardSaid :=
  Claim7.holds_tied_plain_at .later [] _ _ _ _ valueOne_said (fun _ h => by cases h) (by kernel_rfl) (fun _ h => by cases h) valueOne_row_tie rfl ⟨rfl, rfl⟩ (by kernel_rfl) rfl valueOne_plain (by kernel_rfl)
#print axioms valueOne_card


end Go.Proofs.YtghjpefkeobfnabDoor
