/- For every integer and every slice of truth values: the law tapestrierlaw8.SelDeep returns true and leaves its arguments as they were; no condition (its card: the table of operators read off the program's text). -/
import Derived.Test.YtdplmbifhknafaaDoorSlDeep
import Derived.Test.YtdplmbifhknafaaDoorSlBools
import Derived.Test.YtdplmbifhknafaaDoorSmSel
namespace Go.Proofs.YtdplmbifhknafaaDoor
open Go.Proofs.YtdplmbifhknafaaDoor.Tre
open Go Go.ChangeShapes Go.WideShapes Go.ChangeAt Go.RowKit Sl

theorem deepB_size (up : List Bool) (k : Nat) : (⟨(deepS up k).toArray⟩ : ByteArray).size = 1 + 6 * k := by
  show (deepS up k).toArray.size = _
  rw [List.size_toArray, deepS_len]

set_option maxRecDepth 100000 in
set_option maxHeartbeats 8000000 in
theorem selDeep_walk (w : World) (hT : OpsAt w.heap.size w) (n : Int) (_hn : (Lit.int .i64 n).wf = true) (v : Value) (up : List Bool) (hv : BoolsAt w.heap.size w v up) :
    Calls Tryd.prog 5 #[.int .i64 n, v] w fun e w' => e = .returned (.bool true) ∧ Below w.heap.size w w' := by
  have h0 := alive_any w hT
  obtain ⟨q, cap, rfl⟩ := hv.len
  have HV : Hid (∀ X, Below w.heap.size w X → BoolsAt w.heap.size X (.slice q up.length cap) up) := fun X hX => hv.below hX
  clear hv
  go_enter Tryd.func5, Tryd.ntmps5
  go_wp2_with fail
  refine h0.mono ?_
  clear h0
  rintro e w1 ⟨rfl, b1⟩
  have hT1 := hT.next b1
  clear hT
  by_cases h1 : n < 0
  · clear hT1
    go_wp2
    go_ret
    exact ⟨rfl, b1⟩
  by_cases h2 : 20 < n
  · clear hT1
    go_wp2
    go_ret
    exact ⟨rfl, b1⟩
  by_cases h3 : (up.length : Int) < n
  · clear hT1
    go_wp2
    go_ret
    exact ⟨rfl, b1⟩
  obtain ⟨m, rfl⟩ : ∃ m : Nat, n = (m : Int) := ⟨n.toNat, by omega⟩
  have hm : m ≤ 20 := by omega
  have hmu : m ≤ up.length := by omega
  go_wp2
  go_loopw [6, 7] (fun x y wr => ∃ k : Nat, x = .string ⟨(deepS up k).toArray⟩ ∧ y = .int .i64 k ∧ k ≤ m ∧ w1 = wr) (fun _ y _ => m - (intOf y).toNat)
  case atStart => exact ⟨0, rfl, rfl, Nat.zero_le _, rfl⟩
  case round =>
    obtain ⟨k, rfl, rfl, hk, rfl⟩ := hrel
    have hsz := deepB_size up k
    by_cases hlt : k < m
    · have hki : (k : Int) < (m : Int) := by omega
      obtain ⟨bk, off, u, rfl, hu, hc, hbk⟩ := BoolsAt.get ((show ∀ X, _ → _ from HV) w1 b1) (k := k) (by omega)
      have hstep : (⟨(deepS up (k + 1)).toArray⟩ : ByteArray) = ⟨(deepP u).toArray⟩ ++ ⟨(deepS up k).toArray⟩ ++ ⟨#[41]⟩ := by
        apply ByteArray.ext
        simp [ByteArray.data_append, deepS, hu]
      have HE : Hid ((⟨(deepS up (k + 1)).toArray⟩ : ByteArray) = ⟨(deepP u).toArray⟩ ++ ⟨(deepS up k).toArray⟩ ++ ⟨#[41]⟩) := hstep
      clear hstep hT1
      cases u with
      | true =>
        go_wp2
        exact ⟨⟨k + 1, congrArg Value.string HE.symm, by go_num, by omega, trivial⟩, by simp [intOf]; omega⟩
      | false =>
        go_wp2
        exact ⟨⟨k + 1, congrArg Value.string HE.symm, by go_num, by omega, trivial⟩, by simp [intOf]; omega⟩
    · have hki : ¬ (k : Int) < (m : Int) := by omega
      obtain rfl : k = m := by omega
      have hof := Sl.of_any ⟨(deepS up k).toArray⟩ w1 (by rw [hsz]; omega)
      have ets : (⟨(deepS up k).toArray⟩ : ByteArray).data.toList = deepS up k := rfl
      rw [ets, deep_tksB] at hof
      have HG : Hid (Sl.Good (deepT up k [])) := by rw [← deep_tksB]; exact tksB_good _ (by rw [deepS_len]; omega)
      have hp := deep_parse up k hm
      clear ets hsz
      generalize deepT up k [] = ts at *
      generalize (⟨(deepS up k).toArray⟩ : ByteArray) = sb at *
      go_wp2_with fail
      refine hof.mono ?_
      clear hof
      rintro e w2 ⟨v2, rfl, hr2, b2⟩
      have b02 := below_next b1 b2
      have h3 := Sl.parse_any v2 ts w2 (BtsAt.of_owns hr2 rfl) (hT1.next b2) HG
      clear hr2 hT1
      go_wp2_with fail
      refine h3.mono ?_
      clear h3 HG
      rintro e w3 ⟨hcs, b3⟩
      have b03 := below_next b02 b3
      clear b1 b2 b02 b3
      by_cases h8 : k ≤ 8
      · rw [if_pos h8] at hp
        rcases hcs with ⟨l, x, hl, rfl, hx⟩ | ⟨hl, _⟩
        · obtain rfl := Option.some.inj (hl.symm.trans hp)
          have hx' := Wg.SelsAt.toE 9 hx
          have h8i : ¬ (8 : Int) < (k : Int) := by omega
          clear hx hl hp
          replace hx' : Hid (Wg.SelsE 9 w3.heap.size w3 x [[(0, deepC up k)]]) := hx'
          go_wp2
          go_loopw [9, 11] (fun x y wr => ∃ j : Nat, y = .int .i64 ((j : Int) - 1) ∧ j ≤ k ∧ Wg.SelsE (9 - (k - j)) wr.heap.size wr x [[(0, deepC up j)]] ∧ Below w.heap.size w wr) (fun _ y _ => (intOf y + 1).toNat)
          case atStart => exact ⟨k, by go_num, Nat.le_refl _, by rw [Nat.sub_self]; exact hx', b03⟩
          case round =>
            clear hx' b03
            rename_i vx vy _
            obtain ⟨j, rfl, hj, hx, bw⟩ := hrel
            obtain ⟨d, hd⟩ : ∃ d, 9 - (k - j) = d + 1 := ⟨8 - (k - j), by omega⟩
            rw [hd] at hx
            obtain ⟨px, cx, rfl⟩ := Wg.SelsE.len hx
            obtain ⟨b, off, c, rfl, hbn, h1, h2, _, ⟨x2, rfl, hx2⟩, hcell⟩ := Wg.RowT.get hx (k := 0) rfl
            have z0 := hcell 0 _ rfl
            obtain ⟨p2, c2, rfl⟩ := Wg.RowT.len hx2
            obtain ⟨bb, oo, c, rfl, hbb, m1, m2, _, ⟨c3, rfl, hcp⟩, hcl⟩ := Wg.RowT.get hx2 (k := 0) rfl
            obtain ⟨vi, vk, va, vp, rfl, n1, n2, n3, n4⟩ := hcp
            have y1 := hcl 1 _ rfl
            have y2 := hcl 2 _ rfl
            have y3 := hcl 3 _ rfl
            have y4 := hcl 4 _ rfl
            have y5 := hcl 5 _ rfl
            simp only [List.length_cons, List.length_nil, Nat.zero_mul, Nat.add_zero, Nat.zero_add] at z0 y1 y2 y3 y4 y5 h1 m1
            by_cases hj0 : j = 0
            · subst hj0
              have hji : ¬ (0 : Int) ≤ ((0 : Nat) : Int) - 1 := by omega
              have y1' : wr.cell? ⟨bb, oo + 1, none⟩ = some (.string ⟨#[97]⟩) := y1
              clear y1 y2 y3 y4 y5 n1 n2 n3 n4 hcl hcell hx hx2
              go_wp2
              go_ret
              exact ⟨rfl, bw⟩
            · obtain ⟨i, rfl⟩ : ∃ i, j = i + 1 := ⟨j - 1, by omega⟩
              have hji : (0 : Int) ≤ ((i + 1 : Nat) : Int) - 1 := by omega
              have ei : ((i + 1 : Nat) : Int) - 1 = (i : Int) := by omega
              obtain ⟨bk, ob, u, rfl, hu, hc, hbk⟩ := BoolsAt.get ((show ∀ X, _ → _ from HV) wr bw) (k := i) (by omega)
              have ecp : deepC up (i + 1) = .mk ⟨#[]⟩ [] [] [] [.mk (kindD u) 0 0 [[(0, deepC up i)]]] := by simp [deepC, hu]
              rw [ecp] at y1 n1 n2 n3 n4
              obtain ⟨pi, ci, rfl⟩ := n1.len
              obtain ⟨pk, ck, rfl⟩ := n2.len
              obtain ⟨pa, ca, rfl⟩ := n3.len
              obtain ⟨pp, cp, rfl⟩ := n4.len
              obtain ⟨b3, o3, c, rfl, hb3, q1, q2, _, ⟨x4, rfl, hx4⟩, hc4⟩ := Wg.RowT.get n4 (k := 0) rfl
              have x0 := hc4 0 _ rfl
              have x3 := hc4 3 _ rfl
              obtain ⟨p4, c4, rfl⟩ := Wg.SelsE.len hx4
              simp only [Cp.tag, Cp.ids, Cp.classes, Cp.attrs, Cp.pss, Ps.kind, Ps.list, List.length_cons, List.length_nil, Nat.zero_mul, Nat.add_zero, Nat.zero_add] at y1 y2 y3 y4 y5 x0 x3 q1 hx4
              obtain ⟨W, hW⟩ : ∃ W, wr.alloc (.cells #[.string ⟨#[]⟩, .slice pi 0 ci, .slice pk 0 ck, .slice pa 0 ca, .slice (some ⟨b3, o3, none⟩) 1 cp] 40) = W := ⟨_, rfl⟩
              have b0 : Below wr.heap.size wr W := by rw [← hW]; exact (Below.refl _ wr).alloc (Nat.le_refl _) _
              have k0 : Blk W wr.heap.size 40 [.string ⟨#[]⟩, .slice pi 0 ci, .slice pk 0 ck, .slice pa 0 ca, .slice (some ⟨b3, o3, none⟩) 1 cp] := by
                rw [← hW]
                exact Blk.new wr 40 _
              have HX : Hid (Wg.SelsE d W.heap.size W (.slice p4 1 c4) [[(0, deepC up i)]]) := Wg.SelsE.next hx4 b0
              have z0' := (b0.cell (p := ⟨b, off, none⟩) hbn).trans z0
              have x0' := (b0.cell (p := ⟨b3, o3, none⟩) hb3).trans x0
              have x3' := (b0.cell (p := ⟨b3, o3 + 3, none⟩) hb3).trans x3
              have hc' := (b0.cell (p := ⟨bk, ob + i, none⟩) (Nat.lt_of_lt_of_le hbk bw.size)).trans hc
              have bW := below_next bw b0
              clear n1 n2 n3 n4 hcl hcell hc4 hx hx2 hx4 ecp x0 x3 hc bw b0
              rw [ei]
              have hii : (0 : Int) ≤ (i : Int) := by omega
              clear hji ei
              go_upto_region 19 with fail
              clear hW z0 y1 y2 y3 y4 y5
              obtain ⟨⟨s0, s1, s2, s3, s4⟩, _⟩ := blk5 k0
              unfold kindD at x0'
              cases u with
              | true =>
                simp only [if_true] at x0'
                go_wp2
                exact ⟨⟨i, by go_num, by omega, by rw [show 9 - (k - i) = d by omega]; exact HX, bW⟩, by simp [intOf]⟩
              | false =>
                simp only [Bool.false_eq_true, if_false] at x0'
                go_wp2
                exact ⟨⟨i, by go_num, by omega, by rw [show 9 - (k - i) = d by omega]; exact HX, bW⟩, by simp [intOf]⟩
        · cases hl.symm.trans hp
      · rw [if_neg h8] at hp
        have h8i : (8 : Int) < (k : Int) := by omega
        rcases hcs with ⟨l, x, hl, rfl, hx⟩ | ⟨_, rfl⟩
        · cases hl.symm.trans hp
        · clear hp
          go_wp2
          go_ret
          exact ⟨by show Ending.returned (Value.bool (!decide ((k : Int) ≤ 8))) = _; rw [show decide ((k : Int) ≤ 8) = false from decide_eq_false (by omega)]; rfl, b03⟩

theorem selDeep_met (os : Os) : laidMet Tryd.prog Rows.selDeepRow.laid ((laidIn (World.holding Tryd.prog os ⟨#[], #[], []⟩)).forCall (fun _ _ => 0) ⟨#[], #[.int .i64 0, .slice none 0 0], []⟩).memory :=
  laidMet_of_run' 8 (by kernel_rfl) (by kernel_rfl)
theorem selDeep_reads (os : Os) {H : Type} (enc : TypeId × Value → H) : ∃ places, DataW.whole enc Tryd.prog ((laidIn (World.holding Tryd.prog os ⟨#[], #[], []⟩)).forCall (fun _ _ => 0) ⟨#[], #[.int .i64 0, .slice none 0 0], []⟩).memory Tryd.f5.params.toList Rows.selDeepSpec.vars false (#[.int .i64 0, .slice none 0 0] : Array Value).toList 8 = some ([.lit (.int .i64 0), .nil], [], places) :=
  ⟨[], by kernel_rfl⟩

set_option maxRecDepth 100000 in
theorem selDeep_lifted (os : Os) (started : os.Started) (H : Type) (enc : TypeId × Value → H) (F : Stop.Interp) :
    ReturnsInHanded {} Tryd.checked os 5 .any ((OpenSpec.ofChange Rows.selDeepSpec).preRow enc Tryd.prog Tryd.f5 Rows.selDeepRow.domain false Rows.selDeepRow.laid) (((OpenSpec.ofChange Rows.selDeepSpec).at F).post enc Tryd.prog Tryd.f5 false true false false) := by
  obtain ⟨places, hx⟩ := selDeep_reads os enc
  refine returnsInHanded_of_row (C := Tryd.checked) (s := OpenSpec.ofChange Rows.selDeepSpec) ownNone started (by kernel_rfl) Tryd.func5
    (witness_row_at (enc := enc) (C := Tryd.checked) false (laidIn (World.holding Tryd.prog os ⟨#[], #[], []⟩)) #[.int .i64 0, .slice none 0 0] rfl (by kernel_rfl) (by kernel_rfl) (by kernel_rfl)
      (OpenSpec.preRow_of_cond 8 hx (by kernel_rfl) (fun k hk => by cases hk) (by kernel_rfl) (selDeep_met os))) ?_
  intro W base args ds gs before hval hW _ _ _ hL hS _
  have hW' := hW
  obtain ⟨p, q, hA0, hV, rfl, hfz, hnd⟩ := hW
  have hA : DataW.TrodAll enc Tryd.prog W 0 (fun _ => true) true Tryd.f5.params.toList args.toList ds p := hA0
  rw [Tryd.params5] at hA hval
  obtain ⟨v0, vs0, d0, ds0, p0, q0, hargs, rfl, rfl, h0, r0⟩ := trodAll_cons hA
  obtain ⟨v1, vs1, d1, ds1, p1, q1, rfl, rfl, rfl, h1, r1⟩ := trodAll_cons r0
  obtain ⟨rfl, rfl, rfl⟩ := trodAll_nil r1
  obtain rfl : args = #[v0, v1] := by cases args; simp_all
  obtain ⟨rfl, rfl⟩ := trodVars_none hV
  obtain ⟨a0, rfl, rfl, rfl, w0⟩ := open_int Tryd.underlying3 (hval 0 3 v0 rfl rfl) h0
  obtain ⟨a1, len1, cap1, rfl⟩ := okWide_slice Tryd.underlying35 (hval 1 35 v1 rfl rfl)
  have k1 := h1
  have lt1 : ∀ x ∈ p1, x.block < W.heap.size := by obtain ⟨m, hm⟩ := k1; exact DataW.trod_lt m _ _ _ hm
  obtain ⟨z1, w1⟩ := boolsAt_of_reads k1
  clear hA0
  refine (selDeep_walk W (tabs_of_laid hL hS) a0 w0 _ z1 w1).mono fun e W' ⟨he, bel⟩ => ?_
  subst he
  exact ⟨_, rfl, _, _, _, [], _, [], hW', trodAll_mk1 (shut_bool Tryd.underlying4 _), (trodAll_cons_mk (shut_int Tryd.underlying3 w0) (trodAll_cons_mk (Below.trod laidOut (by kernel_rfl) (of_decide_eq_true (by kernel_rfl)) k1 bel lt1) trodAll_mk0)), rfl, bel.frame _, fun h => by cases h⟩

theorem selDeep_said : Rows.SelDeepSaid :=
  OpenClaim.holds_of_cond 5 Tryd.f5 rfl rfl rfl rfl rfl rfl rfl ⟨rfl, rfl, rfl, rfl, rfl⟩ rfl rfl rfl rfl rfl (by kernel_rfl) Tryd.func5 (by kernel_rfl)
    (of_decide_eq_true (by kernel_rfl)) (by unfold Func.isWrapper; first | (rw [if_pos (by decide +kernel)]; kernel_rfl) | (rw [if_neg (by decide +kernel)]; exact ⟨rfl, rfl⟩))
    (fun os started H enc _ F => by rw [OpenClaim.pre_eq_preRow]; exact selDeep_lifted os started H enc F)

theorem selDeep_plain (f : FuncId) (fn : Func) (hf : Tryd.pinned.checked.prog.funcNamed "tapestrier/tapestrierlaw8.SelDeep" = some f) (hfn : Tryd.pinned.checked.prog.funcs[f]? = some fn) :
    false = Tryd.pinned.checked.prog.looks [] ∧ ∀ (j : Nat) t, fn.params[j]? = some t → Tryd.pinned.checked.prog.wantsStandIn t = false := by
  obtain rfl : f = 5 := Option.some.inj ((show Tryd.prog.funcNamed "tapestrier/tapestrierlaw8.SelDeep" = some 5 by kernel_rfl).symm.trans hf) |>.symm
  obtain rfl : fn = Tryd.f5 := (Option.some.inj (Tryd.func5.symm.trans hfn)).symm
  refine ⟨by kernel_rfl, fun j t ht => ?_⟩
  rw [Tryd.params5] at ht
  have hm : t ∈ [3, 35] := by simpa using Array.mem_of_getElem? ht
  have hall : ([3, 35].all fun u => !Tryd.prog.wantsStandIn u) = true := by kernel_rfl
  exact (show Tryd.prog.wantsStandIn t = false by simpa using List.all_eq_true.1 hall t hm)

theorem selDeep_card : Rows.SelDeepCardSaid :=
  Claim7.holds_tied_plain_at .later [] _ _ _ _ selDeep_said (fun _ h => by cases h) (by kernel_rfl) (fun _ h => by cases h) selDeep_row_tie rfl ⟨rfl, rfl⟩ (by kernel_rfl) rfl selDeep_plain (by kernel_rfl)
#print axioms selDeep_card


end Go.Proofs.YtdplmbifhknafaaDoor
