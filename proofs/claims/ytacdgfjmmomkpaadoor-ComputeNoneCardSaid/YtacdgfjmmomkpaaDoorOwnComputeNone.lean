/- For every style above and every kind of nothing: the law tapestrierlaw16.ComputeNone returns true and leaves its arguments as they were; no condition (its card: the table of properties read off the program's text). -/
import Derived.Test.YtacdgfjmmomkpaaDoorCpAlive
namespace Go.Proofs.YtacdgfjmmomkpaaDoor
open Go Go.ChangeShapes Go.WideShapes Go.ChangeAt Go.RowKit Vl Cp

/-- The kind of a value where nothing is said. -/
def kindV (kind : Int) : Int := if kind = 0 then 0 else if kind = 1 then 9 else if kind = 2 then 7 else 8
def kindsV (c : Int) (m : Nat) (i : Nat) : Int := if i < m then c else 0
theorem none_plain (kind : Int) (s : Nat → Int) {p : Nat} (hp : p < 8) : ofV (kindsV (kindV kind) 8) (fun _ => 0) s p = if kind = 2 ∨ ((kind = 0 ∨ kind = 1) ∧ p < 3) then s p else rootV p := by
  have hk : ∀ q, q < 8 → kindsV (kindV kind) 8 q = kindV kind := fun q hq => if_pos hq
  have hcomp : ∀ em, compV p (kindV kind) 0 (s p) em = if kind = 2 ∨ ((kind = 0 ∨ kind = 1) ∧ p < 3) then s p else rootV p := fun em => by
    have hinh : inhV p = decide (p < 3) := by
      obtain rfl | rfl | rfl | rfl | rfl | rfl | rfl | rfl : p = 0 ∨ p = 1 ∨ p = 2 ∨ p = 3 ∨ p = 4 ∨ p = 5 ∨ p = 6 ∨ p = 7 := by omega
      all_goals kernel_rfl
    unfold compV rootV
    by_cases k0 : kind = 0
    · subst k0
      simp [kindV, ownV, hinh]
    · by_cases k1 : kind = 1
      · subst k1
        simp [kindV, ownV, hinh]
      · by_cases k2 : kind = 2
        · subst k2
          simp [kindV]
        · simp [kindV, k0, k1, k2]
  unfold ofV
  simp only [hk p hp]
  exact hcomp _

set_option maxRecDepth 100000 in
set_option maxHeartbeats 1000000 in
theorem computeNone_walk (w : World) (hP : PropsAt w.heap.size w) (s : Nat → Int) (kind : Int) (_wk : (Lit.int .i64 kind).wf = true) :
    Calls Tryd.prog 4 #[sty s, .int .i64 kind] w fun e w' => e = .returned (.bool true) ∧ Below w.heap.size w w' := by
  have HA : Hid (∀ X, Below w.heap.size w X → Calls Tryd.prog 8 #[] X fun e w' => e = .returned (.bool true) ∧ Below X.heap.size X w') := fun X hb => alive_any X (hP.next hb)
  have HR : Hid (∀ X, Below w.heap.size w X → Calls Tryd.prog 11 #[] X fun e w' => e = .returned (sty rootV) ∧ Below X.heap.size X w') := fun X hb => root_any X (hP.next hb)
  have HO : Hid (∀ (v : Value) (k n u : Nat → Int) (X : World), Below w.heap.size w X → ParAt X v u → Calls Tryd.prog 9 #[v, vls k n] X fun e w' => e = .returned (sty (ofV k n u)) ∧ Below X.heap.size X w') := fun v k n u X hb hv => of_any v k n u X (hP.next hb) hv
  clear hP
  have HV : Hid (∀ p, p < 8 → ofV (kindsV (kindV kind) 8) (fun _ => 0) s p = if kind = 2 ∨ ((kind = 0 ∨ kind = 1) ∧ p < 3) then s p else rootV p) := fun p hp => none_plain kind s hp
  obtain ⟨V, hV⟩ : ∃ V, ofV (kindsV (kindV kind) 8) (fun _ => 0) s = V := ⟨_, rfl⟩
  rw [hV] at HV
  have b0 : Below w.heap.size w (w.alloc (.cells #[.int .i64 (s 0), .int .i64 (s 1), .int .i64 (s 2), .int .i64 (s 3), .int .i64 (s 4), .int .i64 (s 5), .int .i64 (s 6), .int .i64 (s 7)] 23)) := (Below.refl _ w).alloc (Nat.le_refl _) _
  have kP : StyAt (w.alloc (.cells #[.int .i64 (s 0), .int .i64 (s 1), .int .i64 (s 2), .int .i64 (s 3), .int .i64 (s 4), .int .i64 (s 5), .int .i64 (s 6), .int .i64 (s 7)] 23)) w.heap.size s := StyAt.new w s
  go_enter Tryd.func4, Tryd.ntmps4
  go_upto_region 1 with fail
  generalize w.alloc _ = W at *
  have hc := HA.out W b0
  clear HA
  go_wp2_with fail
  refine hc.mono ?_
  clear hc
  rintro e w1 ⟨rfl, b1⟩
  replace kP := kP.next b1
  have bw := below_next b0 b1
  clear b0 b1
  have hPl := kP.lt
  have b2 : Below w1.heap.size w1 (w1.alloc (.cells #[.int .i64 0, .int .i64 0, .int .i64 0, .int .i64 0, .int .i64 0, .int .i64 0, .int .i64 0, .int .i64 0, .int .i64 0, .int .i64 0, .int .i64 0, .int .i64 0, .int .i64 0, .int .i64 0, .int .i64 0, .int .i64 0] 26)) := (Below.refl _ _).alloc (Nat.le_refl _) _
  have kV : ValAt (w1.alloc (.cells #[.int .i64 0, .int .i64 0, .int .i64 0, .int .i64 0, .int .i64 0, .int .i64 0, .int .i64 0, .int .i64 0, .int .i64 0, .int .i64 0, .int .i64 0, .int .i64 0, .int .i64 0, .int .i64 0, .int .i64 0, .int .i64 0] 26)) w1.heap.size (kindsV (kindV kind) 0) (fun _ => 0) := ValAt.new w1 (fun _ => 0) (fun _ => 0)
  replace kP := kP.next b2
  replace bw := below_next bw b2
  clear b2
  go_upto_region 3 with fail
  generalize w1.alloc _ = W1 at *
  generalize w1.heap.size = B at *
  have hBs := kV.lt
  have hBw : w.heap.size ≤ B := by omega
  go_wp2
  go_loopw [7] (fun i wr => ∃ p : Nat, i = .int .i64 p ∧ p ≤ 8 ∧ StyAt wr w.heap.size s ∧ ValAt wr B (kindsV (kindV kind) p) (fun _ => 0) ∧ Below w.heap.size w wr) (fun i _ => 8 - (intOf i).toNat)
  case atStart => exact ⟨0, rfl, by omega, kP, kV, bw⟩
  case round =>
    clear kP kV bw hBs
    obtain ⟨p, rfl, hp, kP, kV, bw⟩ := hrel
    by_cases hlt : p < 8
    · clear HV hV HO HR
      have hki : (p : Int) < 8 := by omega
      have hcell := (kV.cell hlt).1
      have hfz := kV.thaw (p * 2)
      have kV2 := (kV.putK hlt (kindV kind)).ext (k' := kindsV (kindV kind) (p + 1)) (n' := fun _ => 0) (fun i _ => ⟨by
        unfold kindsV putV
        by_cases e : i = p
        · subst e; simp
        · show (if i < p + 1 then kindV kind else 0) = if i = p then kindV kind else if i < p then kindV kind else 0
          rw [if_neg e]
          by_cases e1 : i < p
          · rw [if_pos e1, if_pos (by omega)]
          · rw [if_neg e1, if_neg (by omega)], rfl⟩)
      have kP2 := kP.set (by omega : w.heap.size ≠ B) (p * 2) (.int .i64 (kindV kind))
      have bw2 := below_grown bw (grown_set wr B (p * 2) (.int .i64 (kindV kind))) bw.size (by omega)
      by_cases k0 : kind = 0
      · subst k0
        have kV3 := kV.ext (k' := kindsV (kindV 0) (p + 1)) (n' := fun _ => 0) (fun i _ => ⟨by simp [kindsV, kindV], rfl⟩)
        clear kV kV2 kP2 bw2 hcell hfz
        go_wp2
        exact ⟨⟨p + 1, by go_num, by omega, kP, kV3, bw⟩, by simp [intOf]; omega⟩
      · clear kV kP bw
        by_cases k1 : kind = 1
        · subst k1
          have e9 : kindV 1 = 9 := rfl
          rw [e9] at kV2 kP2 bw2
          clear k0
          go_wp2
          exact ⟨⟨p + 1, by go_num, by omega, kP2, kV2, bw2⟩, by simp [intOf]; omega⟩
        · by_cases k2 : kind = 2
          · subst k2
            have e9 : kindV 2 = 7 := rfl
            rw [e9] at kV2 kP2 bw2
            clear k0 k1
            go_wp2
            exact ⟨⟨p + 1, by go_num, by omega, kP2, kV2, bw2⟩, by simp [intOf]; omega⟩
          · have e9 : kindV kind = 8 := by simp [kindV, k0, k1, k2]
            rw [e9] at kV2 kP2 bw2
            rw [e9]
            replace k0 : (kind == 0) = false := by simpa using k0
            replace k1 : (kind == 1) = false := by simpa using k1
            replace k2 : (kind == 2) = false := by simpa using k2
            go_wp2
            exact ⟨⟨p + 1, by go_num, by omega, kP2, kV2, bw2⟩, by simp [intOf]; omega⟩
    · have hki : ¬ (p : Int) < 8 := by omega
      obtain rfl : p = 8 := by omega
      clear hki hlt
      have hc : Calls Tryd.prog 9 #[.pointer (some ⟨w.heap.size, 0, none⟩), vls (kindsV (kindV kind) 8) (fun _ => 0)] wr fun e w' => e = .returned (sty V) ∧ Below wr.heap.size wr w' := by
        rw [← hV]
        exact HO.out _ _ _ s wr bw kP.par
      clear hV HO
      generalize kindsV (kindV kind) 8 = k at *
      obtain ⟨c0, c1, c2, c3, c4, c5, c6, c7, c8, c9, c10, c11, c12, c13, c14, c15⟩ := kV.cells
      clear kV
      go_wp2_with fail
      refine hc.mono ?_
      clear hc c0 c1 c2 c3 c4 c5 c6 c7 c8 c9 c10 c11 c12 c13 c14 c15
      rintro e w2 ⟨rfl, b2⟩
      have b3 : Below w2.heap.size w2 (w2.alloc (.cells (styL V).toArray 23)) := (Below.refl _ _).alloc (Nat.le_refl _) _
      have kS := StyAt.new w2 V
      simp only [styL] at kS b3
      replace kP := (kP.next b2).next b3
      replace bw := below_next (below_next bw b2) b3
      clear b2 b3
      go_upto_region 14 with fail
      generalize w2.alloc _ = W2 at *
      generalize w2.heap.size = S at *
      have hc := HR.out W2 bw
      clear HR
      go_wp2_with fail
      refine hc.mono ?_
      clear hc
      rintro e w3 ⟨rfl, b2⟩
      have b3 : Below w3.heap.size w3 (w3.alloc (.cells (styL rootV).toArray 23)) := (Below.refl _ _).alloc (Nat.le_refl _) _
      have kR := StyAt.new w3 rootV
      simp only [styL] at kR b3
      replace kP := (kP.next b2).next b3
      replace kS := (kS.next b2).next b3
      replace bw := below_next (below_next bw b2) b3
      clear b2 b3
      go_upto_region 15 with fail
      generalize w3.alloc _ = W3 at *
      generalize w3.heap.size = R at *
      go_wp2
      go_loopw [10] (fun i wr => ∃ p : Nat, i = .int .i64 p ∧ p ≤ 8 ∧ wr = W3) (fun i _ => 8 - (intOf i).toNat)
      case atStart => exact ⟨0, rfl, by omega, rfl⟩
      case round =>
        obtain ⟨p, rfl, hp, rfl⟩ := hrel
        by_cases hlt : p < 8
        · have hki : (p : Int) < 8 := by omega
          have hr := (kR.cell hlt).1
          have hs := (kS.cell hlt).1
          have hq := (kP.cell hlt).1
          rw [HV.out p hlt] at hs
          clear kR kS kP HV
          by_cases k2 : kind = 2
          · rw [if_pos (.inl k2)] at hs
            subst k2
            go_wp2
            exact ⟨⟨p + 1, by go_num, by omega, trivial⟩, by simp [intOf]; omega⟩
          · by_cases h3 : p < 3
            · have hk3 : (p : Int) < 3 := by omega
              by_cases k0 : kind = 0
              · rw [if_pos (.inr ⟨.inl k0, h3⟩)] at hs
                subst k0
                clear k2
                go_wp2
                exact ⟨⟨p + 1, by go_num, by omega, trivial⟩, by simp [intOf]; omega⟩
              · by_cases k1 : kind = 1
                · rw [if_pos (.inr ⟨.inr k1, h3⟩)] at hs
                  subst k1
                  clear k2 k0
                  go_wp2
                  exact ⟨⟨p + 1, by go_num, by omega, trivial⟩, by simp [intOf]; omega⟩
                · rw [if_neg (by rintro (h | ⟨h | h, _⟩) <;> contradiction)] at hs
                  replace k0 : (kind == 0) = false := by simpa using k0
                  replace k1 : (kind == 1) = false := by simpa using k1
                  replace k2 : (kind == 2) = false := by simpa using k2
                  go_wp2
                  exact ⟨⟨p + 1, by go_num, by omega, trivial⟩, by simp [intOf]; omega⟩
            · have hk3 : ¬ (p : Int) < 3 := by omega
              rw [if_neg (by rintro (h | ⟨_, h⟩) <;> contradiction)] at hs
              clear h3
              replace k2 : (kind == 2) = false := by simpa using k2
              by_cases k0 : kind = 0
              · subst k0
                clear k2
                go_wp2
                exact ⟨⟨p + 1, by go_num, by omega, trivial⟩, by simp [intOf]; omega⟩
              · replace k0 : (kind == 0) = false := by simpa using k0
                by_cases k1 : kind = 1
                · subst k1
                  clear k2 k0
                  go_wp2
                  exact ⟨⟨p + 1, by go_num, by omega, trivial⟩, by simp [intOf]; omega⟩
                · replace k1 : (kind == 1) = false := by simpa using k1
                  go_wp2
                  exact ⟨⟨p + 1, by go_num, by omega, trivial⟩, by simp [intOf]; omega⟩
        · have hki : ¬ (p : Int) < 8 := by omega
          clear HV kP kS kR
          go_wp2
          go_ret
          exact ⟨rfl, bw⟩

theorem computeNone_met (os : Os) : laidMet Tryd.prog Rows.computeNoneRow.laid ((laidIn (World.holding Tryd.prog os ⟨#[], #[], []⟩)).forCall (fun _ _ => 0) ⟨#[], #[.agg #[.int .i64 0, .int .i64 0, .int .i64 0, .int .i64 0, .int .i64 0, .int .i64 0, .int .i64 0, .int .i64 0], .int .i64 0], []⟩).memory :=
  laidMet_of_run' 8 (by kernel_rfl) (by kernel_rfl)
theorem computeNone_reads (os : Os) {H : Type} (enc : TypeId × Value → H) : ∃ places, DataW.whole enc Tryd.prog ((laidIn (World.holding Tryd.prog os ⟨#[], #[], []⟩)).forCall (fun _ _ => 0) ⟨#[], #[.agg #[.int .i64 0, .int .i64 0, .int .i64 0, .int .i64 0, .int .i64 0, .int .i64 0, .int .i64 0, .int .i64 0], .int .i64 0], []⟩).memory Tryd.f4.params.toList Rows.computeNoneSpec.vars false (#[.agg #[.int .i64 0, .int .i64 0, .int .i64 0, .int .i64 0, .int .i64 0, .int .i64 0, .int .i64 0, .int .i64 0], .int .i64 0] : Array Value).toList 8 = some ([.agg [.lit (.int .i64 0), .lit (.int .i64 0), .lit (.int .i64 0), .lit (.int .i64 0), .lit (.int .i64 0), .lit (.int .i64 0), .lit (.int .i64 0), .lit (.int .i64 0)], .lit (.int .i64 0)], [], places) :=
  ⟨[], by kernel_rfl⟩

set_option maxRecDepth 100000 in
theorem computeNone_lifted (os : Os) (started : os.Started) (H : Type) (enc : TypeId × Value → H) (F : Stop.Interp) :
    ReturnsInHanded {} Tryd.checked os 4 .any ((OpenSpec.ofChange Rows.computeNoneSpec).preRow enc Tryd.prog Tryd.f4 Rows.computeNoneRow.domain false Rows.computeNoneRow.laid) (((OpenSpec.ofChange Rows.computeNoneSpec).at F).post enc Tryd.prog Tryd.f4 false true false false) := by
  obtain ⟨places, hx⟩ := computeNone_reads os enc
  refine returnsInHanded_of_row (C := Tryd.checked) (s := OpenSpec.ofChange Rows.computeNoneSpec) ownNone started (by kernel_rfl) Tryd.func4
    (witness_row_at (enc := enc) (C := Tryd.checked) false (laidIn (World.holding Tryd.prog os ⟨#[], #[], []⟩)) #[.agg #[.int .i64 0, .int .i64 0, .int .i64 0, .int .i64 0, .int .i64 0, .int .i64 0, .int .i64 0, .int .i64 0], .int .i64 0] rfl (by kernel_rfl) (by kernel_rfl) (by kernel_rfl)
      (OpenSpec.preRow_of_cond 8 hx (by kernel_rfl) (fun k hk => by cases hk) (by kernel_rfl) (computeNone_met os))) ?_
  intro W base args ds gs before hval hW _ _ _ hL hS _
  have hW' := hW
  obtain ⟨p, q, hA0, hV, rfl, hfz, hnd⟩ := hW
  have hA : DataW.TrodAll enc Tryd.prog W 0 (fun _ => true) true Tryd.f4.params.toList args.toList ds p := hA0
  rw [Tryd.params4] at hA hval
  obtain ⟨v0, vs0, d0, ds0, p0, q0, hargs, rfl, rfl, h0, r0⟩ := trodAll_cons hA
  obtain ⟨v1, vs1, d1, ds1, p1, q1, rfl, rfl, rfl, h1, r1⟩ := trodAll_cons r0
  obtain ⟨rfl, rfl, rfl⟩ := trodAll_nil r1
  obtain rfl : args = #[v0, v1] := by cases args; simp_all
  obtain ⟨rfl, rfl⟩ := trodVars_none hV
  have k0 := h0
  have lt0 : ∀ x ∈ p0, x.block < W.heap.size := by obtain ⟨m, hm⟩ := k0; exact DataW.trod_lt m _ _ _ hm
  obtain ⟨z0, hz0⟩ := style_of_reads k0 (hval 0 23 v0 rfl rfl)
  subst hz0
  obtain ⟨a1, rfl, rfl, rfl, w1⟩ := open_int Tryd.underlying3 (hval 1 3 v1 rfl rfl) h1
  clear hA0
  refine (computeNone_walk W (tabs_of_laid hL hS) z0 a1 w1).mono fun e W' ⟨he, bel⟩ => ?_
  subst he
  exact ⟨_, rfl, _, _, _, [], _, [], hW', trodAll_mk1 (shut_bool Tryd.underlying4 _), (trodAll_cons_mk (Below.trod laidOut (by kernel_rfl) (of_decide_eq_true (by kernel_rfl)) k0 bel lt0) (trodAll_cons_mk (shut_int Tryd.underlying3 w1) trodAll_mk0)), rfl, bel.frame _, fun h => by cases h⟩

theorem computeNone_said : Rows.ComputeNoneSaid :=
  OpenClaim.holds_of_cond 4 Tryd.f4 rfl rfl rfl rfl rfl rfl rfl ⟨rfl, rfl, rfl, rfl, rfl⟩ rfl rfl rfl rfl rfl (by kernel_rfl) Tryd.func4 (by kernel_rfl)
    (of_decide_eq_true (by kernel_rfl)) (by unfold Func.isWrapper; first | (rw [if_pos (by decide +kernel)]; kernel_rfl) | (rw [if_neg (by decide +kernel)]; exact ⟨rfl, rfl⟩))
    (fun os started H enc _ F => by rw [OpenClaim.pre_eq_preRow]; exact computeNone_lifted os started H enc F)

theorem computeNone_plain (f : FuncId) (fn : Func) (hf : Tryd.pinned.checked.prog.funcNamed "tapestrier/tapestrierlaw16.ComputeNone" = some f) (hfn : Tryd.pinned.checked.prog.funcs[f]? = some fn) :
    false = Tryd.pinned.checked.prog.looks [] ∧ ∀ (j : Nat) t, fn.params[j]? = some t → Tryd.pinned.checked.prog.wantsStandIn t = false := by
  obtain rfl : f = 4 := Option.some.inj ((show Tryd.prog.funcNamed "tapestrier/tapestrierlaw16.ComputeNone" = some 4 by kernel_rfl).symm.trans hf) |>.symm
  obtain rfl : fn = Tryd.f4 := (Option.some.inj (Tryd.func4.symm.trans hfn)).symm
  refine ⟨by kernel_rfl, fun j t ht => ?_⟩
  rw [Tryd.params4] at ht
  have hm : t ∈ [23, 3] := by simpa using Array.mem_of_getElem? ht
  have hall : ([23, 3].all fun u => !Tryd.prog.wantsStandIn u) = true := by kernel_rfl
  exact (show Tryd.prog.wantsStandIn t = false by simpa using List.all_eq_true.1 hall t hm)

theorem computeNone_card : Rows.ComputeNoneCardSaid :=
  Claim7.holds_tied_plain_at .later [] _ _ _ _ computeNone_said (fun _ h => by cases h) (by kernel_rfl) (fun _ h => by cases h) computeNone_row_tie rfl ⟨rfl, rfl⟩ (by kernel_rfl) rfl computeNone_plain (by kernel_rfl)
#print axioms computeNone_card

end Go.Proofs.YtacdgfjmmomkpaaDoor
