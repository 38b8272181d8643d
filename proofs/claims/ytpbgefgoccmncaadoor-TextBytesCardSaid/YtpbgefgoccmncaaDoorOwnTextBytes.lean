/- For every slice of integers: the law tapestrierlaw1.TextBytes returns true and leaves its argument as it was; conditions: the library's two UTF-8 tables hold what its text lays (the card ties them to the program's text). -/
import Derived.Laws.IdiomStrings
import Derived.Deep.RegionWith
import Derived.Deep.DeepCutAuto
import Derived.Deep.QuietTactic
import Derived.BigQuiet
import Derived.Test.YtpbgefgoccmncaaDoorBack
import Derived.Test.YtpbgefgoccmncaaDoorOpen
namespace Go.Proofs.YtpbgefgoccmncaaDoor
open Go Go.ChangeShapes Go.WideShapes Go.ChangeAt Go.RowKit

theorem below_of_drew {X Y : World} (b : Below X.drew.heap.size X.drew Y) : Below X.heap.size X Y := ⟨b.os, b.tape, b.output, b.size, b.block⟩

/-- What stands at one place of the list and of its points. -/
theorem both_cells {n₀ : Nat} {X : World} {p p3 : Option Addr} {cap cap3 : Nat} {l : List Int} (h : IntsAt n₀ X (.slice p l.length cap) l) (h3 : IntsAt n₀ X (.slice p3 (l.map fixC).length cap3) (l.map fixC)) (k : Nat) (hk : k < l.length) :
    ∃ bk off b3 o3 u, p = some ⟨bk, off, none⟩ ∧ p3 = some ⟨b3, o3, none⟩ ∧ X.cell? ⟨bk, off + k, none⟩ = some (.int .i64 u) ∧ X.cell? ⟨b3, o3 + k, none⟩ = some (.int .i64 (fixC u)) := by
  rcases h.cases with ⟨rfl, _⟩ | ⟨bk, off, c, e, _, _, _, hc⟩
  · simp at hk
  · cases e
    rcases h3.cases with ⟨h', _⟩ | ⟨b3, o3, c, e, _, _, _, hc3⟩
    · have := congrArg List.length h'
      simp at this
      subst this
      simp at hk
    · simp only [Value.slice.injEq] at e
      exact ⟨bk, off, b3, o3, l[k], rfl, e.1, hc k _ (List.getElem?_eq_getElem hk), hc3 k _ (by rw [List.getElem?_map, List.getElem?_eq_getElem hk]; rfl)⟩

/-- 'string(b)'. -/
theorem conv_str {n₀ : Nat} {X : World} {v : Value} {l : List UInt8} (h : BytesAt n₀ X v l) : (convert 22 9 v).run Tryd.prog X = .ok (.string ⟨l.toArray⟩) X := by
  rcases h with ⟨rfl, rfl | ⟨x, cap, rfl⟩⟩ | ⟨bk, off, cap, rfl, _, _, _, hc⟩
  · rw [run_convert_bytes_string X 22 9 5 none 0 0 Tryd.underlying22 Tryd.underlying5 Tryd.underlying9]
    rfl
  · exact run_convert_bytes_back X 22 9 5 x cap [] Tryd.underlying22 Tryd.underlying5 Tryd.underlying9 (fun j hj => by simp at hj)
  · refine run_convert_bytes_back X 22 9 5 ⟨bk, off, none⟩ cap l Tryd.underlying22 Tryd.underlying5 Tryd.underlying9 (fun j hj => ?_)
    rw [show (⟨bk, off, none⟩ : Addr).add j = ⟨bk, off + j, none⟩ from by
      cases j with
      | zero => rfl
      | succ j => simp [Addr.add]]
    exact hc j _ (List.getElem?_eq_getElem hj)

set_option maxRecDepth 100000 in
set_option maxHeartbeats 4000000 in
theorem textBytes_walk (w : World) (hT : Tabs w.heap.size w) (v : Value) (l : List Int) (hI : IntsAt w.heap.size w v l) :
    Calls Tryd.prog 4 #[v] w fun e w' => e = .returned (.bool true) ∧ Below w.heap.size w w' := by
  have h0 := alive_any w hT
  by_cases hlt : l.length ≤ 1000
  · have hel := encs_len l
    have hie := ipts_encs l
    have hi : ¬ (1000 : Int) < l.length := by omega
    have step : ∀ {x y : World}, Below w.heap.size w x → Below x.heap.size x y → Below w.heap.size w y := fun a b => a.trans (b.mono a.size)
    obtain ⟨p, cap, hv⟩ := hI.len
    subst hv
    go_enter Tryd.func4, Tryd.ntmps4
    go_wp2_with fail
    refine h0.mono ?_
    rintro e w1 ⟨rfl, b1⟩
    clear h0
    have I1 := (hI.below b1).mono b1.size
    have T1 := (hT.below b1).mono b1.size
    have c1 := bytes_any _ l w1 I1 (by omega)
    go_wp2_with fail
    refine c1.mono ?_
    clear c1
    rintro e w2 ⟨v2, rfl, r2, b2⟩
    have B2 := BytesAt.of_owns r2 rfl
    have T2 := (T1.below b2).mono b2.size
    have c2 := points_any _ (encs l) w2 B2 T2 (by omega)
    rw [hie] at c2
    clear hie r2
    go_wp2_with fail
    refine c2.mono ?_
    clear c2
    rintro e w3 ⟨v3, rfl, r3, b3⟩
    have I3 := IntsAt.of_owns r3 rfl
    rw [List.length_map] at r3
    obtain ⟨p3, cap3, rfl⟩ := I3.len
    have hl3 : (l.map fixC).length = l.length := List.length_map ..
    have B3 := (B2.below b3).mono b3.size
    have bb3 := step (step b1 b2) b3
    have J3 : IntsAt w3.drew.heap.size w3.drew (.slice p l.length cap) l := (hI.below bb3).mono bb3.size
    have E1 := conv_str (X := w3.drew) (show BytesAt w3.heap.size w3.drew v2 (encs l) from B3)
    have c4 := (refBytes_any _ l w3.drew J3 (by omega)).mono (R' := fun e w' => ∃ v4, e = .returned v4 ∧ (convert 22 9 v4).run Tryd.prog w' = .ok (.string ⟨(encs l).toArray⟩) w' ∧ (convert 22 9 v2).run Tryd.prog w' = .ok (.string ⟨(encs l).toArray⟩) w' ∧ Hid (Below w3.heap.size w3 w')) (fun e w' ⟨v4, he, r4, b4⟩ =>
      ⟨v4, he, conv_str (BytesAt.of_owns r4 rfl), conv_str (B3.below (below_of_drew b4)), below_of_drew b4⟩)
    clear r3 B2 B3 T1 T2 hT I1 J3
    generalize (⟨(encs l).toArray⟩ : ByteArray) = x at *
    rw [hl3]
    go_upto_region 6 with fail
    go_cut [33] (fun s33 wx => s33 = .bool false ∧ Below w3.heap.size w3 wx)
    case first =>
      go_region_with (go_at_call 16; refine c4.mono ?_; rintro e w4 ⟨v4, rfl, E2, E3, b4⟩)
      all_goals clear c4 E1 E2 E3 I3 hI hel hl3 step b1 b2 b3 bb3 hlt hi
      all_goals simp only [List.getElem_toArray, List.getElem_cons_succ, List.getElem_cons_zero, Act.put, List.setIfInBounds_toArray, List.set_cons_succ, List.set_cons_zero]
      all_goals (go_wp2_with fail; go_meet; exact ⟨rfl, b4⟩)
    case rest =>
      obtain ⟨rfl, b4⟩ := hcut
      have hbb := step bb3 b4
      have I4 := (hI.below hbb).mono hbb.size
      have I34 := (I3.below b4).mono b4.size
      clear E1 c4 I3 hI b1 b2 b3 bb3 b4
      go_wp2
      go_loopw [6] (fun i wr => ∃ k n : Nat, i = .int .i64 k ∧ k ≤ l.length ∧ wr = wc.drewN n) (fun i _ => l.length - (intOf i).toNat)
      case atStart => exact ⟨0, 0, rfl, Nat.zero_le _, rfl⟩
      case round =>
        obtain ⟨k, n, rfl, hk, rfl⟩ := hrel
        by_cases hkl : k < l.length
        · obtain ⟨bk, off, b3, o3, u, rfl, rfl, c0, c3⟩ := both_cells I4 I34 k hkl
          have hki : (k : Int) < (l.length : Int) := by omega
          clear I4 I34
          by_cases q1 : 0 ≤ u
          · by_cases q2 : u ≤ 1114111
            · by_cases q3 : u < 55296
              · rw [fixC_yes (rightB_true ⟨q1, q2, .inl q3⟩)] at c3
                go_wp2
                go_quiet (fail)
                go_wp2
                exact ⟨⟨k + 1, _, by go_num, by omega, rfl⟩, by simp [intOf]; omega⟩
              · by_cases q4 : 57343 < u
                · rw [fixC_yes (rightB_true ⟨q1, q2, .inr q4⟩)] at c3
                  go_wp2
                  go_quiet (fail)
                  go_wp2
                  exact ⟨⟨k + 1, _, by go_num, by omega, rfl⟩, by simp [intOf]; omega⟩
                · rw [fixC_no (rightB_false (by omega))] at c3
                  go_wp2
                  go_quiet (fail)
                  go_wp2
                  exact ⟨⟨k + 1, _, by go_num, by omega, rfl⟩, by simp [intOf]; omega⟩
            · rw [fixC_no (rightB_false (by omega))] at c3
              go_wp2
              go_quiet (fail)
              go_wp2
              exact ⟨⟨k + 1, _, by go_num, by omega, rfl⟩, by simp [intOf]; omega⟩
          · rw [fixC_no (rightB_false (by omega))] at c3
            go_wp2
            go_quiet (fail)
            go_wp2
            exact ⟨⟨k + 1, _, by go_num, by omega, rfl⟩, by simp [intOf]; omega⟩
        · have hki : ¬ (k : Int) < (l.length : Int) := by omega
          clear I4 I34
          go_wp2
          go_ret
          exact ⟨rfl, step hbb (below_drewN wc n)⟩
  · have hi : (1000 : Int) < l.length := by omega
    obtain ⟨p, cap, hv⟩ := hI.len
    subst hv
    clear hI hT
    go_enter Tryd.func4, Tryd.ntmps4
    go_wp2_with fail
    refine h0.mono ?_
    rintro e w1 ⟨rfl, b1⟩
    clear h0
    go_wp2
    go_ret
    exact ⟨rfl, b1⟩

theorem textBytes_met (os : Os) : laidMet Tryd.prog Rows.textBytesRow.laid ((laidIn (World.holding Tryd.prog os ⟨#[], #[], []⟩)).forCall (fun _ _ => 0) ⟨#[], #[.slice none 0 0], []⟩).memory :=
  laidMet_of_run' 8 (by kernel_rfl) (by kernel_rfl)
theorem textBytes_reads (os : Os) {H : Type} (enc : TypeId × Value → H) : ∃ places, DataW.whole enc Tryd.prog ((laidIn (World.holding Tryd.prog os ⟨#[], #[], []⟩)).forCall (fun _ _ => 0) ⟨#[], #[.slice none 0 0], []⟩).memory Tryd.f4.params.toList Rows.textBytesSpec.vars false (#[.slice none 0 0] : Array Value).toList 8 = some ([.nil], [], places) :=
  ⟨[], by kernel_rfl⟩

set_option maxRecDepth 100000 in
theorem textBytes_lifted (os : Os) (started : os.Started) (H : Type) (enc : TypeId × Value → H) (F : Stop.Interp) :
    ReturnsInHanded {} Tryd.checked os 4 .any ((OpenSpec.ofChange Rows.textBytesSpec).preRow enc Tryd.prog Tryd.f4 Rows.textBytesRow.domain false Rows.textBytesRow.laid) (((OpenSpec.ofChange Rows.textBytesSpec).at F).post enc Tryd.prog Tryd.f4 false true false false) := by
  obtain ⟨places, hx⟩ := textBytes_reads os enc
  refine returnsInHanded_of_row (C := Tryd.checked) (s := OpenSpec.ofChange Rows.textBytesSpec) ownNone started (by kernel_rfl) Tryd.func4
    (witness_row_at (enc := enc) (C := Tryd.checked) false (laidIn (World.holding Tryd.prog os ⟨#[], #[], []⟩)) #[.slice none 0 0] rfl (by kernel_rfl) (by kernel_rfl) (by kernel_rfl)
      (OpenSpec.preRow_of_cond 8 hx (by kernel_rfl) (fun k hk => by cases hk) (by kernel_rfl) (textBytes_met os))) ?_
  intro W base args ds gs before hval hW _ _ _ hL _ _
  have hW' := hW
  obtain ⟨p, q, hA0, hV, rfl, hfz, hnd⟩ := hW
  have hA : DataW.TrodAll enc Tryd.prog W 0 (fun _ => true) true Tryd.f4.params.toList args.toList ds p := hA0
  rw [Tryd.params4] at hA hval
  obtain ⟨v0, vs0, d0, ds0, p0, q0, hargs, rfl, rfl, h0, r0⟩ := trodAll_cons hA
  obtain ⟨rfl, rfl, rfl⟩ := trodAll_nil r0
  obtain rfl : args = #[v0] := by cases args; simp_all
  obtain ⟨rfl, rfl⟩ := trodVars_none hV
  obtain ⟨a0, len0, cap0, rfl⟩ := okWide_slice Tryd.underlying25 (hval 0 25 v0 rfl rfl)
  have k0 := h0
  have lt0 : ∀ x ∈ p0, x.block < W.heap.size := by obtain ⟨m, hm⟩ := k0; exact DataW.trod_lt m _ _ _ hm
  obtain ⟨z0, w0⟩ := intsAt_of_reads k0
  clear hA0
  refine (textBytes_walk W (tabs_of_laid hL) _ z0 w0).mono fun e W' ⟨he, bel⟩ => ?_
  subst he
  exact ⟨_, rfl, _, _, _, [], _, [], hW', trodAll_mk1 (shut_bool Tryd.underlying4 _), (trodAll_cons_mk (Below.trod laidOut (by kernel_rfl) (of_decide_eq_true (by kernel_rfl)) k0 bel lt0) trodAll_mk0), rfl, bel.frame _, fun h => by cases h⟩

theorem textBytes_said : Rows.TextBytesSaid :=
  OpenClaim.holds_of_cond 4 Tryd.f4 rfl rfl rfl rfl rfl rfl rfl ⟨rfl, rfl, rfl, rfl, rfl⟩ rfl rfl rfl rfl rfl (by kernel_rfl) Tryd.func4 (by kernel_rfl)
    (of_decide_eq_true (by kernel_rfl)) (by unfold Func.isWrapper; first | (rw [if_pos (by decide +kernel)]; kernel_rfl) | (rw [if_neg (by decide +kernel)]; exact ⟨rfl, rfl⟩))
    (fun os started H enc _ F => by rw [OpenClaim.pre_eq_preRow]; exact textBytes_lifted os started H enc F)

theorem textBytes_plain (f : FuncId) (fn : Func) (hf : Tryd.pinned.checked.prog.funcNamed "tapestrier/tapestrierlaw1.TextBytes" = some f) (hfn : Tryd.pinned.checked.prog.funcs[f]? = some fn) :
    false = Tryd.pinned.checked.prog.looks [] ∧ ∀ (j : Nat) t, fn.params[j]? = some t → Tryd.pinned.checked.prog.wantsStandIn t = false := by
  obtain rfl : f = 4 := Option.some.inj ((show Tryd.prog.funcNamed "tapestrier/tapestrierlaw1.TextBytes" = some 4 by kernel_rfl).symm.trans hf) |>.symm
  obtain rfl : fn = Tryd.f4 := (Option.some.inj (Tryd.func4.symm.trans hfn)).symm
  refine ⟨by kernel_rfl, fun j t ht => ?_⟩
  rw [Tryd.params4] at ht
  have hm : t ∈ [25] := by simpa using Array.mem_of_getElem? ht
  have hall : ([25].all fun u => !Tryd.prog.wantsStandIn u) = true := by kernel_rfl
  exact (show Tryd.prog.wantsStandIn t = false by simpa using List.all_eq_true.1 hall t hm)

theorem textBytes_card : Rows.TextBytesCardSaid :=
  Claim7.holds_tied_plain_at .later [] _ _ _ _ textBytes_said (fun _ h => by cases h) (by kernel_rfl) (fun _ h => by cases h) textBytes_row_tie rfl ⟨rfl, rfl⟩ (by kernel_rfl) rfl textBytes_plain (by kernel_rfl)
#print axioms textBytes_card

end Go.Proofs.YtpbgefgoccmncaaDoor
