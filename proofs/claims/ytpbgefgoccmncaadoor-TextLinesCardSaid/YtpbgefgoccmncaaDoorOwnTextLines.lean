/- For every slice of bytes: the law tapestrierlaw1.TextLines returns true and leaves its argument as it was; conditions: the library's two UTF-8 tables hold what its text lays (the card ties them to the program's text). -/
import Derived.Test.YtpbgefgoccmncaaDoorBack
import Derived.Test.YtpbgefgoccmncaaDoorOpen
namespace Go.Proofs.YtpbgefgoccmncaaDoor
open Go Go.ChangeShapes Go.WideShapes Go.ChangeAt Go.RowKit

set_option maxRecDepth 100000 in
set_option maxHeartbeats 2000000 in
theorem textLines_walk (w : World) (hT : Tabs w.heap.size w) (v : Value) (bs : List UInt8) (hB : BytesAt w.heap.size w v bs) :
    Calls Tryd.prog 6 #[v] w fun e w' => e = .returned (.bool true) ∧ Below w.heap.size w w' := by
  have h0 := alive_any w hT
  by_cases hlt : bs.length ≤ 2000
  · have hll := ipts_length_le bs
    have hpl := prep_length_le (ipts bs)
    have hm : bs.length * 8 ≤ 281474976710656 := by omega
    have hpb := prep_back bs
    have hcl := prepared_clean bs
    have hcc : ∀ w, BytesAt w.heap.size w v bs → Tabs w.heap.size w → _ := fun w a b => prepare_any v bs w a b hm
    obtain ⟨p, cap, hv, _⟩ := hB.len
    have hle : (prep (ipts bs)).length ≤ bs.length := by omega
    generalize prep (ipts bs) = l at *
    have hlm : l.length ≤ maxLen := by unfold maxLen; omega
    have hel := encs_len l
    have hi : ¬ (2000 : Int) < bs.length := by omega
    have step : ∀ {x y : World}, Below w.heap.size w x → Below x.heap.size x y → Below w.heap.size w y := fun a b => a.trans (b.mono a.size)
    subst hv
    clear hll hpl
    go_enter Tryd.func6, Tryd.ntmps6
    go_wp2_with fail
    refine h0.mono ?_
    rintro e w1 ⟨rfl, b1⟩
    clear h0
    have B1 := (hB.below b1).mono b1.size
    have T1 := (hT.below b1).mono b1.size
    have c1 := hcc w1 B1 T1
    clear hcc
    go_wp2_with fail
    refine c1.mono ?_
    clear c1
    rintro e w2 ⟨v2, rfl, r2, b2⟩
    have T2 := (T1.below b2).mono b2.size
    have I2 := IntsAt.of_owns r2 rfl
    clear r2
    obtain ⟨p2, cap2, rfl⟩ := I2.len
    go_wp2
    go_loop [5] (fun i => ∃ k : Nat, i = .int .i64 k ∧ k ≤ l.length) (fun i => l.length - (intOf i).toNat)
    case atStart => exact ⟨0, rfl, Nat.zero_le _⟩
    case round =>
      obtain ⟨k, rfl, hk⟩ := hrel
      by_cases hkl : k < l.length
      · obtain ⟨bk, off, hp, hcells⟩ : ∃ bk off, p2 = some ⟨bk, off, none⟩ ∧ ∀ j u, l[j]? = some u → w2.cell? ⟨bk, off + j, none⟩ = some (.int .i64 u) := by
          rcases I2 with ⟨rfl, _⟩ | ⟨bk, off, c, e, e1, e2, e3, h⟩
          · simp at hkl
          · cases e; exact ⟨bk, off, rfl, h⟩
        subst hp
        have c0 := hcells k _ (List.getElem?_eq_getElem hkl)
        obtain ⟨q1, q2, q3, q4⟩ := hcl l[k] (List.getElem_mem hkl)
        generalize l[k] = u at *
        have e1 : (u == 13) = false := by simpa using q1
        have e2 : (u == 12) = false := by simpa using q2
        have e3 : ¬ u ≤ 0 := by omega
        have hki : (k : Int) < (l.length : Int) := by omega
        clear hcells I2 hcl hpb q1 q2 q3 q4
        go_wp2
        exact ⟨⟨k + 1, by go_num, by omega⟩, by simp [intOf]; omega⟩
      · have hki : ¬ (k : Int) < (l.length : Int) := by omega
        have hli : (l.length : Int) ≤ (bs.length : Int) := by omega
        have HP : Hid (_ = _) := hpb
        have c3 := bytes_any _ l w2 I2 (by omega)
        clear hpb hcl
        go_wp2_with fail
        refine c3.mono ?_
        clear c3
        rintro e w3 ⟨v3, rfl, r3, b3⟩
        have B3 := BytesAt.of_owns r3 rfl
        have T3 := (T2.below b3).mono b3.size
        have I3 := (I2.below b3).mono b3.size
        have c4 := prepare_any _ (encs l) w3 B3 T3 (by omega)
        rw [show prep (ipts (encs l)) = l from HP] at c4
        clear r3
        go_wp2_with fail
        refine c4.mono ?_
        clear c4
        rintro e w4 ⟨v4, rfl, r4, b4⟩
        have I4 := IntsAt.of_owns r4 rfl
        have c5 := same_yes _ _ l w4 I4 ((I3.below b4).mono b4.size) hlm
        clear r4
        go_wp2_with fail
        refine c5.mono ?_
        clear c5
        rintro e w5 ⟨rfl, n5, rfl⟩
        have b5 := below_drewN w4 n5
        have hbb := step (step (step (step b1 b2) b3) b4) b5
        generalize w4.drewN n5 = w5 at *
        go_wp2
        go_ret
        exact ⟨rfl, hbb⟩
  · have hi : (2000 : Int) < bs.length := by omega
    obtain ⟨p, cap, hv, _⟩ := hB.len
    subst hv
    clear hB hT
    go_enter Tryd.func6, Tryd.ntmps6
    go_wp2_with fail
    refine h0.mono ?_
    rintro e w1 ⟨rfl, b1⟩
    clear h0
    go_wp2
    go_ret
    exact ⟨rfl, b1⟩

theorem textLines_met (os : Os) : laidMet Tryd.prog Rows.textLinesRow.laid ((laidIn (World.holding Tryd.prog os ⟨#[], #[], []⟩)).forCall (fun _ _ => 0) ⟨#[], #[.slice none 0 0], []⟩).memory :=
  laidMet_of_run' 8 (by kernel_rfl) (by kernel_rfl)
theorem textLines_reads (os : Os) {H : Type} (enc : TypeId × Value → H) : ∃ places, DataW.whole enc Tryd.prog ((laidIn (World.holding Tryd.prog os ⟨#[], #[], []⟩)).forCall (fun _ _ => 0) ⟨#[], #[.slice none 0 0], []⟩).memory Tryd.f6.params.toList Rows.textLinesSpec.vars false (#[.slice none 0 0] : Array Value).toList 8 = some ([.nil], [], places) :=
  ⟨[], by kernel_rfl⟩

set_option maxRecDepth 100000 in
theorem textLines_lifted (os : Os) (started : os.Started) (H : Type) (enc : TypeId × Value → H) (F : Stop.Interp) :
    ReturnsInHanded {} Tryd.checked os 6 .any ((OpenSpec.ofChange Rows.textLinesSpec).preRow enc Tryd.prog Tryd.f6 Rows.textLinesRow.domain false Rows.textLinesRow.laid) (((OpenSpec.ofChange Rows.textLinesSpec).at F).post enc Tryd.prog Tryd.f6 false true false false) := by
  obtain ⟨places, hx⟩ := textLines_reads os enc
  refine returnsInHanded_of_row (C := Tryd.checked) (s := OpenSpec.ofChange Rows.textLinesSpec) ownNone started (by kernel_rfl) Tryd.func6
    (witness_row_at (enc := enc) (C := Tryd.checked) false (laidIn (World.holding Tryd.prog os ⟨#[], #[], []⟩)) #[.slice none 0 0] rfl (by kernel_rfl) (by kernel_rfl) (by kernel_rfl)
      (OpenSpec.preRow_of_cond 8 hx (by kernel_rfl) (fun k hk => by cases hk) (by kernel_rfl) (textLines_met os))) ?_
  intro W base args ds gs before hval hW _ _ _ hL _ _
  have hW' := hW
  obtain ⟨p, q, hA0, hV, rfl, hfz, hnd⟩ := hW
  have hA : DataW.TrodAll enc Tryd.prog W 0 (fun _ => true) true Tryd.f6.params.toList args.toList ds p := hA0
  rw [Tryd.params6] at hA hval
  obtain ⟨v0, vs0, d0, ds0, p0, q0, hargs, rfl, rfl, h0, r0⟩ := trodAll_cons hA
  obtain ⟨rfl, rfl, rfl⟩ := trodAll_nil r0
  obtain rfl : args = #[v0] := by cases args; simp_all
  obtain ⟨rfl, rfl⟩ := trodVars_none hV
  obtain ⟨a0, len0, cap0, rfl⟩ := okWide_slice Tryd.underlying22 (hval 0 22 v0 rfl rfl)
  have k0 := h0
  have lt0 : ∀ x ∈ p0, x.block < W.heap.size := by obtain ⟨m, hm⟩ := k0; exact DataW.trod_lt m _ _ _ hm
  obtain ⟨z0, w0⟩ := bytesAt_of_reads k0
  clear hA0
  refine (textLines_walk W (tabs_of_laid hL) _ z0 w0).mono fun e W' ⟨he, bel⟩ => ?_
  subst he
  exact ⟨_, rfl, _, _, _, [], _, [], hW', trodAll_mk1 (shut_bool Tryd.underlying4 _), (trodAll_cons_mk (Below.trod laidOut (by kernel_rfl) (of_decide_eq_true (by kernel_rfl)) k0 bel lt0) trodAll_mk0), rfl, bel.frame _, fun h => by cases h⟩

theorem textLines_said : Rows.TextLinesSaid :=
  OpenClaim.holds_of_cond 6 Tryd.f6 rfl rfl rfl rfl rfl rfl rfl ⟨rfl, rfl, rfl, rfl, rfl⟩ rfl rfl rfl rfl rfl (by kernel_rfl) Tryd.func6 (by kernel_rfl)
    (of_decide_eq_true (by kernel_rfl)) (by unfold Func.isWrapper; first | (rw [if_pos (by decide +kernel)]; kernel_rfl) | (rw [if_neg (by decide +kernel)]; exact ⟨rfl, rfl⟩))
    (fun os started H enc _ F => by rw [OpenClaim.pre_eq_preRow]; exact textLines_lifted os started H enc F)

theorem textLines_plain (f : FuncId) (fn : Func) (hf : Tryd.pinned.checked.prog.funcNamed "tapestrier/tapestrierlaw1.TextLines" = some f) (hfn : Tryd.pinned.checked.prog.funcs[f]? = some fn) :
    false = Tryd.pinned.checked.prog.looks [] ∧ ∀ (j : Nat) t, fn.params[j]? = some t → Tryd.pinned.checked.prog.wantsStandIn t = false := by
  obtain rfl : f = 6 := Option.some.inj ((show Tryd.prog.funcNamed "tapestrier/tapestrierlaw1.TextLines" = some 6 by kernel_rfl).symm.trans hf) |>.symm
  obtain rfl : fn = Tryd.f6 := (Option.some.inj (Tryd.func6.symm.trans hfn)).symm
  refine ⟨by kernel_rfl, fun j t ht => ?_⟩
  rw [Tryd.params6] at ht
  have hm : t ∈ [22] := by simpa using Array.mem_of_getElem? ht
  have hall : ([22].all fun u => !Tryd.prog.wantsStandIn u) = true := by kernel_rfl
  exact (show Tryd.prog.wantsStandIn t = false by simpa using List.all_eq_true.1 hall t hm)

theorem textLines_card : Rows.TextLinesCardSaid :=
  Claim7.holds_tied_plain_at .later [] _ _ _ _ textLines_said (fun _ h => by cases h) (by kernel_rfl) (fun _ h => by cases h) textLines_row_tie rfl ⟨rfl, rfl⟩ (by kernel_rfl) rfl textLines_plain (by kernel_rfl)
#print axioms textLines_card

end Go.Proofs.YtpbgefgoccmncaaDoor
