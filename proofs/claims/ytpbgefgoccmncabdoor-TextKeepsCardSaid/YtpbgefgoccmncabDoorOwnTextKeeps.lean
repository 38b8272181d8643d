/- For every slice of bytes: the law tapestrierlaw1.TextKeeps returns true and leaves its argument as it was; conditions: the library's two UTF-8 tables hold what its text lays (the card ties them to the program's text). -/
import Derived.Test.YtpbgefgoccmncabDoorBack
import Derived.Test.YtpbgefgoccmncabDoorOpen
namespace Go.Proofs.YtpbgefgoccmncabDoor
open Go Go.ChangeShapes Go.WideShapes Go.ChangeAt Go.RowKit
open Go.Lib (decodeN)

theorem decodeN_small (n b0 b1 b2 b3 : Nat) (h : (decodeN n b0 b1 b2 b3).1 < 128) : (decodeN n b0 b1 b2 b3).1 = b0 := by
  revert h
  unfold decodeN
  repeat' split
  all_goals first | (intro h; exfalso; simp only at h; omega) | exact fun _ => rfl
theorem ipts_small_aux : ∀ (f : Nat) (l : List UInt8), l.length ≤ f → ∀ p ∈ ipts l, p < 128 → ∃ u ∈ l, p = (u.toNat : Int)
  | 0, l, h => by
    obtain rfl : l = [] := List.length_eq_zero_iff.1 (by omega)
    simp [ipts]
  | f + 1, l, h => by
    by_cases e : l = []
    · simp [e, ipts]
    · have hb := dec_bounds e
      rw [ipts_cons e]
      intro p hp hs
      rcases List.mem_cons.1 hp with rfl | hp
      · rw [dec_eq e] at hs ⊢
        have := decodeN_small _ _ _ _ _ (by omega : (decodeN l.length (l[0]?.getD 0).toNat (l[1]?.getD 0).toNat (l[2]?.getD 0).toNat (l[3]?.getD 0).toNat).1 < 128)
        have hpos := List.length_pos_iff.2 e
        refine ⟨l[0], List.getElem_mem hpos, ?_⟩
        rw [this, List.getElem?_eq_getElem hpos]
        rfl
      · obtain ⟨u, hu, e'⟩ := ipts_small_aux f (l.drop (dec l).2) (by simp; omega) p hp hs
        exact ⟨u, List.mem_of_mem_drop hu, e'⟩
/-- Bytes of which none is 0, 12 or 13 are prepared as they are. -/
theorem prep_keeps (bs : List UInt8) (h : ∀ u ∈ bs, u.toNat ≠ 0 ∧ u.toNat ≠ 12 ∧ u.toNat ≠ 13) : prep (ipts bs) = ipts bs := by
  refine prep_same _ (fun p hp => ?_)
  by_cases hs : p < 128
  · obtain ⟨u, hu, rfl⟩ := ipts_small_aux _ bs (Nat.le_refl _) p hp hs
    have := h u hu
    omega
  · omega

set_option maxRecDepth 100000 in
set_option maxHeartbeats 2000000 in
theorem textKeeps_walk (w : World) (hT : Tabs w.heap.size w) (v : Value) (bs : List UInt8) (hB : BytesAt w.heap.size w v bs) :
    Calls Tryd.prog 3 #[v] w fun e w' => e = .returned (.bool true) ∧ Below w.heap.size w w' := by
  have h0 := alive_any w hT
  by_cases hlt : bs.length ≤ 1000
  · have hll := ipts_length_le bs
    have hi : ¬ (1000 : Int) < bs.length := by omega
    have step : ∀ {x y : World}, Below w.heap.size w x → Below x.heap.size x y → Below w.heap.size w y := fun a b => a.trans (b.mono a.size)
    obtain ⟨p, cap, hv, _⟩ := hB.len
    subst hv
    go_enter Tryd.func3, Tryd.ntmps3
    go_wp2_with fail
    refine h0.mono ?_
    rintro e w1 ⟨rfl, b1⟩
    clear h0
    have B1 := (hB.below b1).mono b1.size
    have T1 := (hT.below b1).mono b1.size
    clear hB hT
    go_wp2
    go_loop [4] (fun i => ∃ k : Nat, i = .int .i64 k ∧ k ≤ bs.length ∧ ∀ u ∈ bs.take k, u.toNat ≠ 0 ∧ u.toNat ≠ 12 ∧ u.toNat ≠ 13) (fun i => bs.length - (intOf i).toNat)
    case atStart => exact ⟨0, rfl, Nat.zero_le _, by simp⟩
    case round =>
      obtain ⟨k, rfl, hk, hpre⟩ := hrel
      by_cases hkl : k < bs.length
      · obtain ⟨bk, off, hp, hcells⟩ : ∃ bk off, p = some ⟨bk, off, none⟩ ∧ ∀ j u, bs[j]? = some u → w1.cell? ⟨bk, off + j, none⟩ = some (.int .u8 u.toNat) := by
          rcases B1.cases with ⟨rfl, _⟩ | ⟨bk, off, c, e, e1, e2, e3, h⟩
          · simp at hkl
          · cases e; exact ⟨bk, off, rfl, h⟩
        subst hp
        have c0 := hcells k _ (List.getElem?_eq_getElem hkl)
        have hki : (k : Int) < (bs.length : Int) := by omega
        have hnext : (bs[k].toNat ≠ 0 ∧ bs[k].toNat ≠ 12 ∧ bs[k].toNat ≠ 13) → Hid (∀ u ∈ bs.take (k + 1), u.toNat ≠ 0 ∧ u.toNat ≠ 12 ∧ u.toNat ≠ 13) := fun hc => by
          rw [List.take_succ_eq_append_getElem hkl]
          intro u hu
          rcases List.mem_append.1 hu with h | h
          · exact hpre u h
          · rw [List.mem_singleton.1 h]; exact hc
        generalize bs[k].toNat = u at *
        clear hcells B1 T1 hpre
        by_cases q0 : u = 0
        · subst q0
          clear hnext
          go_wp2
          go_ret
          exact ⟨rfl, b1⟩
        · have e0 : ((u : Int) == 0) = false := by rw [beq_eq_false_iff_ne]; omega
          by_cases q12 : u = 12
          · subst q12
            clear hnext
            go_wp2
            go_ret
            exact ⟨rfl, b1⟩
          · have e12 : ((u : Int) == 12) = false := by rw [beq_eq_false_iff_ne]; omega
            by_cases q13 : u = 13
            · subst q13
              clear hnext
              go_wp2
              go_ret
              exact ⟨rfl, b1⟩
            · have e13 : ((u : Int) == 13) = false := by rw [beq_eq_false_iff_ne]; omega
              have HN := hnext ⟨q0, q12, q13⟩
              clear hnext
              go_wp2
              exact ⟨⟨k + 1, by go_num, by omega, HN⟩, by simp [intOf]; omega⟩
      · have hki : ¬ (k : Int) < (bs.length : Int) := by omega
        have he : bs.take k = bs := List.take_of_length_le (by omega)
        rw [he] at hpre
        have hpk := prep_keeps bs hpre
        have c2 := prepare_any _ bs w1 B1 T1 (by omega)
        rw [hpk] at c2
        clear hpre hpk he
        go_wp2_with fail
        refine c2.mono ?_
        clear c2
        rintro e w2 ⟨v2, rfl, r2, b2⟩
        have I2 := IntsAt.of_owns r2 rfl
        have c3 := points_any _ bs w2 ((B1.below b2).mono b2.size) ((T1.below b2).mono b2.size) (by omega)
        clear r2
        go_wp2_with fail
        refine c3.mono ?_
        clear c3
        rintro e w3 ⟨v3, rfl, r3, b3⟩
        have c4 := same_yes _ _ _ w3 ((I2.below b3).mono b3.size) (IntsAt.of_owns r3 rfl) (by unfold maxLen; omega)
        clear r3
        go_wp2_with fail
        refine c4.mono ?_
        clear c4
        rintro e w4 ⟨rfl, n4, rfl⟩
        have hbb := step (step (step b1 b2) b3) (below_drewN w3 n4)
        generalize w3.drewN n4 = w4 at *
        go_wp2
        go_ret
        exact ⟨rfl, hbb⟩
  · have hi : (1000 : Int) < bs.length := by omega
    obtain ⟨p, cap, hv, _⟩ := hB.len
    subst hv
    clear hB hT
    go_enter Tryd.func3, Tryd.ntmps3
    go_wp2_with fail
    refine h0.mono ?_
    rintro e w1 ⟨rfl, b1⟩
    clear h0
    go_wp2
    go_ret
    exact ⟨rfl, b1⟩

theorem textKeeps_met (os : Os) : laidMet Tryd.prog Rows.textKeepsRow.laid ((laidIn (World.holding Tryd.prog os ⟨#[], #[], []⟩)).forCall (fun _ _ => 0) ⟨#[], #[.slice none 0 0], []⟩).memory :=
  laidMet_of_run' 8 (by kernel_rfl) (by kernel_rfl)
theorem textKeeps_reads (os : Os) {H : Type} (enc : TypeId × Value → H) : ∃ places, DataW.whole enc Tryd.prog ((laidIn (World.holding Tryd.prog os ⟨#[], #[], []⟩)).forCall (fun _ _ => 0) ⟨#[], #[.slice none 0 0], []⟩).memory Tryd.f3.params.toList Rows.textKeepsSpec.vars false (#[.slice none 0 0] : Array Value).toList 8 = some ([.nil], [], places) :=
  ⟨[], by kernel_rfl⟩

set_option maxRecDepth 100000 in
theorem textKeeps_lifted (os : Os) (started : os.Started) (H : Type) (enc : TypeId × Value → H) (F : Stop.Interp) :
    ReturnsInHanded {} Tryd.checked os 3 .any ((OpenSpec.ofChange Rows.textKeepsSpec).preRow enc Tryd.prog Tryd.f3 Rows.textKeepsRow.domain false Rows.textKeepsRow.laid) (((OpenSpec.ofChange Rows.textKeepsSpec).at F).post enc Tryd.prog Tryd.f3 false true false false) := by
  obtain ⟨places, hx⟩ := textKeeps_reads os enc
  refine returnsInHanded_of_row (C := Tryd.checked) (s := OpenSpec.ofChange Rows.textKeepsSpec) ownNone started (by kernel_rfl) Tryd.func3
    (witness_row_at (enc := enc) (C := Tryd.checked) false (laidIn (World.holding Tryd.prog os ⟨#[], #[], []⟩)) #[.slice none 0 0] rfl (by kernel_rfl) (by kernel_rfl) (by kernel_rfl)
      (OpenSpec.preRow_of_cond 8 hx (by kernel_rfl) (fun k hk => by cases hk) (by kernel_rfl) (textKeeps_met os))) ?_
  intro W base args ds gs before hval hW _ _ _ hL _ _
  have hW' := hW
  obtain ⟨p, q, hA0, hV, rfl, hfz, hnd⟩ := hW
  have hA : DataW.TrodAll enc Tryd.prog W 0 (fun _ => true) true Tryd.f3.params.toList args.toList ds p := hA0
  rw [Tryd.params3] at hA hval
  obtain ⟨v0, vs0, d0, ds0, p0, q0, hargs, rfl, rfl, h0, r0⟩ := trodAll_cons hA
  obtain ⟨rfl, rfl, rfl⟩ := trodAll_nil r0
  obtain rfl : args = #[v0] := by cases args; simp_all
  obtain ⟨rfl, rfl⟩ := trodVars_none hV
  obtain ⟨a0, len0, cap0, rfl⟩ := okWide_slice Tryd.underlying22 (hval 0 22 v0 rfl rfl)
  have k0 := h0
  have lt0 : ∀ x ∈ p0, x.block < W.heap.size := by obtain ⟨m, hm⟩ := k0; exact DataW.trod_lt m _ _ _ hm
  obtain ⟨z0, w0⟩ := bytesAt_of_reads k0
  clear hA0
  refine (textKeeps_walk W (tabs_of_laid hL) _ z0 w0).mono fun e W' ⟨he, bel⟩ => ?_
  subst he
  exact ⟨_, rfl, _, _, _, [], _, [], hW', trodAll_mk1 (shut_bool Tryd.underlying4 _), (trodAll_cons_mk (Below.trod laidOut (by kernel_rfl) (of_decide_eq_true (by kernel_rfl)) k0 bel lt0) trodAll_mk0), rfl, bel.frame _, fun h => by cases h⟩

theorem textKeeps_said : Rows.TextKeepsSaid :=
  OpenClaim.holds_of_cond 3 Tryd.f3 rfl rfl rfl rfl rfl rfl rfl ⟨rfl, rfl, rfl, rfl, rfl⟩ rfl rfl rfl rfl rfl (by kernel_rfl) Tryd.func3 (by kernel_rfl)
    (of_decide_eq_true (by kernel_rfl)) (by unfold Func.isWrapper; first | (rw [if_pos (by decide +kernel)]; kernel_rfl) | (rw [if_neg (by decide +kernel)]; exact ⟨rfl, rfl⟩))
    (fun os started H enc _ F => by rw [OpenClaim.pre_eq_preRow]; exact textKeeps_lifted os started H enc F)

theorem textKeeps_plain (f : FuncId) (fn : Func) (hf : Tryd.pinned.checked.prog.funcNamed "tapestrier/tapestrierlaw1.TextKeeps" = some f) (hfn : Tryd.pinned.checked.prog.funcs[f]? = some fn) :
    false = Tryd.pinned.checked.prog.looks [] ∧ ∀ (j : Nat) t, fn.params[j]? = some t → Tryd.pinned.checked.prog.wantsStandIn t = false := by
  obtain rfl : f = 3 := Option.some.inj ((show Tryd.prog.funcNamed "tapestrier/tapestrierlaw1.TextKeeps" = some 3 by kernel_rfl).symm.trans hf) |>.symm
  obtain rfl : fn = Tryd.f3 := (Option.some.inj (Tryd.func3.symm.trans hfn)).symm
  refine ⟨by kernel_rfl, fun j t ht => ?_⟩
  rw [Tryd.params3] at ht
  have hm : t ∈ [22] := by simpa using Array.mem_of_getElem? ht
  have hall : ([22].all fun u => !Tryd.prog.wantsStandIn u) = true := by kernel_rfl
  exact (show Tryd.prog.wantsStandIn t = false by simpa using List.all_eq_true.1 hall t hm)

theorem textKeeps_card : Rows.TextKeepsCardSaid :=
  Claim7.holds_tied_plain_at .later [] _ _ _ _ textKeeps_said (fun _ h => by cases h) (by kernel_rfl) (fun _ h => by cases h) textKeeps_row_tie rfl ⟨rfl, rfl⟩ (by kernel_rfl) rfl textKeeps_plain (by kernel_rfl)
#print axioms textKeeps_card

end Go.Proofs.YtpbgefgoccmncabDoor
