/- For all slices of bytes: the law tapestrierlaw4.TokReads returns true and leaves its argument as it was; conditions: the tables hold what their texts lay (the card ties them to the program's text). -/
import Derived.Test.YtmjbajocdchdiaaGreatDoorBsG
import Derived.Test.YtmjbajocdchdiaaGreatDoorDcTxt
import Derived.Test.YtmjbajocdchdiaaGreatDoorBsH
namespace Go.Proofs.YtmjbajocdchdiaaGreatDoor
open Go Go.ChangeShapes Go.WideShapes Go.ChangeAt Go.RowKit

theorem txt_short {bs : List UInt8} (hl : bs.length ≤ 2000) : ∀ t ∈ tksOf bs, (txtOf t.text).size ≤ 1000000 := fun t ht => by
  have h1 := toks_text nvOf _ (prep (ipts bs)) (Nat.le_refl _) t ht
  have h2 := encs_len t.text
  have h3 := prep_len bs
  show ((encs t.text).toArray).size ≤ _
  rw [List.size_toArray]
  omega

set_option maxRecDepth 100000 in
set_option maxHeartbeats 4000000 in
theorem tokReads_walk (w : World) (hT : LTabs w.heap.size w) (v : Value) (bs : List UInt8) (hB : BytesAt w.heap.size w v bs) :
    Calls Tryz.prog 3 #[v] w fun e w' => e = .returned (.bool true) ∧ Below w.heap.size w w' := by
  have h0 := alive_any w hT
  obtain ⟨p, cap, rfl⟩ := bytes_list hB
  go_enter Tryz.func3, Tryz.ntmps3
  go_wp2_with fail
  refine h0.mono ?_
  clear h0
  rintro e w1 ⟨rfl, b1⟩
  by_cases hn : 2000 < bs.length
  · have hni : (2000 : Int) < (bs.length : Int) := by omega
    clear hB hT
    go_wp2
    go_ret
    exact ⟨rfl, b1⟩
  have hni : ¬ (2000 : Int) < (bs.length : Int) := by omega
  have hB1 := (hB.below b1).mono b1.size
  have hT1 := hT.next b1
  have h2 := ofB_any _ bs w1 hB1 hT1 (by omega)
  have hlen := tksOf_len bs
  have HX : Hid (∀ t ∈ tksOf bs, (txtOf t.text).size ≤ 1000000) := txt_short (by omega)
  go_wp2_with fail
  refine h2.mono ?_
  clear h2
  rintro e w2 ⟨v2, rfl, r2, b2⟩
  have b02 := b1.trans (b2.mono b1.size)
  have hT2 := hT1.next b2
  have T2 := TksAt.of_owns r2
  have h3 := refPrepare_any _ bs w2 ((hB1.below b2).mono b2.size) (by omega)
  clear r2
  go_wp2_with fail
  refine h3.mono ?_
  clear h3
  rintro e w3 ⟨v3, rfl, r3, b3⟩
  have b03 := b02.trans (b3.mono b02.size)
  have hT3 := hT2.next b3
  have T3 := T2.next b3
  have h4 := Ref.tokens_any v3 (prep (ipts bs)) w3 (IntsAt.of_owns r3 rfl) (by have := prep_len bs; omega)
  rw [prep_fixed, bts_cells, show toks Ref.nv (prep (ipts bs)) = tksOf bs from rfl] at h4
  generalize tksOf bs = ts at *
  clear hB hB1 r3 T2
  go_wp2_with fail
  refine h4.mono ?_
  clear h4
  rintro e w4 ⟨v4, rfl, r4, b4⟩
  have b04 := b03.trans (b4.mono b03.size)
  have hT4 := hT3.next b4
  have T4 := T3.next b4
  have h5 := sameToks_yes v2 v4 ts w4 T4 (TksAt.of_owns r4) (by omega)
  clear T3 r4
  go_wp2_with fail
  refine h5.mono ?_
  clear h5
  rintro e w5 ⟨rfl, b5⟩
  have b05 := b04.trans (b5.mono b04.size)
  have hT5 := hT4.next b5
  have T5 := T4.next b5
  have h6 := text_any v2 ts w5 T5 hT5.2 (by omega) HX
  go_wp2_with fail
  refine h6.mono ?_
  clear h6
  rintro e w6 ⟨rfl, b6⟩
  have b06 := b05.trans (b6.mono b05.size)
  have h7 := text_any v2 ts w6 (T5.next b6) (hT5.next b6).2 (by omega) HX
  obtain ⟨p2, cap2, rfl⟩ := T5.len
  clear T4 T5 hT hT1 hT2 hT3 hT4 hT5 HX
  generalize (⟨(wrtL ts).toArray⟩ : ByteArray) = z at *
  go_wp2_with fail
  refine h7.mono ?_
  clear h7
  rintro e w7 ⟨rfl, b7⟩
  have hle : (ts.length : Int) ≤ (bs.length : Int) := by omega
  go_wp2
  go_ret
  exact ⟨rfl, b06.trans (b7.mono b06.size)⟩

theorem tokReads_met (os : Os) : laidMet Tryz.prog Rows.tokReadsRow.laid ((laidIn (World.holding Tryz.prog os ⟨#[], #[], []⟩)).forCall (fun _ _ => 0) ⟨#[], #[.slice none 0 0], []⟩).memory :=
  laidMet_of_run' 8 (by kernel_rfl) (by kernel_rfl)
theorem tokReads_reads (os : Os) {H : Type} (enc : TypeId × Value → H) : ∃ places, DataW.whole enc Tryz.prog ((laidIn (World.holding Tryz.prog os ⟨#[], #[], []⟩)).forCall (fun _ _ => 0) ⟨#[], #[.slice none 0 0], []⟩).memory Tryz.f3.params.toList Rows.tokReadsSpec.vars false (#[.slice none 0 0] : Array Value).toList 8 = some ([.nil], [], places) :=
  ⟨[], by kernel_rfl⟩

set_option maxRecDepth 100000 in
theorem tokReads_lifted (os : Os) (started : os.Started) (H : Type) (enc : TypeId × Value → H) (F : Stop.Interp) :
    ReturnsInHanded {} Tryz.checked os 3 .any ((OpenSpec.ofChange Rows.tokReadsSpec).preRow enc Tryz.prog Tryz.f3 Rows.tokReadsRow.domain false Rows.tokReadsRow.laid) (((OpenSpec.ofChange Rows.tokReadsSpec).at F).post enc Tryz.prog Tryz.f3 false true false false) := by
  obtain ⟨places, hx⟩ := tokReads_reads os enc
  refine returnsInHanded_of_row (C := Tryz.checked) (s := OpenSpec.ofChange Rows.tokReadsSpec) ownNone started (by kernel_rfl) Tryz.func3
    (witness_row_at (enc := enc) (C := Tryz.checked) false (laidIn (World.holding Tryz.prog os ⟨#[], #[], []⟩)) #[.slice none 0 0] rfl (by kernel_rfl) (by kernel_rfl) (by kernel_rfl)
      (OpenSpec.preRow_of_cond 8 hx (by kernel_rfl) (fun k hk => by cases hk) (by kernel_rfl) (tokReads_met os))) ?_
  intro W base args ds gs before hval hW _ _ _ hL hS _
  have hW' := hW
  obtain ⟨p, q, hA0, hV, rfl, hfz, hnd⟩ := hW
  have hA : DataW.TrodAll enc Tryz.prog W 0 (fun _ => true) true Tryz.f3.params.toList args.toList ds p := hA0
  rw [Tryz.params3] at hA hval
  obtain ⟨v0, vs0, d0, ds0, p0, q0, hargs, rfl, rfl, h0, r0⟩ := trodAll_cons hA
  obtain ⟨rfl, rfl, rfl⟩ := trodAll_nil r0
  obtain rfl : args = #[v0] := by cases args; simp_all
  obtain ⟨rfl, rfl⟩ := trodVars_none hV
  obtain ⟨a0, len0, cap0, rfl⟩ := okWide_slice Tryz.underlying22 (hval 0 22 v0 rfl rfl)
  have k0 := h0
  have lt0 : ∀ x ∈ p0, x.block < W.heap.size := by obtain ⟨m, hm⟩ := k0; exact DataW.trod_lt m _ _ _ hm
  obtain ⟨z0, w0⟩ := bytesAt_of_reads k0
  clear hA0
  refine (tokReads_walk W (tabs_of_laid hL hS) _ z0 w0).mono fun e W' ⟨he, bel⟩ => ?_
  subst he
  exact ⟨_, rfl, _, _, _, [], _, [], hW', trodAll_mk1 (shut_bool Tryz.underlying4 _), (trodAll_cons_mk (Below.trod laidOut (by kernel_rfl) (of_decide_eq_true (by kernel_rfl)) k0 bel lt0) trodAll_mk0), rfl, bel.frame _, fun h => by cases h⟩

theorem tokReads_said : Rows.TokReadsSaid :=
  OpenClaim.holds_of_cond 3 Tryz.f3 rfl rfl rfl rfl rfl rfl rfl ⟨rfl, rfl, rfl, rfl, rfl⟩ rfl rfl rfl rfl rfl (by kernel_rfl) Tryz.func3 (by kernel_rfl)
    (of_decide_eq_true (by kernel_rfl)) (by unfold Func.isWrapper; first | (rw [if_pos (by decide +kernel)]; kernel_rfl) | (rw [if_neg (by decide +kernel)]; exact ⟨rfl, rfl⟩))
    (fun os started H enc _ F => by rw [OpenClaim.pre_eq_preRow]; exact tokReads_lifted os started H enc F)

theorem tokReads_plain (f : FuncId) (fn : Func) (hf : Tryz.pinned.checked.prog.funcNamed "tapestrier/tapestrierlaw4.TokReads" = some f) (hfn : Tryz.pinned.checked.prog.funcs[f]? = some fn) :
    false = Tryz.pinned.checked.prog.looks [] ∧ ∀ (j : Nat) t, fn.params[j]? = some t → Tryz.pinned.checked.prog.wantsStandIn t = false := by
  obtain rfl : f = 3 := Option.some.inj ((show Tryz.prog.funcNamed "tapestrier/tapestrierlaw4.TokReads" = some 3 by kernel_rfl).symm.trans hf) |>.symm
  obtain rfl : fn = Tryz.f3 := (Option.some.inj (Tryz.func3.symm.trans hfn)).symm
  refine ⟨by kernel_rfl, fun j t ht => ?_⟩
  rw [Tryz.params3] at ht
  have hm : t ∈ [22] := by simpa using Array.mem_of_getElem? ht
  have hall : ([22].all fun u => !Tryz.prog.wantsStandIn u) = true := by kernel_rfl
  exact (show Tryz.prog.wantsStandIn t = false by simpa using List.all_eq_true.1 hall t hm)

theorem tokReads_card : Rows.TokReadsCardSaid :=
  Claim7.holds_tied_plain_at .later [] _ _ _ _ tokReads_said (fun _ h => by cases h) (by kernel_rfl) (fun _ h => by cases h) tokReads_row_tie rfl ⟨rfl, rfl⟩ (by kernel_rfl) rfl tokReads_plain (by kernel_rfl)
#print axioms tokReads_card

end Go.Proofs.YtmjbajocdchdiaaGreatDoor
