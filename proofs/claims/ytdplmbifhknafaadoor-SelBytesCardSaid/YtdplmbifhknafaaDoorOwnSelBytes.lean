/- For every slice of bytes: the law tapestrierlaw8.SelBytes returns true and leaves its argument as it was; no condition (its card: the table of operators read off the program's text). -/
import Derived.Test.YtdplmbifhknafaaDoorSlGg
import Derived.Test.YtdplmbifhknafaaDoorSlArgs
import Derived.Test.YtdplmbifhknafaaDoorSrD
import Derived.Test.YtdplmbifhknafaaDoorSmSel
namespace Go.Proofs.YtdplmbifhknafaaDoor
open Go.Proofs.YtdplmbifhknafaaDoor.Tre
open Go Go.ChangeShapes Go.WideShapes Go.ChangeAt Go.RowKit Sl

set_option maxRecDepth 100000 in
set_option maxHeartbeats 2000000 in
theorem selBytes_walk (w : World) (hT : OpsAt w.heap.size w) (v : Value) (bs : List UInt8) (hv : BytesAt w.heap.size w v bs) :
    Calls Tryd.prog 4 #[v] w fun e w' => e = .returned (.bool true) ∧ Below w.heap.size w w' := by
  have h0 := alive_any w hT
  obtain ⟨p, cap, rfl, _⟩ := hv.len
  go_enter Tryd.func4, Tryd.ntmps4
  go_wp2_with fail
  refine h0.mono ?_
  clear h0
  rintro e w1 ⟨rfl, b1⟩
  have hT1 := hT.next b1
  by_cases hn : 1000 < bs.length
  · have hni : (1000 : Int) < (bs.length : Int) := by omega
    clear hv hT hT1
    go_wp2
    go_ret
    exact ⟨rfl, b1⟩
  · have hni : ¬ (1000 : Int) < (bs.length : Int) := by omega
    have hcv := str_of_bytes ((hv.below b1).mono b1.size)
    have hof := Sl.of_any ⟨bs.toArray⟩ w1 (by show bs.toArray.size ≤ 100000; simp; omega)
    have hG := tksB_good bs (by omega)
    have ets : (⟨bs.toArray⟩ : ByteArray).data.toList = bs := rfl
    rw [ets] at hof
    clear hv hT
    generalize tksB bs = ts at *
    have HG : Hid (Sl.Good ts) := hG
    clear hG
    go_wp2_with fail
    refine hof.mono ?_
    clear hof
    rintro e w2 ⟨v2, rfl, hr2, b2⟩
    have b02 := below_next b1 b2
    have hv2 := BtsAt.of_owns hr2 rfl
    have h3 := Sl.parse_any v2 ts w2 hv2 (hT1.next b2) HG
    clear hr2 hT1
    go_wp2_with fail
    refine h3.mono ?_
    clear h3
    rintro e w3 ⟨hcs, b3⟩
    have b03 := below_next b02 b3
    have h4 := Sr.selectors_any v2 ts w3 (hv2.next b3) HG
    clear hv2
    obtain ⟨V, hV⟩ : ∃ V, parseV ts = V := ⟨_, rfl⟩
    rw [hV] at hcs h4
    clear HG hV
    rcases hcs with ⟨l, x, rfl, rfl, hx⟩ | ⟨rfl, rfl⟩
    · have hx' := Wg.SelsAt.toE 9 hx
      clear hx
      go_wp2_with fail
      refine h4.mono ?_
      clear h4
      rintro e w4 ⟨l', y, ok, rfl, hy, b4, hyn⟩
      have b04 := below_next b03 b4
      obtain ⟨rfl, rfl⟩ : ok = true ∧ l = l' := by
        rcases hyn with ⟨rfl, h⟩ | ⟨_, h, _⟩
        · exact ⟨rfl, Option.some.inj h⟩
        · cases h
      have h5 := Wg.sameSels_all 9 x y l w4 (hx'.next b4) (Wg.SelsAt.toE 9 hy)
      clear hx' hy hyn
      go_wp2_with fail
      refine h5.mono ?_
      clear h5
      rintro e w5 ⟨rfl, b5⟩
      go_wp2
      go_ret
      exact ⟨rfl, below_next b04 b5⟩
    · go_wp2_with fail
      refine h4.mono ?_
      clear h4
      rintro e w4 ⟨l', y, ok, rfl, hy, b4, hyn⟩
      have b04 := below_next b03 b4
      obtain ⟨rfl, rfl, rfl⟩ : ok = false ∧ l' = [] ∧ y = .slice none 0 0 := by
        rcases hyn with ⟨_, h⟩ | ⟨h1, _, h2, h3⟩
        · cases h
        · exact ⟨h1, h2, h3⟩
      have h5 := Wg.sameSels_all 9 (.slice none 0 0) (.slice none 0 0) [] w4 (Wg.SelsE.nil _ _ _) (Wg.SelsE.nil _ _ _)
      clear hy hyn
      go_wp2_with fail
      refine h5.mono ?_
      clear h5
      rintro e w5 ⟨rfl, b5⟩
      go_wp2
      go_ret
      exact ⟨rfl, below_next b04 b5⟩

theorem selBytes_met (os : Os) : laidMet Tryd.prog Rows.selBytesRow.laid ((laidIn (World.holding Tryd.prog os ⟨#[], #[], []⟩)).forCall (fun _ _ => 0) ⟨#[], #[.slice none 0 0], []⟩).memory :=
  laidMet_of_run' 8 (by kernel_rfl) (by kernel_rfl)
theorem selBytes_reads (os : Os) {H : Type} (enc : TypeId × Value → H) : ∃ places, DataW.whole enc Tryd.prog ((laidIn (World.holding Tryd.prog os ⟨#[], #[], []⟩)).forCall (fun _ _ => 0) ⟨#[], #[.slice none 0 0], []⟩).memory Tryd.f4.params.toList Rows.selBytesSpec.vars false (#[.slice none 0 0] : Array Value).toList 8 = some ([.nil], [], places) :=
  ⟨[], by kernel_rfl⟩

set_option maxRecDepth 100000 in
theorem selBytes_lifted (os : Os) (started : os.Started) (H : Type) (enc : TypeId × Value → H) (F : Stop.Interp) :
    ReturnsInHanded {} Tryd.checked os 4 .any ((OpenSpec.ofChange Rows.selBytesSpec).preRow enc Tryd.prog Tryd.f4 Rows.selBytesRow.domain false Rows.selBytesRow.laid) (((OpenSpec.ofChange Rows.selBytesSpec).at F).post enc Tryd.prog Tryd.f4 false true false false) := by
  obtain ⟨places, hx⟩ := selBytes_reads os enc
  refine returnsInHanded_of_row (C := Tryd.checked) (s := OpenSpec.ofChange Rows.selBytesSpec) ownNone started (by kernel_rfl) Tryd.func4
    (witness_row_at (enc := enc) (C := Tryd.checked) false (laidIn (World.holding Tryd.prog os ⟨#[], #[], []⟩)) #[.slice none 0 0] rfl (by kernel_rfl) (by kernel_rfl) (by kernel_rfl)
      (OpenSpec.preRow_of_cond 8 hx (by kernel_rfl) (fun k hk => by cases hk) (by kernel_rfl) (selBytes_met os))) ?_
  intro W base args ds gs before hval hW _ _ _ hL hS _
  have hW' := hW
  obtain ⟨p, q, hA0, hV, rfl, hfz, hnd⟩ := hW
  have hA : DataW.TrodAll enc Tryd.prog W 0 (fun _ => true) true Tryd.f4.params.toList args.toList ds p := hA0
  rw [Tryd.params4] at hA hval
  obtain ⟨v0, vs0, d0, ds0, p0, q0, hargs, rfl, rfl, h0, r0⟩ := trodAll_cons hA
  obtain ⟨rfl, rfl, rfl⟩ := trodAll_nil r0
  obtain rfl : args = #[v0] := by cases args; simp_all
  obtain ⟨rfl, rfl⟩ := trodVars_none hV
  obtain ⟨a0, len0, cap0, rfl⟩ := okWide_slice Tryd.underlying32 (hval 0 32 v0 rfl rfl)
  have k0 := h0
  have lt0 : ∀ x ∈ p0, x.block < W.heap.size := by obtain ⟨m, hm⟩ := k0; exact DataW.trod_lt m _ _ _ hm
  obtain ⟨z0, w0⟩ := bytesAt_of_reads k0
  clear hA0
  refine (selBytes_walk W (tabs_of_laid hL hS) _ z0 w0).mono fun e W' ⟨he, bel⟩ => ?_
  subst he
  exact ⟨_, rfl, _, _, _, [], _, [], hW', trodAll_mk1 (shut_bool Tryd.underlying4 _), (trodAll_cons_mk (Below.trod laidOut (by kernel_rfl) (of_decide_eq_true (by kernel_rfl)) k0 bel lt0) trodAll_mk0), rfl, bel.frame _, fun h => by cases h⟩

theorem selBytes_said : Rows.SelBytesSaid :=
  OpenClaim.holds_of_cond 4 Tryd.f4 rfl rfl rfl rfl rfl rfl rfl ⟨rfl, rfl, rfl, rfl, rfl⟩ rfl rfl rfl rfl rfl (by kernel_rfl) Tryd.func4 (by kernel_rfl)
    (of_decide_eq_true (by kernel_rfl)) (by unfold Func.isWrapper; first | (rw [if_pos (by decide +kernel)]; kernel_rfl) | (rw [if_neg (by decide +kernel)]; exact ⟨rfl, rfl⟩))
    (fun os started H enc _ F => by rw [OpenClaim.pre_eq_preRow]; exact selBytes_lifted os started H enc F)

theorem selBytes_plain (f : FuncId) (fn : Func) (hf : Tryd.pinned.checked.prog.funcNamed "tapestrier/tapestrierlaw8.SelBytes" = some f) (hfn : Tryd.pinned.checked.prog.funcs[f]? = some fn) :
    false = Tryd.pinned.checked.prog.looks [] ∧ ∀ (j : Nat) t, fn.params[j]? = some t → Tryd.pinned.checked.prog.wantsStandIn t = false := by
  obtain rfl : f = 4 := Option.some.inj ((show Tryd.prog.funcNamed "tapestrier/tapestrierlaw8.SelBytes" = some 4 by kernel_rfl).symm.trans hf) |>.symm
  obtain rfl : fn = Tryd.f4 := (Option.some.inj (Tryd.func4.symm.trans hfn)).symm
  refine ⟨by kernel_rfl, fun j t ht => ?_⟩
  rw [Tryd.params4] at ht
  have hm : t ∈ [32] := by simpa using Array.mem_of_getElem? ht
  have hall : ([32].all fun u => !Tryd.prog.wantsStandIn u) = true := by kernel_rfl
  exact (show Tryd.prog.wantsStandIn t = false by simpa using List.all_eq_true.1 hall t hm)

theorem selBytes_card : Rows.SelBytesCardSaid :=
  Claim7.holds_tied_plain_at .later [] _ _ _ _ selBytes_said (fun _ h => by cases h) (by kernel_rfl) (fun _ h => by cases h) selBytes_row_tie rfl ⟨rfl, rfl⟩ (by kernel_rfl) rfl selBytes_plain (by kernel_rfl)
#print axioms selBytes_card


end Go.Proofs.YtdplmbifhknafaaDoor
