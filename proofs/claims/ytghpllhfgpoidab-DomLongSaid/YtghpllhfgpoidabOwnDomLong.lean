/- For every integer: the law tapestrierlaw9.DomLong returns true and leaves its argument as it was; no condition. -/
import Derived.Test.YtghpllhfgpoidabDmAlive
import Derived.Test.YtghpllhfgpoidabDmArgs
import Derived.Test.YtghpllhfgpoidabDmChain
import Derived.Test.YtghpllhfgpoidabRows
namespace Go.Proofs.Ytghpllhfgpoidab
open Go Go.ChangeShapes Go.WideShapes Go.ChangeAt Go.RowKit Dm
open Go.ChangeMaps (open_string shut_string)

def starV (m : Nat) : List Nv := bare (-1) :: List.replicate m (bare 0)
theorem starV_len (m : Nat) : (starV m).length = m + 1 := by simp [starV]
theorem starV_nd : ∀ m, (starV m).map Nv.nd = starN m
  | 0 => rfl
  | m + 1 => by
    show (starV (m + 1)).map Nv.nd = starN m ++ [bareN 0]
    rw [← starV_nd m]
    simp only [starV, List.map_cons, List.map_replicate]
    rw [List.replicate_succ']
    rfl
theorem starV_bare (m : Nat) : ∀ n ∈ starV m, ∃ p, n = bare p := fun n h => by
  rcases List.mem_cons.1 h with rfl | h
  · exact ⟨_, rfl⟩
  · exact ⟨0, (List.mem_replicate.1 h).2⟩
def zeroCells : List Value := [.int .i64 0, .string ⟨#[]⟩, .string ⟨#[]⟩, .slice none 0 0, .slice none 0 0]
theorem made_flat (N : Nat) : (madeCells (Value.agg zeroCells.toArray).cells (N * 5)).toList = (List.replicate N (bare 0)).flatMap nvCells := by
  have hfl : ((List.replicate N (bare 0)).flatMap nvCells).length = N * 5 := by rw [flat_length (sz := 5) (f := nvCells) (fun _ => rfl), List.length_replicate]
  apply List.ext_getElem?
  intro j
  by_cases hj : j < N * 5
  · have hq : j / 5 < N := by omega
    have hd : j / 5 * 5 + j % 5 = j := by omega
    have hr : ((List.replicate N (bare 0)).flatMap nvCells)[j]? = (nvCells (bare 0))[j % 5]? := by
      have := flat_at (sz := 5) (f := nvCells) (fun _ => rfl) (List.replicate N (bare 0)) (j / 5) (bare 0) (by rw [List.getElem?_replicate, if_pos hq]) (j % 5) (by omega)
      rwa [hd] at this
    rw [hr]
    have hm : (madeCells (Value.agg zeroCells.toArray).cells (N * 5)).toList[j]? = some (zeroCells.toArray[j % 5]!) := by
      rw [Array.getElem?_toList]
      unfold madeCells
      rw [Array.getElem?_map, Array.getElem?_range, if_pos hj]
      rfl
    rw [hm]
    have h5 : j % 5 = 0 ∨ j % 5 = 1 ∨ j % 5 = 2 ∨ j % 5 = 3 ∨ j % 5 = 4 := by omega
    rcases h5 with h | h | h | h | h <;> rw [h] <;> rfl
  · rw [List.getElem?_eq_none (by rw [Array.length_toList, size_madeCells]; omega), List.getElem?_eq_none (by omega)]
theorem star_cells (m : Nat) : ((List.replicate (m + 1) (bare 0)).flatMap nvCells).set 0 (.int .i64 (-1)) = (starV m).flatMap nvCells := by
  have := flat_set (sz := 5) (f := nvCells) (fun _ => rfl) (List.replicate (m + 1) (bare 0)) 0 (bare 0) (bare (-1)) 0 (.int .i64 (-1)) (by rw [List.getElem?_replicate, if_pos (Nat.succ_pos m)]) (by decide) rfl
  rw [Nat.zero_mul, Nat.add_zero] at this
  rw [this, List.replicate_succ, List.set_cons_zero]
  rfl
theorem nodes_own {W : World} {b : Nat} {v : Value} {l : List Nv} (h : W.ownsRow b 26 5 v l.length (l.flatMap nvCells)) (hc : ∀ n ∈ l, StrsAt W.heap.size W n.cv n.nd.cls) (ha : ∀ n ∈ l, PairsAt W.heap.size W n.av n.nd.ats) : NodesAt W.heap.size W v l :=
  ⟨SlAt.of_owns (sz := 5) (f := nvCells) (fun _ => rfl) h, hc, ha⟩

set_option maxRecDepth 100000 in
set_option maxHeartbeats 4000000 in
theorem domLong_walk (w : World) (a : Int) (_ha : (Lit.int .i64 a).wf = true) :
    Calls Try.prog 4 #[.int .i64 a] w fun e w' => e = .returned (.bool true) ∧ Below w.heap.size w w' := by
  have h0 := alive_any w
  obtain ⟨i0, hi, hz0, hz1, hz2⟩ := info_parts infoNode
  go_enter Try.func4, Try.ntmps4
  go_wp2_with fail
  refine h0.mono ?_
  clear h0
  rintro e w1 ⟨rfl, bb1⟩
  by_cases hneg : a < -3
  · go_wp2
    go_ret
    exact ⟨rfl, bb1⟩
  by_cases hbig : 3 < a
  · have hn : decide (a < -3) = false := decide_eq_false hneg
    go_wp2
    go_ret
    exact ⟨rfl, bb1⟩
  obtain ⟨N, hN⟩ : ∃ N : Nat, 4096 + a = (N : Int) := ⟨(4096 + a).toNat, by omega⟩
  have hN1 : 4093 ≤ N := by omega
  have hN2 : N ≤ 4099 := by omega
  obtain ⟨w2, hrun, hown, hgrow⟩ := run_makeSlice_full (P := Try.prog) w1 w1.heap.size 22 26 i0 (.agg zeroCells.toArray) 5 Try.underlying22 hi hz0 hz1 .i64 .i64 N (by omega) (by rw [hz2]; omega) (by unfold maxLen; omega) (Nat.le_refl _)
  rw [made_flat] at hown
  have b2 : Below w1.heap.size w1 w2 := (Below.refl _ w1).grown hgrow (Nat.le_refl _) (fun r e => by cases e)
  have hst := hown.stored 0 (.int .i64 (-1))
  obtain ⟨m, hm⟩ : ∃ m, N = m + 1 := ⟨N - 1, by omega⟩
  have HM : Hid (N = m + 1) := hm
  have hst1 : (w2.setCell ⟨w1.heap.size, 0, none⟩ (.int .i64 (-1))).ownsRow w1.heap.size 26 5 (.slice (some ⟨w1.heap.size, 0, none⟩) N N) N ((starV m).flatMap nvCells) := by
    have := hst.1
    rw [hm] at this ⊢
    rwa [star_cells] at this
  have c0 : w2.cell? ⟨w1.heap.size, 0, none⟩ = some (.int .i64 0) := by
    rw [hown.cellAt 0 (by omega), hm, List.replicate_succ]
    rfl
  have f0 := hown.frozenAt 0
  have b3 := below_grown b2 hst.2 b2.size (Nat.le_refl _)
  have hw : IntKind.i64.wrap (4096 + a) = (N : Int) := by rw [IntKind.wrap_i64]; omega
  have hpos : (0 : Int) < (N : Int) := by omega
  have hn1 : decide (a < -3) = false := decide_eq_false hneg
  have hn2 : decide (3 < a) = false := decide_eq_false hbig
  have HNA : Hid (4096 + a = (N : Int)) := hN
  clear hown hgrow hst hm hN
  go_upto_region 7 with fail
  generalize w2.setCell ⟨w1.heap.size, 0, none⟩ (.int .i64 (-1)) = W3 at *
  have hl := starV_len m
  have hnew := new_any (.slice (some ⟨w1.heap.size, 0, none⟩) N N) (starV m) W3 (nodes_own (b := w1.heap.size) (by rw [hl, ← HM.out]; exact hst1) (fun n h => by obtain ⟨p, rfl⟩ := starV_bare m n h; exact strs_nil _ _) (fun n h => by obtain ⟨p, rfl⟩ := starV_bare m n h; exact pairs_nil _ _)) (fun n h => by obtain ⟨p, rfl⟩ := starV_bare m n h; exact bare_ok p)
  rw [starV_nd] at hnew
  unfold Made at hnew
  have bb3 := below_next bb1 b3
  clear hrun c0 f0 b2 b3 hst1 hl hi hz0 hz1 hz2
  go_wp2_with fail
  refine hnew.mono ?_
  clear hnew
  rintro e w4 ⟨hm4, b4⟩
  have bb4 := below_next bb3 b4
  have HA := HNA.out
  have HB := HM.out
  by_cases hlong : 0 < a
  · have hV : newV (starN m) = .error 3 := by unfold newV; rw [if_pos (by rw [starN_len]; omega)]
    rw [hV] at hm4
    clear HA HB
    rcases hm4 with ⟨tb, g, cap, qs, hV2, _⟩ | ⟨x, hV2, rfl⟩
    · cases hV2
    · cases hV2
      have h5 := num_any 3 w4
      go_wp2_with fail
      refine h5.mono ?_
      clear h5
      rintro e w4' ⟨rfl, rfl⟩
      go_wp2
      go_ret
      exact ⟨rfl, bb4⟩
  · have hlong' : decide (0 < a) = false := decide_eq_false hlong
    obtain ⟨es, q, r, hV, hlen, hq, hch, hr, hpl⟩ := star_new m (by omega)
    have hVs := hV
    rw [hV] at hm4
    rcases hm4 with ⟨tb, g, cap, qs, hV2, rfl, hT⟩ | ⟨x, hV2, rfl⟩
    · have hes : es = qs.map Em.e := Except.ok.inj hV2
      subst hes
      have hO : TreeOk (qs.map Em.e) := (newV_ok hVs).1
      have hql : qs.length = N := by rw [List.length_map] at hlen; omega
      have h5 := num_any 0 w4
      have h6 := len_any _ tb g cap qs w4 hT
      have h7 := children_any _ tb g cap qs 0 w4 hT hO (by omega)
      have h8 := fun X (b : Below w4.heap.size w4 X) => place_any _ tb g cap qs ((N : Int) - 1) X (hT.next b)
      have hcV : (chI (childrenV (qs.map Em.e) 0)).length = N - 1 := by
        rw [chI_len]
        unfold childrenV
        rw [show (0 : Int) = ((0 : Nat) : Int) from rfl, elAt_yes hq]
        show q.ch.length = _
        omega
      have hpV : placeV (qs.map Em.e) ((N : Int) - 1) = (N : Int) - 1 := by
        unfold placeV
        rw [show (N : Int) - 1 = ((m : Nat) : Int) by omega, elAt_yes hr]
        show ((r.place : Nat) : Int) = _
        rw [hpl (by omega)]
      rw [hql] at h6
      rw [hpV] at h8
      have H8 : Hid (∀ X, Below w4.heap.size w4 X → Calls Try.prog 15 #[.pointer (some ⟨tb, 0, none⟩), .int .i64 ((N : Int) - 1)] X fun x w' => x = .returned (.int .i64 ((N : Int) - 1)) ∧ w' = X) := h8
      have hw2 : IntKind.i64.wrap ((N : Int) - 1) = (N : Int) - 1 := by rw [IntKind.wrap_i64]; omega
      clear h8 hT hO hV hV2 hVs hq hch hr hpl hlen hpV hql HA HB
      go_wp2_with fail
      refine h5.mono ?_
      clear h5
      rintro e w4' ⟨rfl, rfl⟩
      go_wp2_with fail
      refine h6.mono ?_
      clear h6
      rintro e w4' ⟨rfl, rfl⟩
      go_wp2_with fail
      refine h7.mono ?_
      clear h7
      rintro e w5 ⟨v5, rfl, hv5, b5⟩
      unfold IntRow at hv5
      rw [hcV] at hv5
      obtain ⟨p5, c5, rfl⟩ := owns_form hv5
      have hcast : ((N - 1 : Nat) : Int) = (N : Int) - 1 := by omega
      have h9 := H8.out w5 b5
      have bb5 := below_next bb4 b5
      clear hcV hv5 H8
      go_wp2_with fail
      refine h9.mono ?_
      clear h9
      rintro e w5' ⟨rfl, rfl⟩
      go_wp2
      go_ret
      exact ⟨rfl, bb5⟩
    · cases hV2


set_option maxRecDepth 100000 in
theorem domLong_lifted (os : Os) (started : os.Started) (H : Type) (enc : TypeId × Value → H) :
    ReturnsInHanded {} Try.checked os 4 .any (Rows.domLongSpec.pre6 enc Try.prog Try.f4 Rows.domLongRow.domain false) (Rows.domLongSpec.post enc Try.prog Try.f4 false true false false) := by
  refine returnsInHanded_of_change_sized (C := Try.checked) ownNone started (by kernel_rfl) Try.func4
    (ChangeSpec.witness6 (enc := enc) (C := Try.checked) false ⟨#[], #[.int .i64 0], []⟩ 8 (by kernel_rfl) (by kernel_rfl) (by kernel_rfl) (by kernel_rfl)) ?_
  intro W base args ds gs before hval hW _ hsz0 _
  have hW' := hW
  obtain ⟨p, q, hA0, hV, rfl, hfz, hnd⟩ := hW
  have hA : DataW.TrodAll enc Try.prog W 0 (fun _ => true) true Try.f4.params.toList args.toList ds p := hA0
  rw [Try.params4] at hA hval hsz0
  obtain ⟨v0, vs0, d0, ds0, p0, q0, hargs, rfl, rfl, h0, r0⟩ := trodAll_cons hA
  obtain ⟨rfl, rfl, rfl⟩ := trodAll_nil r0
  obtain rfl : args = #[v0] := by cases args; simp_all
  obtain ⟨rfl, rfl⟩ := trodVars_none hV
  obtain ⟨a0, rfl, rfl, rfl, w0⟩ := open_int Try.underlying3 (hval 0 3 v0 rfl rfl) h0
  clear hA0
  refine (domLong_walk W a0 w0).mono fun e W' ⟨he, bel⟩ => ?_
  subst he
  exact ⟨_, rfl, _, _, _, [], _, [], hW', trodAll_mk1 (shut_bool Try.underlying4 _), (trodAll_cons_mk (shut_int Try.underlying3 w0) trodAll_mk0), rfl, bel.frame _, fun h => by cases h⟩

theorem domLong_said : Rows.DomLongSaid :=
  OpenClaim.holds_of_wide 4 Try.f4 rfl rfl rfl rfl rfl rfl rfl ⟨rfl, rfl, rfl, rfl, rfl⟩ rfl rfl rfl rfl rfl (by kernel_rfl) Try.func4 (by kernel_rfl)
    (of_decide_eq_true (by kernel_rfl)) (by unfold Func.isWrapper; first | (rw [if_pos (by decide +kernel)]; kernel_rfl) | (rw [if_neg (by decide +kernel)]; exact ⟨rfl, rfl⟩))
    (fun os started H enc _ => domLong_lifted os started H enc)
#print axioms domLong_said


end Go.Proofs.Ytghpllhfgpoidab
