/- For every slice of nodes: the law tapestrierlaw9.DomCounts returns true and leaves its argument as it was; no condition. -/
import Derived.Test.YtghpllhfgpoidaaDmBig
import Derived.Test.YtghpllhfgpoidaaDmRefN
import Derived.Test.YtghpllhfgpoidaaDmTells
import Derived.Test.YtghpllhfgpoidaaDmArgs
import Derived.Test.YtghpllhfgpoidaaRows
namespace Go.Proofs.Ytghpllhfgpoidaa
open Go Go.ChangeShapes Go.WideShapes Go.ChangeAt Go.RowKit Dm
open Go.ChangeMaps (open_string shut_string)

set_option maxRecDepth 100000 in
set_option maxHeartbeats 8000000 in
theorem domCounts_walk (w : World) (v : Value) (l : List Nv) (hv : NodesAt w.heap.size w v l) (hN : ∀ n ∈ l, NdOk n.nd) (_hl : l.length * 88 ≤ 140737488351232) :
    Calls Try.prog 8 #[v] w fun e w' => e = .returned (.bool true) ∧ Below w.heap.size w w' := by
  have h0 := alive_any w
  obtain ⟨p, cap, rfl⟩ := hv.row.len
  have HV : Hid (NodesAt w.heap.size w (.slice p l.length cap) l) := hv
  have HN : Hid (∀ n ∈ l, NdOk n.nd) := hN
  clear hv hN
  go_enter Try.func8, Try.ntmps8
  go_wp2_with fail
  refine h0.mono ?_
  clear h0
  rintro e w1 ⟨rfl, b1⟩
  have h1 := big_any _ l w1 (HV.out.next b1)
  go_wp2_with fail
  refine h1.mono ?_
  clear h1
  rintro e w1' ⟨big, rfl, rfl, hbig⟩
  have h2 := refNew_any _ l w1' (HV.out.next b1) HN.out
  go_wp2_with fail
  refine h2.mono ?_
  clear h2
  rintro e w2 ⟨hm, b2⟩
  have bb2 := below_next b1 b2
  cases big with
  | true =>
    rcases hm with ⟨tb, nv, dv, ns, ds, es, _, rfl, _⟩ | ⟨x, _, rfl⟩
    · clear hbig
      go_wp2
      go_ret
      exact ⟨rfl, bb2⟩
    · clear hbig
      go_wp2
      go_ret
      exact ⟨rfl, bb2⟩
  | false =>
    rcases hm with ⟨tb, nv, dv, ns, ds, es, hV, rfl, _, _⟩ | ⟨x, hV, rfl⟩
    · have hsm := hbig rfl
      obtain ⟨hO, hel, hl4⟩ := newV_ok hV
      have h3 := new_any _ l w2 (HV.out.next bb2) HN.out
      unfold Made at h3
      rw [hV] at h3
      clear hbig
      go_wp2_with fail
      refine h3.mono ?_
      clear h3
      rintro e w3 ⟨hm3, b3⟩
      rcases hm3 with ⟨tb3, g, cap3, qs, hV3, rfl, hT⟩ | ⟨x, hV3, _⟩
      · obtain rfl : es = qs.map Em.e := Except.ok.inj hV3
        have bb3 := below_next bb2 b3
        have hql : qs.length = l.length := by rw [List.length_map, List.length_map] at hel; exact hel
        have hl40 : l.length ≤ 40 := by rw [List.length_map] at hl4; omega
        have HQL : Hid (qs.length = l.length) := hql
        have HO : Hid (TreeOk (qs.map Em.e)) := hO
        have hsum := hO.sum
        rw [List.length_map] at hsum
        clear hO hV hV3 hel hl4 hsm b2 b3 bb2 hql
        go_wp2
        go_loopw [9, 10] (fun x y wr => ∃ k : Nat, x = .int .i64 (sumCh ((qs.map Em.e).take k) : Nat) ∧ y = .int .i64 k ∧ k ≤ l.length ∧ Tr w2.heap.size wr tb3 g cap3 qs ∧ Below w.heap.size w wr) (fun _ y _ => l.length - (intOf y).toNat)
        case atStart => exact ⟨0, rfl, rfl, Nat.zero_le _, hT, bb3⟩
        case round =>
          clear hT bb3
          obtain ⟨k, rfl, rfl, hk, hT, bb⟩ := hrel
          have hle := sumCh_le (es := qs.map Em.e) k
          by_cases hlt : k < l.length
          · have hki : (k : Int) < (l.length : Int) := by omega
            have hO := HO.out
            have hql := HQL.out
            have hc := children_any _ tb3 g cap3 qs (k : Int) wr hT hO (by omega)
            obtain ⟨q, hq⟩ : ∃ q, (qs.map Em.e)[k]? = some q := ⟨_, List.getElem?_eq_getElem (by rw [List.length_map]; omega)⟩
            rw [children_at hq] at hc
            have hst := sumCh_take hq
            have hfew := hO.few k q hq
            rw [List.length_map] at hfew
            have HST : Hid (_ = _) := hst
            clear hst
            generalize sumCh ((qs.map Em.e).take k) = S at *
            go_wp2_with fail
            refine hc.mono ?_
            clear hc
            rintro e w4 ⟨v4, rfl, hr4, b4⟩
            unfold IntRow at hr4
            rw [chI_len] at hr4
            obtain ⟨p4, c4, rfl⟩ := owns_form hr4
            have hat : IntsAt w4.heap.size w4 (.slice p4 q.ch.length c4) (chI q.ch) := IntRow.at (b := wr.heap.size) (by unfold IntRow; rw [chI_len]; exact hr4)
            have hT4 := hT.next b4
            have bb4 := below_next bb b4
            have hcl : q.ch.length ≤ 40 := by omega
            have hS40 : S ≤ 40 := by omega
            clear hT bb b4 hr4 hql hfew hO hle
            go_wp2
            go_loopw [12] (fun y wq => ∃ i : Nat, y = .int .i64 i ∧ i ≤ q.ch.length ∧ Below w4.heap.size w4 wq) (fun y _ => q.ch.length - (intOf y).toNat)
            case atStart => exact ⟨0, rfl, Nat.zero_le _, Below.refl _ _⟩
            case round =>
              rename World => wq
              obtain ⟨i, rfl, hi, bq⟩ := hrel
              have hTq := hT4.next bq
              have hatq := hat.next bq
              by_cases hil : i < q.ch.length
              · have hii : (i : Int) < (q.ch.length : Int) := by omega
                have hci : q.ch[i]? = some q.ch[i] := List.getElem?_eq_getElem hil
                obtain ⟨bk, off, rfl, _, hcap, hmx, hcell⟩ := hatq.get (k := i) (t := ((q.ch[i] : Nat) : Int)) (by unfold chI; rw [List.getElem?_map, hci]; rfl)
                have y0 := hcell 0 _ rfl
                simp only [Nat.mul_one, Nat.add_zero] at y0
                rw [chI_len] at hcap
                unfold maxLen at hmx
                have hp1 := parent_of HO.out hq hci
                have hp2 := place_of HO.out hq hci
                have hqp := fun m => parent_any _ tb3 g cap3 qs ((q.ch[i] : Nat) : Int) (wq.drewN m) (hTq.drewN m)
                have hqc := fun m => place_any _ tb3 g cap3 qs ((q.ch[i] : Nat) : Int) (wq.drewN m) (hTq.drewN m)
                have hqb := fun m => before_any _ tb3 g cap3 qs ((q.ch[i] : Nat) : Int) (wq.drewN m) (hTq.drewN m) HO.out (by have := HQL.out; omega)
                rw [hp1] at hqp
                rw [hp2] at hqc
                by_cases hi0 : i = 0
                · subst hi0
                  rw [before_first HO.out hq hci] at hqb
                  simp only [Nat.add_zero] at y0
                  generalize q.ch[0] = c at *
                  have HP : Hid (∀ m, Calls Try.prog 21 #[.pointer (some ⟨tb3, 0, none⟩), .int .i64 (c : Int)] (wq.drewN m) fun x w' => x = .returned (.int .i64 (k : Int)) ∧ w' = wq.drewN m) := hqp
                  have HC : Hid (∀ m, Calls Try.prog 27 #[.pointer (some ⟨tb3, 0, none⟩), .int .i64 (c : Int)] (wq.drewN m) fun x w' => x = .returned (.int .i64 (((0 : Nat) : Int) + 1)) ∧ w' = wq.drewN m) := hqc
                  have HB : Hid (∀ m, Calls Try.prog 29 #[.pointer (some ⟨tb3, 0, none⟩), .int .i64 (c : Int)] (wq.drewN m) fun x w' => x = .returned (.int .i64 (-1)) ∧ w' = wq.drewN m) := hqb
                  clear hqp hqc hqb hp1 hp2 hcell hci hatq hTq hq HST
                  go_wp2
                  go_quiet (first
                    | (go_at_call 21; exact Calls.quiet_of_same (HP.out _))
                    | (go_at_call 27; exact Calls.quiet_of_same (HC.out _))
                    | (go_at_call 29; exact Calls.quiet_of_same (HB.out _)))
                  have bqn := below_drewN' bq nq
                  go_wp2
                  exact ⟨⟨1, by go_num, by omega, bqn⟩, by simp [intOf]; omega⟩
                · obtain ⟨j, rfl⟩ : ∃ j, i = j + 1 := ⟨i - 1, by omega⟩
                  have hcj : q.ch[j]? = some q.ch[j] := List.getElem?_eq_getElem (by omega)
                  rw [before_later HO.out hq hci hcj] at hqb
                  obtain ⟨bk2, off2, h2, _, _, _, hcell2⟩ := hatq.get (k := j) (t := ((q.ch[j] : Nat) : Int)) (by unfold chI; rw [List.getElem?_map, hcj]; rfl)
                  cases h2
                  have y1 := hcell2 0 _ rfl
                  simp only [Nat.mul_one, Nat.add_zero] at y1
                  have hw1 : IntKind.i64.wrap (((j : Int) + 1) - 1) = (j : Int) := by rw [IntKind.wrap_i64]; omega
                  have hpos : (0 : Int) < (j : Int) + 1 := by omega
                  have hne : ((j : Int) + 1 == 0) = false := by simpa using (show ¬ (j : Int) + 1 = 0 by omega)
                  have hji : (j : Int) < (q.ch.length : Int) := by omega
                  generalize q.ch[j] = d at *
                  clear hcell2 hcj
                  generalize q.ch[j + 1] = c at *
                  have HP : Hid (∀ m, Calls Try.prog 21 #[.pointer (some ⟨tb3, 0, none⟩), .int .i64 (c : Int)] (wq.drewN m) fun x w' => x = .returned (.int .i64 (k : Int)) ∧ w' = wq.drewN m) := hqp
                  have HC : Hid (∀ m, Calls Try.prog 27 #[.pointer (some ⟨tb3, 0, none⟩), .int .i64 (c : Int)] (wq.drewN m) fun x w' => x = .returned (.int .i64 (((j + 1 : Nat) : Int) + 1)) ∧ w' = wq.drewN m) := hqc
                  have HB : Hid (∀ m, Calls Try.prog 29 #[.pointer (some ⟨tb3, 0, none⟩), .int .i64 (c : Int)] (wq.drewN m) fun x w' => x = .returned (.int .i64 (d : Int)) ∧ w' = wq.drewN m) := hqb
                  clear hqp hqc hqb hp1 hp2 hcell hci hatq hTq hq HST
                  go_wp2
                  go_quiet (first
                    | (go_at_call 21; exact Calls.quiet_of_same (HP.out _))
                    | (go_at_call 27; exact Calls.quiet_of_same (HC.out _))
                    | (go_at_call 29; exact Calls.quiet_of_same (HB.out _)))
                  have bqn := below_drewN' bq nq
                  go_wp2
                  exact ⟨⟨j + 1 + 1, by go_num, by omega, bqn⟩, by simp [intOf]; omega⟩
              · have hii : ¬ (i : Int) < (q.ch.length : Int) := by omega
                have bbq := below_next bb4 bq
                clear hat hatq hT4
                have hnew : ((S + q.ch.length : Nat) : Int) = (sumCh ((qs.map Em.e).take (k + 1)) : Nat) := by rw [HST.out]
                have HNW : Hid (_ = _) := hnew
                clear hnew HST
                go_wp2
                exact ⟨⟨k + 1, by rw [← HNW.out]; go_num, by go_num, by omega, hTq, bbq⟩, by simp [intOf]; omega⟩
          · have hki : ¬ (k : Int) < (l.length : Int) := by omega
            obtain rfl : k = l.length := by omega
            have hS : sumCh ((qs.map Em.e).take l.length) = l.length - 1 := by
              rw [List.take_of_length_le (by rw [List.length_map, HQL.out]; exact Nat.le_refl _), hsum, HQL.out]
            rw [hS]
            clear hT hle hsum hS
            by_cases hl0 : l.length = 0
            · rw [hl0]
              go_wp2
              go_ret
              exact ⟨rfl, bb⟩
            · have hcast : ((l.length - 1 : Nat) : Int) = (l.length : Int) - 1 := by omega
              have hw1 : IntKind.i64.wrap ((l.length : Int) - 1) = (l.length : Int) - 1 := by rw [IntKind.wrap_i64]; omega
              have hne : ((l.length : Int) == 0) = false := by simpa using hl0
              rw [hcast]
              go_wp2
              go_ret
              exact ⟨rfl, bb⟩
      · cases hV3
    · have hx0 : (x != 0) = true := by
        rcases newV_err hV with rfl | rfl | rfl <;> rfl
      clear hbig
      go_wp2
      go_ret
      exact ⟨rfl, bb2⟩


set_option maxRecDepth 100000 in
theorem domCounts_lifted (os : Os) (started : os.Started) (H : Type) (enc : TypeId × Value → H) :
    ReturnsInHanded {} Try.checked os 8 .any (Rows.domCountsSpec.pre6 enc Try.prog Try.f8 Rows.domCountsRow.domain false) (Rows.domCountsSpec.post enc Try.prog Try.f8 false true false false) := by
  refine returnsInHanded_of_change_sized (C := Try.checked) ownNone started (by kernel_rfl) Try.func8
    (ChangeSpec.witness6 (enc := enc) (C := Try.checked) false ⟨#[], #[.slice none 0 0], []⟩ 8 (by kernel_rfl) (by kernel_rfl) (by kernel_rfl) (by kernel_rfl)) ?_
  intro W base args ds gs before hval hW _ hsz0 _
  have hW' := hW
  obtain ⟨p, q, hA0, hV, rfl, hfz, hnd⟩ := hW
  have hA : DataW.TrodAll enc Try.prog W 0 (fun _ => true) true Try.f8.params.toList args.toList ds p := hA0
  rw [Try.params8] at hA hval hsz0
  obtain ⟨v0, vs0, d0, ds0, p0, q0, hargs, rfl, rfl, h0, r0⟩ := trodAll_cons hA
  obtain ⟨rfl, rfl, rfl⟩ := trodAll_nil r0
  obtain rfl : args = #[v0] := by cases args; simp_all
  obtain ⟨rfl, rfl⟩ := trodVars_none hV
  have hsz := List.all_eq_true.1 hsz0
  obtain ⟨a0, len0, cap0, rfl⟩ := okWide_slice Try.underlying22 (hval 0 22 v0 rfl rfl)
  have k0 := h0
  have lt0 : ∀ x ∈ p0, x.block < W.heap.size := by obtain ⟨m, hm⟩ := k0; exact DataW.trod_lt m _ _ _ hm
  obtain ⟨z0, w0, y0, u0⟩ := Dm.nodesAt_of_reads k0 (fun n hn => by simpa using hsz n (DataW.weights_mem_each (j := 0) rfl rfl n hn))
  clear hA0
  refine (domCounts_walk W _ z0 w0 y0 u0).mono fun e W' ⟨he, bel⟩ => ?_
  subst he
  exact ⟨_, rfl, _, _, _, [], _, [], hW', trodAll_mk1 (shut_bool Try.underlying4 _), (trodAll_cons_mk (Below.trod laidOut (by kernel_rfl) (of_decide_eq_true (by kernel_rfl)) k0 bel lt0) trodAll_mk0), rfl, bel.frame _, fun h => by cases h⟩

theorem domCounts_said : Rows.DomCountsSaid :=
  OpenClaim.holds_of_wide 8 Try.f8 rfl rfl rfl rfl rfl rfl rfl ⟨rfl, rfl, rfl, rfl, rfl⟩ rfl rfl rfl rfl rfl (by kernel_rfl) Try.func8 (by kernel_rfl)
    (of_decide_eq_true (by kernel_rfl)) (by unfold Func.isWrapper; first | (rw [if_pos (by decide +kernel)]; kernel_rfl) | (rw [if_neg (by decide +kernel)]; exact ⟨rfl, rfl⟩))
    (fun os started H enc _ => domCounts_lifted os started H enc)
#print axioms domCounts_said


end Go.Proofs.Ytghpllhfgpoidaa
