/- For every slice of nodes and every number: the law tapestrierlaw9.DomTells returns true and leaves its argument as it was; no condition. -/
import Derived.Test.YtghpllhfgpoidaaDmBig
import Derived.Test.YtghpllhfgpoidaaDmRefS
import Derived.Test.YtghpllhfgpoidaaDmAll
import Derived.Test.YtghpllhfgpoidaaDmArgs
import Derived.Test.YtghpllhfgpoidaaRows
namespace Go.Proofs.Ytghpllhfgpoidaa
open Go Go.ChangeShapes Go.WideShapes Go.ChangeAt Go.RowKit Dm
open Go.ChangeMaps (open_string shut_string)

theorem low_ok {n : Nd} (h : NdOk n) : NdOk (lowN n) := by
  refine ⟨by show (lowS n.tag).size ≤ _; rw [lowS_size]; exact h.tag, h.id, h.cls, fun a ha => ?_, h.ncls, by show (n.ats.map lowA).length * 32 ≤ _; rw [List.length_map]; exact h.nats⟩
  obtain ⟨b, hb, rfl⟩ := List.mem_map.1 (show a ∈ n.ats.map lowA from ha)
  have := h.ats b hb
  exact ⟨by show (lowS b.1).size ≤ _; rw [lowS_size]; exact this.1, this.2⟩
theorem addV_nds {es es' : List El} {n : Nd} (h : addV es n = .ok es') (he : ∀ e ∈ es, NdOk e.nd) (hn : NdOk n) : ∀ e ∈ es', NdOk e.nd := by
  unfold addV at h
  split at h
  · split at h
    · cases h
      intro e hm
      obtain rfl := List.mem_singleton.1 hm
      exact low_ok hn
    · cases h
  · split at h
    · rename_i hp
      split at h
      · cases h
      · cases h
        intro e hm
        rcases List.mem_append.1 hm with hm | hm
        · unfold growV at hm
          rcases List.mem_or_eq_of_mem_set hm with hm | rfl
          · exact he e hm
          · show NdOk (es.getD n.parent.toNat zeroEl).nd
            have hlt : n.parent.toNat < es.length := by omega
            rw [show es.getD n.parent.toNat zeroEl = es[n.parent.toNat] by simp [List.getD, hlt]]
            exact he _ (List.getElem_mem hlt)
        · obtain rfl := List.mem_singleton.1 hm
          exact low_ok hn
    · cases h
theorem newF_nds : ∀ (l : List Nd) (es es' : List El), newF es l = .ok es' → (∀ e ∈ es, NdOk e.nd) → (∀ n ∈ l, NdOk n) → ∀ e ∈ es', NdOk e.nd
  | [], es, es', h, he, _ => by cases h; exact he
  | n :: l, es, es', h, he, hl => by
    unfold newF at h
    cases ha : addV es n with
    | error x => rw [ha] at h; cases h
    | ok e2 =>
      rw [ha] at h
      exact newF_nds l e2 es' h (addV_nds ha he (hl n (List.mem_cons_self ..))) (fun m hm => hl m (List.mem_cons_of_mem _ hm))
theorem newV_nds {l : List Nd} {es : List El} (h : newV l = .ok es) (hl : ∀ n ∈ l, NdOk n) : ∀ e ∈ es, NdOk e.nd := by
  unfold newV at h
  split at h
  · cases h
  · exact newF_nds l [] es h (fun _ h => by cases h) hl

set_option maxRecDepth 100000 in
set_option maxHeartbeats 8000000 in
theorem domTells_walk (w : World) (v : Value) (l : List Nv) (hv : NodesAt w.heap.size w v l) (hN : ∀ n ∈ l, NdOk n.nd) (_hl : l.length * 88 ≤ 140737488351232) (a : Int) (_ha : (Lit.int .i64 a).wf = true) :
    Calls Try.prog 3 #[v, .int .i64 a] w fun e w' => e = .returned (.bool true) ∧ Below w.heap.size w w' := by
  have h0 := alive_any w
  obtain ⟨p, cap, rfl⟩ := hv.row.len
  have HV : Hid (NodesAt w.heap.size w (.slice p l.length cap) l) := hv
  have HN : Hid (∀ n ∈ l, NdOk n.nd) := hN
  clear hv hN
  go_enter Try.func3, Try.ntmps3
  go_wp2_with fail
  refine h0.mono ?_
  clear h0
  rintro e w1 ⟨rfl, b1⟩
  have h1 := big_any _ l w1 (HV.out.next b1)
  go_wp2_with fail
  refine h1.mono ?_
  clear h1
  rintro e w1' ⟨big, rfl, rfl, hbig⟩
  cases big with
  | true =>
    clear hbig
    go_wp2
    go_ret
    exact ⟨rfl, b1⟩
  | false =>
    have hsm := hbig rfl
    clear hbig
    have h2 := new_any _ l w1' (HV.out.next b1) HN.out
    unfold Made at h2
    go_wp2_with fail
    refine h2.mono ?_
    clear h2
    rintro e w2 ⟨hm, b2⟩
    have bb2 := below_next b1 b2
    have h3 := refNew_any _ l w2 (HV.out.next bb2) HN.out
    unfold RMade at h3
    rcases hm with ⟨tb3, g, cap3, qs, hV, rfl, hT⟩ | ⟨x, hV, rfl⟩
    · rw [hV] at h3
      obtain ⟨hO, hel, hl4⟩ := newV_ok hV
      have hnd := newV_nds hV (fun n hn => by obtain ⟨m, hm, rfl⟩ := List.mem_map.1 hn; exact HN.out m hm)
      go_wp2_with fail
      refine h3.mono ?_
      clear h3
      rintro e w3 ⟨hm3, b3⟩
      rcases hm3 with ⟨tb4, nv, dv, ns, ds, es, hV3, rfl, hR, hE⟩ | ⟨x, hV3, _⟩
      · obtain rfl : qs.map Em.e = es := Except.ok.inj hV3
        have bb3 := below_next bb2 b3
        have hT3 := hT.next b3
        have hql : qs.length = l.length := by rw [List.length_map, List.length_map] at hel; exact hel
        have hl40 : l.length ≤ 40 := by rw [List.length_map] at hl4; omega
        have he4 : (qs.map Em.e).length ≤ 4096 := by rw [List.length_map]; omega
        have hq4 : qs.length ≤ 4096 := by omega
        have HNQ : Hid (∀ q ∈ qs, NdOk q.e.nd) := fun q hq => hnd q.e (List.mem_map_of_mem hq)
        have HOq : Hid (TreeOk (qs.map Em.e)) := hO
        have HEq : Hid (Tells (qs.map Em.e) ns ds) := hE
        have HQL : Hid (qs.length = l.length) := hql
        clear hV hV3 hel hl4 hsm b2 b3 bb2 hT hnd hO hE
        have hn0 := num_any 0 w3
        go_wp2_with fail
        refine hn0.mono ?_
        clear hn0
        rintro e w3' ⟨rfl, rfl⟩
        have hle := len_any _ tb3 g cap3 qs w3' hT3
        rw [hql] at hle
        clear hql
        go_wp2_with fail
        refine hle.mono ?_
        clear hle
        rintro e w3'' ⟨rfl, rfl⟩
        have ha1 := all_any _ tb3 g cap3 qs w3'' hT3 HOq.out hq4
        go_wp2_with fail
        refine ha1.mono ?_
        clear ha1
        rintro e w4 ⟨v4, rfl, hr4, b4⟩
        have ha2 := refAll_any _ tb4 nv dv ns ds _ w4 (hR.next b4) HEq.out HOq.out he4
        go_wp2_with fail
        refine ha2.mono ?_
        clear ha2
        rintro e w5 ⟨v5, rfl, hr5, b5⟩
        have hs5 := sameInts_yes v4 v5 _ w5 (hr4.at.next b5) hr5.at
        go_wp2_with fail
        refine hs5.mono ?_
        clear hs5
        rintro e w6 ⟨rfl, n6, rfl⟩
        have bb5 := below_next (below_next bb3 b4) b5
        have hT5 := (hT3.next b4).next b5
        have hR5 := (hR.next b4).next b5
        clear hT3 hR hr4 hr5 b4 b5 bb3
        obtain ⟨w6, hw6⟩ : ∃ w6, w5.drewN n6 = w6 := ⟨_, rfl⟩
        rw [hw6]
        have HTq : Hid (∀ X, Below w6.heap.size w6 X → Tr w1'.heap.size X tb3 g cap3 qs) := fun X hX => (hT5.drewN n6).next (by rw [hw6]; exact hX)
        have HRq : Hid (∀ X, Below w6.heap.size w6 X → RTr w2.heap.size X tb4 nv dv ns ds) := fun X hX => (hR5.next (below_drewN w5 n6)).next (by rw [hw6]; exact hX)
        have bb6 : Below w.heap.size w w6 := by rw [← hw6]; exact below_drewN' bb5 n6
        clear hT5 hR5 bb5 hw6
        go_wp2
        go_loopw [11, 12] (fun y _ wr => ∃ m : Nat, y = .int .i64 ((m : Int) - 1) ∧ m ≤ l.length + 2 ∧ Below w6.heap.size w6 wr) (fun y _ _ => l.length + 2 - (intOf y + 1).toNat)
        case atStart => exact ⟨0, rfl, by omega, Below.refl _ _⟩
        case round =>
          obtain ⟨m, rfl, hm, bq⟩ := hrel
          by_cases hlt : m < l.length + 2
          · have hmi : (m : Int) - 1 ≤ (l.length : Int) := by omega
            by_cases hm0 : m = 0
            · subst hm0
              have q1 := node_any _ tb3 g cap3 qs a wr (HTq.out wr bq) HNQ.out
              go_wp2_with fail
              refine q1.mono ?_
              clear q1
              rintro e x1 ⟨cv1, av1, rfl, hc1, ha1, b1⟩
              have k1 := below_next bq b1
              have q2 := refNode_any _ tb4 nv dv ns ds _ a x1 (HRq.out x1 k1) HEq.out
              go_wp2_with fail
              refine q2.mono ?_
              clear q2
              rintro e x2 ⟨cv2, av2, rfl, hc2, ha2, b2⟩
              have k2 := below_next k1 b2
              have q3 := sameNode_yes _ cv1 av1 cv2 av2 x2 (hc1.at.next b2) (ha1.at.next b2) hc2 ha2
              go_wp2_with fail
              refine q3.mono ?_
              clear q3
              rintro e x3 ⟨rfl, b3⟩
              have k3 := below_next k2 b3
              have q4 := parent_any _ tb3 g cap3 qs a x3 (HTq.out x3 k3)
              go_wp2_with fail
              refine q4.mono ?_
              clear q4
              rintro e x3' ⟨rfl, rfl⟩
              have q5 := refParent_any _ tb4 nv dv ns ds _ a x3' (HRq.out x3' k3) HEq.out
              go_wp2_with fail
              refine q5.mono ?_
              clear q5 hc1 ha1 hc2 ha2
              rintro e x4 ⟨rfl, rfl⟩
              generalize parentV (qs.map Em.e) a = vp
              have q6 := children_any _ tb3 g cap3 qs a x4 (HTq.out x4 k3) HOq.out hq4
              go_wp2_with fail
              refine q6.mono ?_
              clear q6
              rintro e x5 ⟨v5, rfl, hr5, b5⟩
              have k5 := below_next k3 b5
              have q7 := refChildren_any _ tb4 nv dv ns ds _ a x5 (HRq.out x5 k5) HEq.out HOq.out he4
              go_wp2_with fail
              refine q7.mono ?_
              clear q7
              rintro e x6 ⟨v6, rfl, hr6, b6⟩
              have k6 := below_next k5 b6
              have q8 := sameInts_yes v5 v6 _ x6 (hr5.at.next b6) hr6.at
              go_wp2_with fail
              refine q8.mono ?_
              clear q8 hr5 hr6
              rintro e x7 ⟨rfl, n7, hdx7⟩
              have k7 : Below w6.heap.size w6 x7 := by rw [hdx7]; exact below_drewN' k6 n7
              clear hdx7
              have q9 := depth_any _ tb3 g cap3 qs a _ (HTq.out _ k7)
              go_wp2_with fail
              refine q9.mono ?_
              clear q9
              rintro e x8 ⟨rfl, rfl⟩
              have q10 := refDepth_any _ tb4 nv dv ns ds _ a _ (HRq.out _ k7) HEq.out
              go_wp2_with fail
              refine q10.mono ?_
              clear q10
              rintro e x9 ⟨rfl, rfl⟩
              generalize depthV (qs.map Em.e) a = vd
              have q11 := place_any _ tb3 g cap3 qs a _ (HTq.out _ k7)
              go_wp2_with fail
              refine q11.mono ?_
              clear q11
              rintro e x10 ⟨rfl, rfl⟩
              have q12 := refPlace_any _ tb4 nv dv ns ds _ a _ (HRq.out _ k7) HEq.out HOq.out he4
              go_wp2_with fail
              refine q12.mono ?_
              clear q12
              rintro e x11 ⟨rfl, n11, hdx11⟩
              generalize placeV (qs.map Em.e) a = vl
              have k11 : Below w6.heap.size w6 x11 := by rw [hdx11]; exact below_drewN' k7 n11
              clear hdx11
              have q13 := before_any _ tb3 g cap3 qs a _ (HTq.out _ k11) HOq.out hq4
              go_wp2_with fail
              refine q13.mono ?_
              clear q13
              rintro e x12 ⟨rfl, rfl⟩
              have q14 := refBefore_any _ tb4 nv dv ns ds _ a _ (HRq.out _ k11) HEq.out HOq.out he4
              go_wp2_with fail
              refine q14.mono ?_
              clear q14
              rintro e x13 ⟨rfl, n13, hdx13⟩
              generalize beforeV (qs.map Em.e) a = vb
              have k13 : Below w6.heap.size w6 x13 := by rw [hdx13]; exact below_drewN' k11 n13
              clear hdx13
              go_wp2
              exact ⟨⟨1, by first | rfl | go_num, by omega, k13⟩, by simp [intOf]⟩
            · obtain ⟨κ, hκ⟩ : ∃ κ : Int, (m : Int) - 1 = κ := ⟨_, rfl⟩
              rw [hκ]
              have hne : (κ == -1) = false := by
                have : ¬ κ = -1 := by omega
                simpa using this
              have hki : κ ≤ (l.length : Int) := by omega
              have hwm : IntKind.i64.wrap (κ + 1) = κ + 1 := by rw [IntKind.wrap_i64]; omega
              have HK : Hid ((m : Int) - 1 = κ) := hκ
              clear hκ hmi
              have q1 := node_any _ tb3 g cap3 qs κ wr (HTq.out wr bq) HNQ.out
              go_wp2_with fail
              refine q1.mono ?_
              clear q1
              rintro e x1 ⟨cv1, av1, rfl, hc1, ha1, b1⟩
              have k1 := below_next bq b1
              have q2 := refNode_any _ tb4 nv dv ns ds _ κ x1 (HRq.out x1 k1) HEq.out
              go_wp2_with fail
              refine q2.mono ?_
              clear q2
              rintro e x2 ⟨cv2, av2, rfl, hc2, ha2, b2⟩
              have k2 := below_next k1 b2
              have q3 := sameNode_yes _ cv1 av1 cv2 av2 x2 (hc1.at.next b2) (ha1.at.next b2) hc2 ha2
              go_wp2_with fail
              refine q3.mono ?_
              clear q3
              rintro e x3 ⟨rfl, b3⟩
              have k3 := below_next k2 b3
              have q4 := parent_any _ tb3 g cap3 qs κ x3 (HTq.out x3 k3)
              go_wp2_with fail
              refine q4.mono ?_
              clear q4
              rintro e x3' ⟨rfl, rfl⟩
              have q5 := refParent_any _ tb4 nv dv ns ds _ κ x3' (HRq.out x3' k3) HEq.out
              go_wp2_with fail
              refine q5.mono ?_
              clear q5 hc1 ha1 hc2 ha2
              rintro e x4 ⟨rfl, rfl⟩
              generalize parentV (qs.map Em.e) κ = vp
              have q6 := children_any _ tb3 g cap3 qs κ x4 (HTq.out x4 k3) HOq.out hq4
              go_wp2_with fail
              refine q6.mono ?_
              clear q6
              rintro e x5 ⟨v5, rfl, hr5, b5⟩
              have k5 := below_next k3 b5
              have q7 := refChildren_any _ tb4 nv dv ns ds _ κ x5 (HRq.out x5 k5) HEq.out HOq.out he4
              go_wp2_with fail
              refine q7.mono ?_
              clear q7
              rintro e x6 ⟨v6, rfl, hr6, b6⟩
              have k6 := below_next k5 b6
              have q8 := sameInts_yes v5 v6 _ x6 (hr5.at.next b6) hr6.at
              go_wp2_with fail
              refine q8.mono ?_
              clear q8 hr5 hr6
              rintro e x7 ⟨rfl, n7, hdx7⟩
              have k7 : Below w6.heap.size w6 x7 := by rw [hdx7]; exact below_drewN' k6 n7
              clear hdx7
              have q9 := depth_any _ tb3 g cap3 qs κ _ (HTq.out _ k7)
              go_wp2_with fail
              refine q9.mono ?_
              clear q9
              rintro e x8 ⟨rfl, rfl⟩
              have q10 := refDepth_any _ tb4 nv dv ns ds _ κ _ (HRq.out _ k7) HEq.out
              go_wp2_with fail
              refine q10.mono ?_
              clear q10
              rintro e x9 ⟨rfl, rfl⟩
              generalize depthV (qs.map Em.e) κ = vd
              have q11 := place_any _ tb3 g cap3 qs κ _ (HTq.out _ k7)
              go_wp2_with fail
              refine q11.mono ?_
              clear q11
              rintro e x10 ⟨rfl, rfl⟩
              have q12 := refPlace_any _ tb4 nv dv ns ds _ κ _ (HRq.out _ k7) HEq.out HOq.out he4
              go_wp2_with fail
              refine q12.mono ?_
              clear q12
              rintro e x11 ⟨rfl, n11, hdx11⟩
              generalize placeV (qs.map Em.e) κ = vl
              have k11 : Below w6.heap.size w6 x11 := by rw [hdx11]; exact below_drewN' k7 n11
              clear hdx11
              have q13 := before_any _ tb3 g cap3 qs κ _ (HTq.out _ k11) HOq.out hq4
              go_wp2_with fail
              refine q13.mono ?_
              clear q13
              rintro e x12 ⟨rfl, rfl⟩
              have q14 := refBefore_any _ tb4 nv dv ns ds _ κ _ (HRq.out _ k11) HEq.out HOq.out he4
              go_wp2_with fail
              refine q14.mono ?_
              clear q14
              rintro e x13 ⟨rfl, n13, hdx13⟩
              generalize beforeV (qs.map Em.e) κ = vb
              have k13 : Below w6.heap.size w6 x13 := by rw [hdx13]; exact below_drewN' k11 n13
              clear hdx13
              go_wp2
              have hκ := HK.out
              exact ⟨⟨m + 1, by congr 1; omega, by omega, k13⟩, by simp [intOf]; omega⟩
          · have hmi : ¬ (m : Int) - 1 ≤ (l.length : Int) := by omega
            have bbq := below_next bb6 bq
            go_wp2
            go_ret
            exact ⟨rfl, bbq⟩
      · cases hV3
    · rw [hV] at h3
      go_wp2_with fail
      refine h3.mono ?_
      clear h3
      rintro e w3 ⟨hm3, b3⟩
      rcases hm3 with ⟨tb4, nv, dv, ns, ds, es, hV3, _, _, _⟩ | ⟨y, hV3, rfl⟩
      · cases hV3
      · obtain rfl : x = y := Except.error.inj hV3
        have bb3 := below_next bb2 b3
        have hx0 : (x != 0) = true := by
          rcases newV_err hV with rfl | rfl | rfl <;> rfl
        have hn0 := num_any x w3
        clear hV hV3 hsm
        go_wp2_with fail
        refine hn0.mono ?_
        clear hn0
        rintro e w3' ⟨rfl, rfl⟩
        go_wp2
        go_ret
        exact ⟨rfl, bb3⟩


set_option maxRecDepth 100000 in
theorem domTells_lifted (os : Os) (started : os.Started) (H : Type) (enc : TypeId × Value → H) :
    ReturnsInHanded {} Try.checked os 3 .any (Rows.domTellsSpec.pre6 enc Try.prog Try.f3 Rows.domTellsRow.domain false) (Rows.domTellsSpec.post enc Try.prog Try.f3 false true false false) := by
  refine returnsInHanded_of_change_sized (C := Try.checked) ownNone started (by kernel_rfl) Try.func3
    (ChangeSpec.witness6 (enc := enc) (C := Try.checked) false ⟨#[], #[.slice none 0 0, .int .i64 0], []⟩ 8 (by kernel_rfl) (by kernel_rfl) (by kernel_rfl) (by kernel_rfl)) ?_
  intro W base args ds gs before hval hW _ hsz0 _
  have hW' := hW
  obtain ⟨p, q, hA0, hV, rfl, hfz, hnd⟩ := hW
  have hA : DataW.TrodAll enc Try.prog W 0 (fun _ => true) true Try.f3.params.toList args.toList ds p := hA0
  rw [Try.params3] at hA hval hsz0
  obtain ⟨v0, vs0, d0, ds0, p0, q0, hargs, rfl, rfl, h0, r0⟩ := trodAll_cons hA
  obtain ⟨v1, vs1, d1, ds1, p1, q1, rfl, rfl, rfl, h1, r1⟩ := trodAll_cons r0
  obtain ⟨rfl, rfl, rfl⟩ := trodAll_nil r1
  obtain rfl : args = #[v0, v1] := by cases args; simp_all
  obtain ⟨rfl, rfl⟩ := trodVars_none hV
  have hsz := List.all_eq_true.1 hsz0
  obtain ⟨a0, len0, cap0, rfl⟩ := okWide_slice Try.underlying22 (hval 0 22 v0 rfl rfl)
  have k0 := h0
  have lt0 : ∀ x ∈ p0, x.block < W.heap.size := by obtain ⟨m, hm⟩ := k0; exact DataW.trod_lt m _ _ _ hm
  obtain ⟨z0, w0, y0, u0⟩ := Dm.nodesAt_of_reads k0 (fun n hn => by simpa using hsz n (DataW.weights_mem_each (j := 0) rfl rfl n hn))
  obtain ⟨a1, rfl, rfl, rfl, w1⟩ := open_int Try.underlying3 (hval 1 3 v1 rfl rfl) h1
  clear hA0
  refine (domTells_walk W _ z0 w0 y0 u0 a1 w1).mono fun e W' ⟨he, bel⟩ => ?_
  subst he
  exact ⟨_, rfl, _, _, _, [], _, [], hW', trodAll_mk1 (shut_bool Try.underlying4 _), (trodAll_cons_mk (Below.trod laidOut (by kernel_rfl) (of_decide_eq_true (by kernel_rfl)) k0 bel lt0) (trodAll_cons_mk (shut_int Try.underlying3 w1) trodAll_mk0)), rfl, bel.frame _, fun h => by cases h⟩

theorem domTells_said : Rows.DomTellsSaid :=
  OpenClaim.holds_of_wide 3 Try.f3 rfl rfl rfl rfl rfl rfl rfl ⟨rfl, rfl, rfl, rfl, rfl⟩ rfl rfl rfl rfl rfl (by kernel_rfl) Try.func3 (by kernel_rfl)
    (of_decide_eq_true (by kernel_rfl)) (by unfold Func.isWrapper; first | (rw [if_pos (by decide +kernel)]; kernel_rfl) | (rw [if_neg (by decide +kernel)]; exact ⟨rfl, rfl⟩))
    (fun os started H enc _ => domTells_lifted os started H enc)
#print axioms domTells_said


end Go.Proofs.Ytghpllhfgpoidaa
