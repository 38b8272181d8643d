/- For every integer and every node: the law tapestrierlaw9.DomChain returns true and leaves its arguments as they were; no condition. -/
import Derived.Test.YtghpllhfgpoidaaDmAlive
import Derived.Test.YtghpllhfgpoidaaDmArgs
import Derived.Test.YtghpllhfgpoidaaDmChain
import Derived.Test.YtghpllhfgpoidaaRows
namespace Go.Proofs.Ytghpllhfgpoidaa
open Go Go.ChangeShapes Go.WideShapes Go.ChangeAt Go.RowKit Dm
open Go.ChangeMaps (open_string shut_string)

def chainV : Nat → List Nv
  | 0 => []
  | m + 1 => chainV m ++ [bare ((m : Int) - 1)]
theorem chainV_len : ∀ m, (chainV m).length = m
  | 0 => rfl
  | m + 1 => by
    show (chainV m ++ [bare ((m : Int) - 1)]).length = _
    rw [List.length_append, chainV_len m]
    rfl
theorem chainV_nd : ∀ m, (chainV m).map Nv.nd = chainN m
  | 0 => rfl
  | m + 1 => by
    show (chainV m ++ [bare ((m : Int) - 1)]).map Nv.nd = chainN m ++ [bareN ((m : Int) - 1)]
    rw [List.map_append, chainV_nd m]
    rfl
theorem chainV_bare : ∀ m, ∀ n ∈ chainV m, ∃ p, n = bare p
  | 0, n, h => by cases h
  | m + 1, n, h => by
    rcases List.mem_append.1 h with h | h
    · exact chainV_bare m n h
    · exact ⟨_, List.mem_singleton.1 h⟩
theorem nodes_own {W : World} {b : Nat} {v : Value} {l : List Nv} (h : W.ownsRow b 41 5 v l.length (l.flatMap nvCells)) (hc : ∀ n ∈ l, StrsAt W.heap.size W n.cv n.nd.cls) (ha : ∀ n ∈ l, PairsAt W.heap.size W n.av n.nd.ats) : NodesAt W.heap.size W v l :=
  ⟨SlAt.of_owns (sz := 5) (f := nvCells) (fun _ => rfl) h, hc, ha⟩

set_option maxRecDepth 100000 in
set_option maxHeartbeats 4000000 in
theorem domChain_walk (w : World) (n : Int) (_hn : (Lit.int .i64 n).wf = true) (z : Nv) (hc : StrsAt w.heap.size w z.cv z.nd.cls) (ha : PairsAt w.heap.size w z.av z.nd.ats) (hN : NdOk z.nd) (_hp : (Lit.int .i64 z.nd.parent).wf = true) :
    Calls Try.prog 6 #[.int .i64 n, ndVal z.nd z.cv z.av] w fun e w' => e = .returned (.bool true) ∧ Below w.heap.size w w' := by
  obtain ⟨⟨parent, tag, id, cls, ats⟩, cv, av⟩ := z
  unfold ndVal
  simp only at hc ha
  obtain ⟨pc, cc, rfl⟩ := hc.len
  obtain ⟨pa, ca, rfl⟩ := ha.len
  have bZ : Below w.heap.size w (w.alloc (.cells #[.int .i64 parent, .string tag, .string id, .slice pc cls.length cc, .slice pa ats.length ca] 41)) := (Below.refl _ _).alloc (Nat.le_refl _) _
  have kZ : Blk (w.alloc (.cells #[.int .i64 parent, .string tag, .string id, .slice pc cls.length cc, .slice pa ats.length ca] 41)) w.heap.size 41 [.int .i64 parent, .string tag, .string id, .slice pc cls.length cc, .slice pa ats.length ca] := Blk.new w 41 [.int .i64 parent, .string tag, .string id, .slice pc cls.length cc, .slice pa ats.length ca]
  obtain ⟨i0, hi, hz0, hz1, hz2⟩ := info_parts infoNode
  go_enter Try.func6, Try.ntmps6
  go_upto_region 1 with fail
  generalize w.alloc (.cells #[.int .i64 parent, .string tag, .string id, .slice pc cls.length cc, .slice pa ats.length ca] 41) = W0 at *
  have h0 := alive_any W0
  go_wp2_with fail
  refine h0.mono ?_
  clear h0
  rintro e w1 ⟨rfl, b1⟩
  have bb1 := below_next bZ b1
  have k1 := kZ.next b1
  by_cases hneg : n < 1
  · go_wp2
    go_ret
    exact ⟨rfl, bb1⟩
  by_cases hbig : 300 < n
  · go_wp2
    go_ret
    exact ⟨rfl, bb1⟩
  obtain ⟨m, rfl⟩ : ∃ m : Nat, n = (m : Int) := ⟨n.toNat, by omega⟩
  have hm1 : 1 ≤ m := by omega
  have hm2 : m ≤ 300 := by omega
  have HC : Hid (StrsAt w.heap.size w (.slice pc cls.length cc) cls) := hc
  have HAt : Hid (PairsAt w.heap.size w (.slice pa ats.length ca) ats) := ha
  have HND : Hid (NdOk ⟨parent, tag, id, cls, ats⟩) := hN
  have hs1 := bb1.size
  have hlt1 := k1.lt
  clear kZ bZ b1 hc ha hbig hN
  go_wp2
  go_loopw [6, 7] (fun x y wr => ∃ (k : Nat) (out : Value), x = out ∧ y = .int .i64 k ∧ k ≤ m ∧ wr.ownsRow w1.heap.size 41 5 out k ((chainV k).flatMap nvCells) ∧ Below w1.heap.size w1 wr) (fun _ y _ => m - (intOf y).toNat)
  case atStart => exact ⟨0, _, rfl, rfl, Nat.zero_le _, World.ownsRow_nil _ _ _ _, Below.refl _ _⟩
  case round =>
    obtain ⟨k, out, rfl, rfl, hk, hr, hb⟩ := hrel
    have hsz := hb.size
    obtain ⟨q, c, rfl⟩ := owns_form hr
    by_cases hlt : k < m
    · have hki : (k : Int) < (m : Int) := by omega
      have hw : IntKind.i64.wrap ((k : Int) - 1) = (k : Int) - 1 := by rw [IntKind.wrap_i64]; omega
      have HA : ∀ u ∈ nvCells (bare ((k : Int) - 1)), u.oneCell' = true := fun u hu => by simp [nvCells, bare] at hu; rcases hu with rfl | rfl | rfl | rfl | rfl <;> rfl
      have rA := hr.alloc (.cells #[.int .i64 ((k : Int) - 1), .string ⟨#[]⟩, .string ⟨#[]⟩, .slice none 0 0, .slice none 0 0] 41)
      have hsA : w1.heap.size ≤ (wr.alloc (.cells #[.int .i64 ((k : Int) - 1), .string ⟨#[]⟩, .string ⟨#[]⟩, .slice none 0 0, .slice none 0 0] 41)).heap.size := by rw [World.size_alloc]; omega
      go_wp2_with (at_builtin; refine wpList_append_own _ rfl _ _ 22 rfl w1.heap.size 41 i0 (.agg #[.int .i64 0, .string ⟨#[]⟩, .string ⟨#[]⟩, .slice none 0 0, .slice none 0 0]) 5 88 Try.underlying22 hi hz0 hz1 hz2 rfl (by decide) (.slice q k c) _ _ rfl rA ⟨wr.heap.size, 0, none⟩ 1 1 (nvCells (bare ((k : Int) - 1))) rfl rfl (cells_plain wr (nvCells (bare ((k : Int) - 1))) _) HA (by unfold maxLen; omega) (by omega) hsA ?_; intro v4 w4 hown4 hgrow4 hnil4)
      have hb4 : Below w1.heap.size w1 w4 := (hb.alloc hsz _).grown hgrow4 hsA (fun j e => (owns_lt rA e).1)
      have hown5 : w4.ownsRow w1.heap.size 41 5 v4 (k + 1) ((chainV (k + 1)).flatMap nvCells) := by
        show w4.ownsRow _ _ _ _ _ ((chainV k ++ [bare ((k : Int) - 1)]).flatMap nvCells)
        rw [List.flatMap_append]
        simpa using hown4
      exact ⟨⟨k + 1, v4, rfl, by go_num, by omega, hown5, hb4⟩, by simp [intOf]; omega⟩
    · have hki : ¬ (k : Int) < (m : Int) := by omega
      obtain rfl : k = m := by omega
      have hl := chainV_len k
      have hnew := new_any (.slice q k c) (chainV k) wr (nodes_own (b := w1.heap.size) (by rw [hl]; exact hr) (fun n h => by obtain ⟨p, rfl⟩ := chainV_bare k n h; exact strs_nil _ _) (fun n h => by obtain ⟨p, rfl⟩ := chainV_bare k n h; exact pairs_nil _ _)) (fun n h => by obtain ⟨p, rfl⟩ := chainV_bare k n h; exact bare_ok p)
      rw [chainV_nd] at hnew
      have hV0 : newV (chainN k) = newF [] (chainN k) := by unfold newV; rw [if_neg (by rw [chainN_len]; omega)]
      unfold Made at hnew
      rw [hV0] at hnew
      clear hV0 hl hki
      go_wp2_with fail
      refine hnew.mono ?_
      clear hnew
      rintro e w2 ⟨hm, b2⟩
      have bb2 := below_next (below_next bb1 hb) b2
      by_cases hdeep : 257 < k
      · have hd : (257 : Int) < (k : Int) := by omega
        have hV : newF [] (chainN k) = .error 11 := by
          obtain ⟨j, rfl⟩ : ∃ j, k = 258 + j := ⟨k - 258, by omega⟩
          exact chain_long j
        rw [hV] at hm
        rcases hm with ⟨tb, g, cap, qs, hV2, _⟩ | ⟨x, hV2, rfl⟩
        · cases hV2
        · cases hV2
          have h5 := num_any 11 w2
          go_wp2_with fail
          refine h5.mono ?_
          clear h5
          rintro e w2' ⟨rfl, rfl⟩
          go_wp2
          go_ret
          exact ⟨rfl, bb2⟩
      · have hd : ¬ (257 : Int) < (k : Int) := by omega
        obtain ⟨es, qe, hV, hlen, hat, hdep, hch⟩ := chain_k k hm1 (by omega)
        rw [hV] at hm
        rcases hm with ⟨tb, g, cap, qs, hV2, rfl, hT⟩ | ⟨x, hV2, rfl⟩
        · have hes : es = qs.map Em.e := Except.ok.inj hV2
          subst hes
          have hO : TreeOk (qs.map Em.e) := (newV_ok (l := chainN k) (by unfold newV; rw [if_neg (by rw [chainN_len]; omega)]; exact hV)).1
          have hql : qs.length = k := by rw [List.length_map] at hlen; exact hlen
          have k2 := (k1.next hb).next b2
          have hr2 := owns_next hr b2
          obtain ⟨⟨y0, y1, y2, y3, y4⟩, f0, _⟩ := blk5 k2
          have k3 := blk_put k2 0 (.int .i64 (k : Int))
          simp only [List.set_cons_zero] at k3
          have g3 := grown_set w2 w.heap.size 0 (.int .i64 (k : Int))
          have hr3 := hr2.kept g3 (.inr (fun e => by have := (owns_lt hr2 e).1; omega))
          have b3 := below_grown bb2 g3 bb2.size (Nat.le_refl _)
          have kp3 : Kept (fun b => wr.heap.size ≤ b) w2 (w2.setCell ⟨w.heap.size, 0, none⟩ (.int .i64 (k : Int))) := Kept.of_grown g3 (fun k e => by cases e; show ¬ wr.heap.size ≤ w.heap.size; omega)
          have HQB : Hid (∀ g, (Value.slice q k c).ownBlock = some g → g < wr.heap.size) := fun g e => (owns_lt hr e).2
          have hs23 : wr.heap.size ≤ w2.heap.size := b2.size
          have hT3 := hT.kept kp3 (fun k hk _ => hk)
          have hV3 : newV (((chainV k) ++ [(⟨⟨(k : Int), tag, id, cls, ats⟩, .slice pc cls.length cc, .slice pa ats.length ca⟩ : Nv)]).map Nv.nd) = .error 10 := by
            rw [List.map_append, chainV_nd]
            unfold newV
            rw [if_neg (by rw [List.length_append, chainN_len]; simp; omega), newF_ok_more hV]
            show newF _ [_] = _
            rw [newF_one, addV_out (by rw [hlen]; omega) (by rw [hlen]; show ¬ (0 ≤ (k : Int) ∧ (k : Int) < (k : Int)); omega)]
          have hdV : depthV (qs.map Em.e) ((k : Int) - 1) = (k : Int) - 1 := by
            unfold depthV
            rw [show (k : Int) - 1 = ((k - 1 : Nat) : Int) by omega, elAt_yes hat]
            show ((qe.depth : Nat) : Int) = _
            rw [hdep]
          have hcV : childrenV (qs.map Em.e) ((k : Int) - 1) = [] := by
            unfold childrenV
            rw [show (k : Int) - 1 = ((k - 1 : Nat) : Int) by omega, elAt_yes hat]
            exact hch
          have hs3 : wr.heap.size ≤ (w2.setCell ⟨w.heap.size, 0, none⟩ (.int .i64 (k : Int))).heap.size := Nat.le_trans hs23 kp3.size
          clear hV hT hat hV2 hr hr2 g3 hdep hch hlen hb b2 kp3 hs23 k1 k2
          go_upto_region 13 with fail
          generalize w2.setCell ⟨w.heap.size, 0, none⟩ (.int .i64 (k : Int)) = W3 at *
          clear y0 y1 y2 y3 y4 f0 bb2
          obtain ⟨⟨y0, y1, y2, y3, y4⟩, _⟩ := blk5 k3
          have hw3 := k3.lt
          have hs13 : w1.heap.size ≤ W3.heap.size := by omega
          have rA := hr3.alloc (.cells #[.int .i64 (k : Int), .string tag, .string id, .slice pc cls.length cc, .slice pa ats.length ca] 41)
          have hsA : w1.heap.size ≤ (W3.alloc (.cells #[.int .i64 (k : Int), .string tag, .string id, .slice pc cls.length cc, .slice pa ats.length ca] 41)).heap.size := by rw [World.size_alloc]; omega
          have HA : ∀ u ∈ ([.int .i64 (k : Int), .string tag, .string id, .slice pc cls.length cc, .slice pa ats.length ca] : List Value), u.oneCell' = true := fun u hu => by simp at hu; rcases hu with rfl | rfl | rfl | rfl | rfl <;> rfl
          have hcp := cells_plain W3 [.int .i64 (k : Int), .string tag, .string id, .slice pc cls.length cc, .slice pa ats.length ca] 41
          have bA : Below W3.heap.size W3 (W3.alloc (.cells #[.int .i64 (k : Int), .string tag, .string id, .slice pc cls.length cc, .slice pa ats.length ca] 41)) := (Below.refl _ _).alloc (Nat.le_refl _) _
          have hTA := hT3.next bA
          have bbA := below_next b3 bA
          have hsW : wr.heap.size ≤ (W3.alloc (.cells #[.int .i64 (k : Int), .string tag, .string id, .slice pc cls.length cc, .slice pa ats.length ca] 41)).heap.size := Nat.le_trans hs3 bA.size
          go_wp2_with (at_builtin; refine wpList_append_own _ rfl _ _ 22 rfl w1.heap.size 41 i0 (.agg #[.int .i64 0, .string ⟨#[]⟩, .string ⟨#[]⟩, .slice none 0 0, .slice none 0 0]) 5 88 Try.underlying22 hi hz0 hz1 hz2 rfl (by decide) (.slice q k c) _ _ rfl rA ⟨W3.heap.size, 0, none⟩ 1 1 [.int .i64 (k : Int), .string tag, .string id, .slice pc cls.length cc, .slice pa ats.length ca] rfl rfl hcp HA (by unfold maxLen; omega) (by omega) hsA ?_; intro v4 w4 hown4 hgrow4 hnil4)
          have b4 := bbA.grown hgrow4 (by have := bA.size; omega) (fun r e => by have := (owns_lt rA e).1; omega)
          have hT4 := hTA.kept (keep := fun b => wr.heap.size ≤ b) (Kept.of_grown hgrow4 (fun r e => by have := HQB.out r e; show ¬ wr.heap.size ≤ r; omega)) (fun k hk _ => hk)
          have hl := chainV_len k
          have hnew := new_any v4 (chainV k ++ [⟨⟨(k : Int), tag, id, cls, ats⟩, .slice pc cls.length cc, .slice pa ats.length ca⟩]) w4 (nodes_own (b := w1.heap.size) (by
              rw [List.length_append, hl, List.flatMap_append]
              simpa [nvCells] using hown4) (fun n h => by
              rcases List.mem_append.1 h with h | h
              · obtain ⟨p, rfl⟩ := chainV_bare k n h; exact strs_nil _ _
              · obtain rfl := List.mem_singleton.1 h; exact (HC.out.below b4).mono b4.size) (fun n h => by
              rcases List.mem_append.1 h with h | h
              · obtain ⟨p, rfl⟩ := chainV_bare k n h; exact pairs_nil _ _
              · obtain rfl := List.mem_singleton.1 h; exact (HAt.out.below b4).mono b4.size)) (fun n h => by
              rcases List.mem_append.1 h with h | h
              · obtain ⟨p, rfl⟩ := chainV_bare k n h; exact bare_ok p
              · obtain rfl := List.mem_singleton.1 h; exact ⟨HND.out.tag, HND.out.id, HND.out.cls, HND.out.ats, HND.out.ncls, HND.out.nats⟩)
          unfold Made at hnew
          rw [hV3] at hnew
          obtain ⟨q4, c4, rfl⟩ := owns_form hown4
          clear hV3 hown4 hgrow4 hnil4 rA HA hcp hTA bbA bA hsA hsW HC HAt HND HQB hr3 hT3 b3 y0 y1 y2 y3 y4 k3 hl
          go_wp2_with fail
          refine hnew.mono ?_
          clear hnew
          rintro e w5 ⟨hm5, b5⟩
          rcases hm5 with ⟨_, _, _, _, hV5, _⟩ | ⟨x, hV5, rfl⟩
          · cases hV5
          · cases hV5
            have hT5 := hT4.next b5
            have b45 := below_next b4 b5
            have h6 := num_any 0 w5
            have h7 := depth_any _ tb g cap qs ((k : Int) - 1) w5 hT5
            have h8 := children_any _ tb g cap qs ((k : Int) - 1) w5 hT5 hO (by omega)
            rw [hdV] at h7
            rw [hcV] at h8
            have hw : IntKind.i64.wrap ((k : Int) - 1) = (k : Int) - 1 := by rw [IntKind.wrap_i64]; omega
            clear hT5 hT4 hO hdV hcV hql b4 b5
            go_wp2_with fail
            refine h6.mono ?_
            clear h6
            rintro e w5' ⟨rfl, rfl⟩
            go_wp2_with fail
            refine h7.mono ?_
            clear h7
            rintro e w5' ⟨rfl, rfl⟩
            go_wp2_with fail
            refine h8.mono ?_
            clear h8
            rintro e w6 ⟨v6, rfl, hv6, b6⟩
            obtain ⟨q6, c6, rfl⟩ := owns_form hv6
            have h9 := num_any 10 w6
            have b56 := below_next b45 b6
            clear hv6
            go_wp2_with fail
            refine h9.mono ?_
            clear h9
            rintro e w6' ⟨rfl, rfl⟩
            go_wp2
            go_ret
            exact ⟨rfl, b56⟩
        · cases hV2


set_option maxRecDepth 100000 in
theorem domChain_lifted (os : Os) (started : os.Started) (H : Type) (enc : TypeId × Value → H) :
    ReturnsInHanded {} Try.checked os 6 .any (Rows.domChainSpec.pre6 enc Try.prog Try.f6 Rows.domChainRow.domain false) (Rows.domChainSpec.post enc Try.prog Try.f6 false true false false) := by
  refine returnsInHanded_of_change_sized (C := Try.checked) ownNone started (by kernel_rfl) Try.func6
    (ChangeSpec.witness6 (enc := enc) (C := Try.checked) false ⟨#[], #[.int .i64 0, .agg #[.int .i64 0, .string ⟨#[]⟩, .string ⟨#[]⟩, .slice none 0 0, .slice none 0 0]], []⟩ 8 (by kernel_rfl) (by kernel_rfl) (by kernel_rfl) (by kernel_rfl)) ?_
  intro W base args ds gs before hval hW _ hsz0 _
  have hW' := hW
  obtain ⟨p, q, hA0, hV, rfl, hfz, hnd⟩ := hW
  have hA : DataW.TrodAll enc Try.prog W 0 (fun _ => true) true Try.f6.params.toList args.toList ds p := hA0
  rw [Try.params6] at hA hval hsz0
  obtain ⟨v0, vs0, d0, ds0, p0, q0, hargs, rfl, rfl, h0, r0⟩ := trodAll_cons hA
  obtain ⟨v1, vs1, d1, ds1, p1, q1, rfl, rfl, rfl, h1, r1⟩ := trodAll_cons r0
  obtain ⟨rfl, rfl, rfl⟩ := trodAll_nil r1
  obtain rfl : args = #[v0, v1] := by cases args; simp_all
  obtain ⟨rfl, rfl⟩ := trodVars_none hV
  have hsz := List.all_eq_true.1 hsz0
  obtain ⟨a0, rfl, rfl, rfl, w0⟩ := open_int Try.underlying3 (hval 0 3 v0 rfl rfl) h0
  obtain ⟨z1, hz1, wc1, wa1, y1, u1⟩ := Dm.nodeAt_of_reads h1 (hval 1 41 v1 rfl rfl) (fun n hn => by simpa using hsz n (DataW.weights_mem_each (j := 1) rfl rfl n hn))
  subst hz1
  have k1 := h1
  have lt1 : ∀ x ∈ p1, x.block < W.heap.size := by obtain ⟨m, hm⟩ := k1; exact DataW.trod_lt m _ _ _ hm
  clear hA0
  refine (domChain_walk W a0 w0 z1 wc1 wa1 y1 u1).mono fun e W' ⟨he, bel⟩ => ?_
  subst he
  exact ⟨_, rfl, _, _, _, [], _, [], hW', trodAll_mk1 (shut_bool Try.underlying4 _), (trodAll_cons_mk (shut_int Try.underlying3 w0) (trodAll_cons_mk (Below.trod laidOut (by kernel_rfl) (of_decide_eq_true (by kernel_rfl)) k1 bel lt1) trodAll_mk0)), rfl, bel.frame _, fun h => by cases h⟩

theorem domChain_said : Rows.DomChainSaid :=
  OpenClaim.holds_of_wide 6 Try.f6 rfl rfl rfl rfl rfl rfl rfl ⟨rfl, rfl, rfl, rfl, rfl⟩ rfl rfl rfl rfl rfl (by kernel_rfl) Try.func6 (by kernel_rfl)
    (of_decide_eq_true (by kernel_rfl)) (by unfold Func.isWrapper; first | (rw [if_pos (by decide +kernel)]; kernel_rfl) | (rw [if_neg (by decide +kernel)]; exact ⟨rfl, rfl⟩))
    (fun os started H enc _ => domChain_lifted os started H enc)
#print axioms domChain_said


end Go.Proofs.Ytghpllhfgpoidaa
