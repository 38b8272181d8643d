/- For all nodes and every selector within the second form's bound: the law tapestrierlaw10.MatchSelectors returns true. -/
import Derived.Test.YtchfnnoabejlpaaMtSame
import Derived.Test.YtchfnnoabejlpaaDmArgs
import Derived.Test.YtchfnnoabejlpaaRows
namespace Go.Proofs.Ytchfnnoabejlpaa
open Go.Proofs.Ytchfnnoabejlpaa.Tre
open Go Go.ChangeShapes Go.WideShapes Go.ChangeAt Go.RowKit Dm Mt Wg
open Go.ChangeMaps (open_string shut_string)

set_option maxRecDepth 100000 in
set_option maxHeartbeats 8000000 in
theorem matchSelectors_walk (w : World) (hM : Mt.ML w) (v0 : Value) (l : List Nv) (hl : NodesAt w.heap.size w v0 l) (hN : ∀ n ∈ l, NdOk n.nd) (_h88 : l.length * 88 ≤ 140737488351232) (v1 : Value) (s : Sel) (hs : SelAt s w v1) (hw : SW 10 s) (ho : OkD 1048576 10 s) :
    Calls Try.prog 3 #[v0, v1] w fun e w' => e = .returned (.bool true) ∧ Below w.heap.size w w' := by
  obtain ⟨p, cap, rfl⟩ := hl.row.len
  obtain ⟨x1, rfl, hx⟩ := hs
  obtain ⟨q, qc, rfl⟩ := Wg.RowT.len hx
  obtain ⟨W, hW⟩ : ∃ W, w.alloc (.cells #[.slice q s.length qc] 25) = W := ⟨_, rfl⟩
  have b1 : Below w.heap.size w W := by rw [← hW]; exact (Below.refl _ _).alloc (Nat.le_refl _) _
  have k1 : Blk W w.heap.size 25 [.slice q s.length qc] := by rw [← hW]; exact Blk.new w 25 _
  have h0 := Mt.alive_any W (hM.next b1)
  have HM : Hid (Mt.ML w) := hM
  have HL : Hid (NodesAt w.heap.size w (.slice p l.length cap) l) := hl
  have HN : Hid (∀ n ∈ l, NdOk n.nd) := hN
  have HX : Hid (PartsR 10 w.heap.size w (.slice q s.length qc) s) := hx
  have HW : Hid (SW 10 s) := hw
  have HO : Hid (OkD 1048576 10 s) := ho
  clear hl hN hx hw ho hM
  go_enter Try.func3, Try.ntmps3
  go_wp2_with fail
  refine h0.mono ?_
  clear h0 hW
  rintro e w1 ⟨rfl, b2⟩
  have b12 := below_next b1 b2
  have K1 : Hid (Blk w1 w.heap.size 25 [.slice q s.length qc]) := k1.next b2
  have c0 := (blk1 K1.out).1
  obtain ⟨w2, hw2⟩ : ∃ w2, w1.alloc (.cells #[.slice q s.length qc] 25) = w2 := ⟨_, rfl⟩
  have b3 : Below w1.heap.size w1 w2 := by rw [← hw2]; exact (Below.refl _ _).alloc (Nat.le_refl _) _
  have k2 : Blk w2 w1.heap.size 25 [.slice q s.length qc] := by rw [← hw2]; exact Blk.new w1 25 _
  have b13 := below_next b12 b3
  have hd := Wg.Dear_deep (.slice (some ⟨w1.heap.size, 0, none⟩) 1 1) [s] w2 (sels_one11 k2 (HX.out.next b13))
  have K2 : Hid (Blk w2 w.heap.size 25 [.slice q s.length qc]) := K1.out.next b3
  clear k1 k2 b1 b2
  go_wp2_with fail
  refine hd.mono ?_
  clear hd hw2 c0
  rintro e w3 ⟨much, rfl, HD, b4⟩
  have b14 := below_next b13 b4
  have K3 : Hid (Blk w3 w.heap.size 25 [.slice q s.length qc]) := K2.out.next b4
  have ht := Mt.trees_any _ l w3 (HM.out.next b14) (HL.out.next b14) HN.out
  clear b12 b3 b13 b4 K1 K2
  go_wp2_with fail
  refine ht.mono ?_
  clear ht
  rintro e w4 ⟨hT, b5⟩
  have b15 := below_next b14 b5
  have K4 : Hid (Blk w4 w.heap.size 25 [.slice q s.length qc]) := K3.out.next b5
  clear b14 b5 K3
  unfold Mt.Trees at hT
  rcases hT with rfl | ⟨tb, rb, b, nv, dv, ns, ds, es, rfl, hG, hR, hE, hel, hl40, hV, hsm⟩
  · cases much with
    | true =>
      go_wp2
      go_ret
      exact ⟨rfl, b15⟩
    | false =>
      go_wp2
      go_ret
      exact ⟨rfl, b15⟩
  cases much with
  | true =>
    clear hG hR hE hV hsm
    go_wp2
    go_ret
    exact ⟨rfl, b15⟩
  | false =>
    have hfew : FewT 10 s := by
      have h := HD.out rfl
      unfold FewD at h
      have h2 := h s (List.mem_singleton.2 rfl)
      exact ⟨h2.1, fun p hp => ⟨(h2.2 p hp).1, (h2.2 p hp).2⟩⟩
    have hTA := (Rf.TE.of_new hR hE hV hsm).1
    obtain ⟨T, hTT⟩ : ∃ T : Rf.TE, T = Rf.TE.mk b rb nv dv ns ds es := ⟨_, rfl⟩
    rw [← hTT] at hTA
    have hTe : T.es = es := by rw [hTT]
    have hTp : T.p = .pointer (some ⟨rb, 0, none⟩) := by rw [hTT]
    have CM : Hid (∀ e : Int, ∀ X, Below w4.heap.size w4 X → Calls Try.prog 12 #[.pointer (some ⟨tb, 0, none⟩), .int .i64 e, .agg #[.slice q s.length qc]] X fun r w' => r = .returned (.bool (Mt.selectorV es e s)) ∧ Below X.heap.size X w') := fun e X hX =>
      (hG.next hX).sel e 10 _ s (Mt.parts_of (HX.out.next (below_next b15 hX)) hfew HW.out)
    have CR : Hid (∀ e : Int, ∀ X, Below w4.heap.size w4 X → Calls Try.prog 13 #[.pointer (some ⟨rb, 0, none⟩), .int .i64 e, .agg #[.slice q s.length qc]] X fun r w' => r = .returned (.bool (Mt.selectorV es e s)) ∧ Below X.heap.size X w') := fun e X hX => by
      have h := Rf.selector_any T (cutS 8 (cutS 9 s)) (.slice q s.length qc) e X (hTA.next hX) (PartsR.cut (PartsR.cut (HX.out.next (below_next b15 hX)))) (Rf.okS_of 8 (OkD_cut 8 (OkD_cut 9 HO.out)))
      rw [hTe, hTp, cutS_two, same_sel] at h
      exact h
    have H40 : Hid (l.length ≤ 40) := hl40
    have hln : l.length ≤ 40 := hl40
    clear hG hR hE hel hV hsm hfew hTA hTT hTe hTp HD HX HW HO HL HN hl40 T
    go_wp2
    go_loopw [10] (fun y wr => ∃ (i : Nat), y = .int .i64 ((i : Int) - 1) ∧ i ≤ l.length + 2 ∧ Below w4.heap.size w4 wr) (fun y _ => l.length + 2 - (intOf y + 1).toNat)
    case atStart => exact ⟨0, rfl, by omega, Below.refl _ _⟩
    case round =>
      obtain ⟨i, rfl, hi, bw⟩ := hrel
      have KR : Hid (Blk wr w.heap.size 25 [.slice q s.length qc]) := K4.out.next bw
      by_cases hle : i ≤ l.length + 1
      · have hei : (i : Int) - 1 ≤ (l.length : Int) := by omega
        obtain ⟨V, hVV⟩ : ∃ V, Mt.selectorV es ((i : Int) - 1) s = V := ⟨_, rfl⟩
        have CM2 : Hid (∀ X, Below w4.heap.size w4 X → Calls Try.prog 12 #[.pointer (some ⟨tb, 0, none⟩), .int .i64 ((i : Int) - 1), .agg #[.slice q s.length qc]] X fun r w' => r = .returned (.bool V) ∧ Below X.heap.size X w') := fun X hX => by
          have h := CM.out ((i : Int) - 1) X hX
          rwa [hVV] at h
        have CR2 : Hid (∀ X, Below w4.heap.size w4 X → Calls Try.prog 13 #[.pointer (some ⟨rb, 0, none⟩), .int .i64 ((i : Int) - 1), .agg #[.slice q s.length qc]] X fun r w' => r = .returned (.bool V) ∧ Below X.heap.size X w') := fun X hX => by
          have h := CR.out ((i : Int) - 1) X hX
          rwa [hVV] at h
        have HBW : Hid (Below w4.heap.size w4 wr) := bw
        have hw1 : IntKind.i64.wrap ((i : Int) - 1 + 1) = (i : Int) := by rw [IntKind.wrap_i64]; omega
        clear hVV CM CR bw
        go_upto_region 9 with fail
        go_cut [45] (fun x wx => x = .bool false ∧ Below w4.heap.size w4 wx)
        case first =>
          refine Rg.wpD_begin [0, 1, 2, 3, 4, 5, 6, 7] (fun X => X.cell? ⟨w.heap.size, 0, none⟩ = some (.slice q s.length qc)) (by kernel_rfl) ?_
          have q0 : Below wr.heap.size wr wr.drew := below_drew (Below.refl _ _)
          have HeldS := (blk1 (KR.out.next q0)).1
          refine Rg.wpD_load 0 (v := ?_) (by simp only [List.getElem?_toArray, List.getElem?_cons_zero]; rfl) (by kernel_rfl) (by kernel_rfl) (by intro _ _ _ h; exact h) HeldS (by rfl) (fun wz hz => ?_) ?_
          rotate_left
          · first | (go_simp; done) | (go_simp; with_reducible rfl)
          simp only [Act.put, List.setIfInBounds_toArray, List.set_cons_succ, List.set_cons_zero]
          refine Rg.wpD_load 1 (v := ?_) (by simp only [List.getElem?_toArray, List.getElem?_cons_succ, List.getElem?_cons_zero]; rfl) (by kernel_rfl) (by kernel_rfl) (by intro _ _ _ h; exact h) HeldS (by rfl) (fun wz hz => ?_) ?_
          rotate_left
          · first | (go_simp; done) | (go_simp; with_reducible rfl)
          simp only [Act.put, List.setIfInBounds_toArray, List.set_cons_succ, List.set_cons_zero]
          refine Rg.wpD_load 2 (v := ?_) (by simp only [List.getElem?_toArray, List.getElem?_cons_succ, List.getElem?_cons_zero]; rfl) (by kernel_rfl) (by kernel_rfl) (by intro _ _ _ h; exact h) HeldS (by rfl) (fun wz hz => ?_) ?_
          rotate_left
          · first | (go_simp; done) | (go_simp; with_reducible rfl)
          simp only [Act.put, List.setIfInBounds_toArray, List.set_cons_succ, List.set_cons_zero]
          refine Rg.wpD_load 4 (v := ?_) (by simp only [List.getElem?_toArray, List.getElem?_cons_succ, List.getElem?_cons_zero]; rfl) (by kernel_rfl) (by kernel_rfl) (by intro _ _ _ h; exact h) HeldS (by rfl) (fun wz hz => ?_) ?_
          rotate_left
          · first | (go_simp; done) | (go_simp; with_reducible rfl)
          simp only [Act.put, List.setIfInBounds_toArray, List.set_cons_succ, List.set_cons_zero]
          refine Rg.wpD_load 5 (v := ?_) (by simp only [List.getElem?_toArray, List.getElem?_cons_succ, List.getElem?_cons_zero]; rfl) (by kernel_rfl) (by kernel_rfl) (by intro _ _ _ h; exact h) HeldS (by rfl) (fun wz hz => ?_) ?_
          rotate_left
          · first | (go_simp; done) | (go_simp; with_reducible rfl)
          simp only [Act.put, List.setIfInBounds_toArray, List.set_cons_succ, List.set_cons_zero]
          refine Rg.wpD_load 6 (v := ?_) (by simp only [List.getElem?_toArray, List.getElem?_cons_succ, List.getElem?_cons_zero]; rfl) (by kernel_rfl) (by kernel_rfl) (by intro _ _ _ h; exact h) HeldS (by rfl) (fun wz hz => ?_) ?_
          rotate_left
          · first | (go_simp; done) | (go_simp; with_reducible rfl)
          simp only [Act.put, List.setIfInBounds_toArray, List.set_cons_succ, List.set_cons_zero]
          refine Rg.wpD_do 3 (by kernel_rfl) (by simp only [List.getElem?_toArray, List.getElem?_cons_succ, List.getElem?_cons_zero]; rfl) (fun K hK => ?_)
          go_simp
          go_at_call 12
          refine Calls.mono (CM2.out _ (below_next HBW.out q0)) ?_
          rintro r X1 ⟨rfl, a1⟩
          have q1 := below_next q0 a1
          refine hK _ _ (fun _ => (blk1 (KR.out.next q1)).1) ?_
          clear hK K HeldS
          refine Rg.wpD_do 7 (by kernel_rfl) (by simp only [List.getElem?_toArray, List.getElem?_cons_succ, List.getElem?_cons_zero]; rfl) (fun K hK => ?_)
          go_simp
          go_at_call 13
          refine Calls.mono (CR2.out _ (below_next HBW.out q1)) ?_
          rintro r X2 ⟨rfl, a2⟩
          have q2 := below_next q1 a2
          refine hK _ _ (fun _ => (blk1 (KR.out.next q2)).1) ?_
          clear hK K
          have FIN := below_next HBW.out q2
          refine Rg.wpD_pure 8 (v := ?_) (by simp only [List.getElem?_toArray, List.getElem?_cons_succ, List.getElem?_cons_zero]; rfl) (by kernel_rfl) (by kernel_rfl) (by intro _ _ _ h; exact h) (by rfl) (fun wz => ?_) ?_
          rotate_left
          · first | (go_simp; done) | (go_simp; with_reducible rfl)
          simp only [Act.put, List.setIfInBounds_toArray, List.set_cons_succ, List.set_cons_zero]
          refine Rg.wpD_done (by kernel_rfl) ?_
          go_wp2
          go_meet
          exact ⟨by simp, FIN⟩
        case rest =>
          rename World => wx
          obtain ⟨rfl, bx⟩ := hcut
          go_wp2
          go_roundw
          case rel => exact ⟨i + 1, by go_num, by omega, bx⟩
          case measure => simp [intOf]; omega
      · have hei : ¬ (i : Int) - 1 ≤ (l.length : Int) := by omega
        have c0 := (blk1 KR.out).1
        have hnil := selNil_any q s.length qc 0 wr
        have b9 := below_next b15 bw
        clear CM CR
        go_wp2_with fail
        refine hnil.mono ?_
        clear hnil c0
        rintro r wy ⟨rfl, by1⟩
        have b10 := below_next b9 by1
        go_wp2
        go_ret
        exact ⟨rfl, b10⟩


set_option maxRecDepth 100000 in
theorem matchSelectors_lifted (os : Os) (started : os.Started) (H : Type) (enc : TypeId × Value → H) (F : Stop.Interp) :
    ReturnsInHanded {} Try.checked os 3 .any ((Rows.OpenSpec.upto Rows.matchSelectorsSpec).pre6 enc Try.prog Try.f3 Rows.matchSelectorsUptoRow.domain false) (((Rows.OpenSpec.upto Rows.matchSelectorsSpec).at F).post enc Try.prog Try.f3 false true false false) := by
  refine Mt.handed_cond_shaped (C := Try.checked) (s := Rows.OpenSpec.upto Rows.matchSelectorsSpec) (k := Rows.uptoSmall) rfl ownNone started (by kernel_rfl) Try.func3
    (OpenSpec.witness (enc := enc) (C := Try.checked) (s := Rows.OpenSpec.upto Rows.matchSelectorsSpec) (k := Rows.uptoSmall) rfl false ⟨#[], #[.slice none 0 0, .agg #[.slice none 0 0]], []⟩ 8 (by kernel_rfl) (by kernel_rfl) (by kernel_rfl)
      (x := ([.nil, .agg [.nil]], [], [])) (by kernel_rfl) rfl (by kernel_rfl)) ?_
  intro W base args ds gs before hval hW hk hsz0 hS
  have hW' := hW
  obtain ⟨p, q, hA0, hV, rfl, hfz, hnd⟩ := hW
  have hA : DataW.TrodAll enc Try.prog W 0 (fun _ => true) true Try.f3.params.toList args.toList ds p := hA0
  rw [Try.params3] at hA hval hsz0
  obtain ⟨v0, vs0, d0, ds0, p0, q0, hargs, rfl, rfl, h0, r0⟩ := trodAll_cons hA
  obtain ⟨v1, vs1, d1, ds1, p1, q1, rfl, rfl, rfl, h1, r1⟩ := trodAll_cons r0
  obtain ⟨rfl, rfl, rfl⟩ := trodAll_nil r1
  obtain rfl : args = #[v0, v1] := by cases args; simp_all
  obtain ⟨rfl, rfl⟩ := trodVars_none hV
  have hsz := List.all_eq_true.1 hsz0
  simp only [List.append_nil] at hk
  obtain ⟨a0, len0, cap0, rfl⟩ := okWide_slice Try.underlying22 (hval 0 22 v0 rfl rfl)
  have k0 := h0
  have lt0 : ∀ x ∈ p0, x.block < W.heap.size := by obtain ⟨m, hm⟩ := k0; exact DataW.trod_lt m _ _ _ hm
  obtain ⟨z0, w0, y0, u0⟩ := Dm.nodesAt_of_reads k0 (fun n hn => by simpa using hsz n (DataW.weights_mem_each (j := 0) rfl rfl n hn))
  have k1 := h1
  have lt1 : ∀ x ∈ p1, x.block < W.heap.size := by obtain ⟨m, hm⟩ := k1; exact DataW.trod_lt m _ _ _ hm
  obtain ⟨z1, w1, y1⟩ := Wg.selW_of_reads k1 (hval 1 25 v1 rfl rfl) (fun n hn => by simpa using hsz n (DataW.weights_mem_each (j := 1) rfl rfl n hn))
  have bk1 := Wg.selUp_of k1 w1 hk (by simp)
  clear hA0
  refine (matchSelectors_walk W (Try.laysM144.s1_3 W hS) _ z0 w0 y0 u0 v1 z1 w1 y1 bk1).mono fun e W' ⟨he, bel⟩ => ?_
  subst he
  exact ⟨_, rfl, _, _, _, [], _, [], hW', trodAll_mk1 (shut_bool Try.underlying4 _), (trodAll_cons_mk (Below.trod laidOut (by kernel_rfl) (of_decide_eq_true (by kernel_rfl)) k0 bel lt0) (trodAll_cons_mk (Below.trod laidOut (by kernel_rfl) (of_decide_eq_true (by kernel_rfl)) k1 bel lt1) trodAll_mk0)), rfl, bel.frame _, fun h => by cases h⟩

theorem matchSelectors_upto : Rows.MatchSelectorsUptoSaid :=
  OpenClaim.holds_of_cond 3 Try.f3 rfl rfl rfl rfl rfl rfl rfl ⟨rfl, rfl, rfl, rfl, rfl⟩ rfl rfl rfl rfl rfl (by kernel_rfl) Try.func3 (by kernel_rfl)
    (of_decide_eq_true (by kernel_rfl)) (by unfold Func.isWrapper; first | (rw [if_pos (by decide +kernel)]; kernel_rfl) | (rw [if_neg (by decide +kernel)]; exact ⟨rfl, rfl⟩))
    (fun os started H enc _ F => matchSelectors_lifted os started H enc F)
#print axioms matchSelectors_upto


end Go.Proofs.Ytchfnnoabejlpaa
