/- For all nodes and every compound within the second form's bound: the law tapestrierlaw10.MatchCompounds returns true. -/
import Derived.Test.YtchfnnoabejlpaaMtSame
import Derived.Test.YtchfnnoabejlpaaDmArgs
import Derived.Test.YtchfnnoabejlpaaRows
namespace Go.Proofs.Ytchfnnoabejlpaa
open Go.Proofs.Ytchfnnoabejlpaa.Tre
open Go Go.ChangeShapes Go.WideShapes Go.ChangeAt Go.RowKit Dm Mt Wg
open Go.ChangeMaps (open_string shut_string)

set_option maxRecDepth 100000 in
set_option maxHeartbeats 8000000 in
theorem matchCompounds_walk (w : World) (hM : Mt.ML w) (v0 : Value) (l : List Nv) (hl : NodesAt w.heap.size w v0 l) (hN : ∀ n ∈ l, NdOk n.nd) (_h88 : l.length * 88 ≤ 140737488351232) (v1 : Value) (c : Cp) (hs : CmpAt c w v1) (hw : CW 10 c) (ho : OkC 1048576 10 c) :
    Calls Try.prog 4 #[v0, v1] w fun e w' => e = .returned (.bool true) ∧ Below w.heap.size w w' := by
  obtain ⟨p, cap, rfl⟩ := hl.row.len
  obtain ⟨z1, z2, z3, z4, rfl, hx⟩ := hs
  have hx0 := hx
  obtain ⟨y1, y2, y3, y4, e', r1, r2, r3, r4⟩ := hx0
  simp only [List.cons.injEq, and_true, true_and] at e'
  obtain ⟨rfl, rfl, rfl, rfl⟩ := e'
  obtain ⟨q1, m1, rfl⟩ := r1.len
  obtain ⟨q2, m2, rfl⟩ := r2.len
  obtain ⟨q3, m3, rfl⟩ := r3.len
  obtain ⟨q4, m4, rfl⟩ := r4.len
  clear r1 r2 r3 r4
  obtain ⟨W, hW⟩ : ∃ W, w.alloc (.cells #[.string c.tag, .slice q1 c.ids.length m1, .slice q2 c.classes.length m2, .slice q3 c.attrs.length m3, .slice q4 c.pss.length m4] 40) = W := ⟨_, rfl⟩
  have b1 : Below w.heap.size w W := by rw [← hW]; exact (Below.refl _ _).alloc (Nat.le_refl _) _
  have k1 : Blk W w.heap.size 40 [.string c.tag, .slice q1 c.ids.length m1, .slice q2 c.classes.length m2, .slice q3 c.attrs.length m3, .slice q4 c.pss.length m4] := by rw [← hW]; exact Blk.new w 40 _
  have h0 := Mt.alive_any W (hM.next b1)
  have HM : Hid (Mt.ML w) := hM
  have HL : Hid (NodesAt w.heap.size w (.slice p l.length cap) l) := hl
  have HN : Hid (∀ n ∈ l, NdOk n.nd) := hN
  have HX : Hid (CpC (SelsR 10 w.heap.size w) w.heap.size w [.string c.tag, .slice q1 c.ids.length m1, .slice q2 c.classes.length m2, .slice q3 c.attrs.length m3, .slice q4 c.pss.length m4] c) := hx
  have HXN : Hid (∀ X, Below w.heap.size w X → CpC (SelsR 10 X.heap.size X) X.heap.size X [.string c.tag, .slice q1 c.ids.length m1, .slice q2 c.classes.length m2, .slice q3 c.attrs.length m3, .slice q4 c.pss.length m4] c) := fun X hX => CpC.mono (CpC.below hx hX (fun _ _ h => h.below 10 hX)) hX.size (fun _ _ h => h.mono 10 hX.size)
  have HW : Hid (CW 10 c) := hw
  have HO : Hid (OkC 1048576 10 c) := ho
  clear hl hN hx hw ho hM
  go_enter Try.func4, Try.ntmps4
  go_wp2_with fail
  refine h0.mono ?_
  clear h0 hW
  rintro e w1 ⟨rfl, b2⟩
  have b12 := below_next b1 b2
  have K1 : Hid (Blk w1 w.heap.size 40 [.string c.tag, .slice q1 c.ids.length m1, .slice q2 c.classes.length m2, .slice q3 c.attrs.length m3, .slice q4 c.pss.length m4]) := k1.next b2
  obtain ⟨⟨c0, c1, c2, c3, c4⟩, _⟩ := blk5 K1.out
  obtain ⟨wa, hwa⟩ : ∃ wa, w1.alloc (.cells #[.int .i64 0, .string c.tag, .slice q1 c.ids.length m1, .slice q2 c.classes.length m2, .slice q3 c.attrs.length m3, .slice q4 c.pss.length m4] 42) = wa := ⟨_, rfl⟩
  have ba : Below w1.heap.size w1 wa := by rw [← hwa]; exact (Below.refl _ _).alloc (Nat.le_refl _) _
  have ka : Blk wa w1.heap.size 42 [.int .i64 0, .string c.tag, .slice q1 c.ids.length m1, .slice q2 c.classes.length m2, .slice q3 c.attrs.length m3, .slice q4 c.pss.length m4] := by rw [← hwa]; exact Blk.new w1 42 _
  have sa : wa.heap.size = w1.heap.size + 1 := by rw [← hwa, World.size_alloc]
  obtain ⟨w2, hw2⟩ : ∃ w2, wa.alloc (.cells #[.slice (some ⟨w1.heap.size, 0, none⟩) 1 1] 25) = w2 := ⟨_, rfl⟩
  have bb : Below wa.heap.size wa w2 := by rw [← hw2]; exact (Below.refl _ _).alloc (Nat.le_refl _) _
  have kb : Blk w2 wa.heap.size 25 [.slice (some ⟨w1.heap.size, 0, none⟩) 1 1] := by rw [← hw2]; exact Blk.new wa 25 _
  rw [sa] at kb
  have b3 := below_next ba bb
  have b13 := below_next b12 b3
  have hd := Wg.Dear_deep (.slice (some ⟨w1.heap.size + 1, 0, none⟩) 1 1) [[(0, c)]] w2 (sels_one11 kb (parts_oneR (ka.next bb) (HXN.out _ b13)))
  have K2 : Hid (Blk w2 w.heap.size 40 [.string c.tag, .slice q1 c.ids.length m1, .slice q2 c.classes.length m2, .slice q3 c.attrs.length m3, .slice q4 c.pss.length m4]) := K1.out.next b3
  have HWW : Hid ((w1.alloc (.cells #[.int .i64 0, .string c.tag, .slice q1 c.ids.length m1, .slice q2 c.classes.length m2, .slice q3 c.attrs.length m3, .slice q4 c.pss.length m4] 42)).alloc (.cells #[.slice (some ⟨w1.heap.size, 0, none⟩) 1 1] 25) = w2) := by
    show _ = _
    rw [hwa, hw2]
  clear k1 ka kb b1 b2 sa ba bb hwa hw2
  go_wp2_with fail
  rw [show _ = w2 from HWW.out]
  refine hd.mono ?_
  clear hd HWW c0 c1 c2 c3 c4
  rintro e w3 ⟨much, rfl, HD, b4⟩
  have b14 := below_next b13 b4
  have K3 : Hid (Blk w3 w.heap.size 40 [.string c.tag, .slice q1 c.ids.length m1, .slice q2 c.classes.length m2, .slice q3 c.attrs.length m3, .slice q4 c.pss.length m4]) := K2.out.next b4
  have ht := Mt.trees_any _ l w3 (HM.out.next b14) (HL.out.next b14) HN.out
  clear b12 b3 b13 b4 K1 K2
  go_wp2_with fail
  refine ht.mono ?_
  clear ht
  rintro e w4 ⟨hT, b5⟩
  have b15 := below_next b14 b5
  have K4 : Hid (Blk w4 w.heap.size 40 [.string c.tag, .slice q1 c.ids.length m1, .slice q2 c.classes.length m2, .slice q3 c.attrs.length m3, .slice q4 c.pss.length m4]) := K3.out.next b5
  clear b14 b5 K3
  unfold Mt.Trees at hT
  rcases hT with rfl | ⟨tb, rb, b, nv, dv, ns, ds, es, rfl, hG, hR, hE, hel, hl40, hV, hsm⟩
  · cases much with
    | true =>
      go_wp2
      go_ret
      exact ⟨rfl, b15⟩
    | false =>
      go_wp2
      go_ret
      exact ⟨rfl, b15⟩
  cases much with
  | true =>
    clear hG hR hE hV hsm
    go_wp2
    go_ret
    exact ⟨rfl, b15⟩
  | false =>
    have hfew : FewQ 10 c := by
      have h := HD.out rfl
      unfold FewD at h
      have h2 := (h [(0, c)] (List.mem_singleton.2 rfl)).2 (0, c) (List.mem_singleton.2 rfl)
      exact ⟨h2.1, h2.2⟩
    have hTA := (Rf.TE.of_new hR hE hV hsm).1
    obtain ⟨T, hTT⟩ : ∃ T : Rf.TE, T = Rf.TE.mk b rb nv dv ns ds es := ⟨_, rfl⟩
    rw [← hTT] at hTA
    have hTe : T.es = es := by rw [hTT]
    have hTp : T.p = .pointer (some ⟨rb, 0, none⟩) := by rw [hTT]
    have CM : Hid (∀ e : Int, ∀ X, Below w4.heap.size w4 X → Calls Try.prog 14 #[.pointer (some ⟨tb, 0, none⟩), .int .i64 e, .agg #[.string c.tag, .slice q1 c.ids.length m1, .slice q2 c.classes.length m2, .slice q3 c.attrs.length m3, .slice q4 c.pss.length m4]] X fun r w' => r = .returned (.bool (Mt.compoundV es e c)) ∧ Below X.heap.size X w') := fun e X hX =>
      (hG.next hX).cmp e 10 c _ _ _ _ (Mt.comp_of (HXN.out X (below_next b15 hX)) hfew HW.out)
    have CR : Hid (∀ e : Int, ∀ X, Below w4.heap.size w4 X → Calls Try.prog 15 #[.pointer (some ⟨rb, 0, none⟩), .int .i64 e, .agg #[.string c.tag, .slice q1 c.ids.length m1, .slice q2 c.classes.length m2, .slice q3 c.attrs.length m3, .slice q4 c.pss.length m4]] X fun r w' => r = .returned (.bool (Mt.compoundV es e c)) ∧ Below X.heap.size X w') := fun e X hX => by
      have hc8 := cpC_cut (cpC_cut (HXN.out X (below_next b15 hX)))
      rw [cutC_two] at hc8
      by_cases hin : 0 ≤ e ∧ e < (T.es.length : Int)
      · obtain ⟨k, rfl⟩ : ∃ k : Nat, e = (k : Int) := ⟨e.toNat, by omega⟩
        have h := Rf.compound_any T (cutC 8 c) (.slice q1 c.ids.length m1) (.slice q2 c.classes.length m2) (.slice q3 c.attrs.length m3) (.slice q4 c.pss.length m4) k X (hTA.next hX) (by omega) hc8 (okC_cut HO.out)
        rw [hTe, hTp, same_cmp es k (by rw [← hTe]; omega)] at h
        exact h
      · have h := refCmp_out T (cutC 8 c) (.slice q1 c.ids.length m1) (.slice q2 c.classes.length m2) (.slice q3 c.attrs.length m3) (.slice q4 c.pss.length m4) e X (hTA.next hX) hin hc8
        rw [hTp] at h
        rw [cmp_out es e (by rw [← hTe]; exact hin)]
        exact h
    have H40 : Hid (l.length ≤ 40) := hl40
    have hln : l.length ≤ 40 := hl40
    clear hG hR hE hel hV hsm hfew hTA hTT hTe hTp HD HX HXN HW HO HL HN hl40 T
    go_wp2
    go_loopw [10] (fun y wr => ∃ (i : Nat), y = .int .i64 ((i : Int) - 1) ∧ i ≤ l.length + 2 ∧ Below w4.heap.size w4 wr) (fun y _ => l.length + 2 - (intOf y + 1).toNat)
    case atStart => exact ⟨0, rfl, by omega, Below.refl _ _⟩
    case round =>
      obtain ⟨i, rfl, hi, bw⟩ := hrel
      have KR : Hid (Blk wr w.heap.size 40 [.string c.tag, .slice q1 c.ids.length m1, .slice q2 c.classes.length m2, .slice q3 c.attrs.length m3, .slice q4 c.pss.length m4]) := K4.out.next bw
      by_cases hle : i ≤ l.length + 1
      · have hei : (i : Int) - 1 ≤ (l.length : Int) := by omega
        obtain ⟨V, hVV⟩ : ∃ V, Mt.compoundV es ((i : Int) - 1) c = V := ⟨_, rfl⟩
        have CM2 : Hid (∀ X, Below w4.heap.size w4 X → Calls Try.prog 14 #[.pointer (some ⟨tb, 0, none⟩), .int .i64 ((i : Int) - 1), .agg #[.string c.tag, .slice q1 c.ids.length m1, .slice q2 c.classes.length m2, .slice q3 c.attrs.length m3, .slice q4 c.pss.length m4]] X fun r w' => r = .returned (.bool V) ∧ Below X.heap.size X w') := fun X hX => by
          have h := CM.out ((i : Int) - 1) X hX
          rwa [hVV] at h
        have CR2 : Hid (∀ X, Below w4.heap.size w4 X → Calls Try.prog 15 #[.pointer (some ⟨rb, 0, none⟩), .int .i64 ((i : Int) - 1), .agg #[.string c.tag, .slice q1 c.ids.length m1, .slice q2 c.classes.length m2, .slice q3 c.attrs.length m3, .slice q4 c.pss.length m4]] X fun r w' => r = .returned (.bool V) ∧ Below X.heap.size X w') := fun X hX => by
          have h := CR.out ((i : Int) - 1) X hX
          rwa [hVV] at h
        have HBW : Hid (Below w4.heap.size w4 wr) := bw
        have hw1 : IntKind.i64.wrap ((i : Int) - 1 + 1) = (i : Int) := by rw [IntKind.wrap_i64]; omega
        clear hVV CM CR bw
        go_upto_region 9 with fail
        go_cut [48] (fun x wx => x = .bool false ∧ Below w4.heap.size w4 wx)
        case first =>
          refine Rg.wpD_begin [0, 1, 2, 3, 4, 5, 6, 7] (fun X => X.cell? ⟨w.heap.size, 0, none⟩ = some (.string c.tag) ∧ X.cell? ⟨w.heap.size, 1, none⟩ = some (.slice q1 c.ids.length m1) ∧ X.cell? ⟨w.heap.size, 2, none⟩ = some (.slice q2 c.classes.length m2) ∧ X.cell? ⟨w.heap.size, 3, none⟩ = some (.slice q3 c.attrs.length m3) ∧ X.cell? ⟨w.heap.size, 4, none⟩ = some (.slice q4 c.pss.length m4)) (by kernel_rfl) ?_
          have q0 : Below wr.heap.size wr wr.drew := below_drew (Below.refl _ _)
          have HeldS := (blk5 (KR.out.next q0)).1
          refine Rg.wpD_load 0 (v := ?_) (by simp only [List.getElem?_toArray, List.getElem?_cons_zero]; rfl) (by kernel_rfl) (by kernel_rfl) (by intro _ _ _ h; exact h) HeldS (by rfl) (fun wz hz => ?_) ?_
          rotate_left
          · first | (go_simp; done) | (go_simp; with_reducible rfl)
          simp only [Act.put, List.setIfInBounds_toArray, List.set_cons_succ, List.set_cons_zero]
          refine Rg.wpD_load 1 (v := ?_) (by simp only [List.getElem?_toArray, List.getElem?_cons_succ, List.getElem?_cons_zero]; rfl) (by kernel_rfl) (by kernel_rfl) (by intro _ _ _ h; exact h) HeldS (by rfl) (fun wz hz => ?_) ?_
          rotate_left
          · first | (go_simp; done) | (go_simp; with_reducible rfl)
          simp only [Act.put, List.setIfInBounds_toArray, List.set_cons_succ, List.set_cons_zero]
          refine Rg.wpD_load 2 (v := ?_) (by simp only [List.getElem?_toArray, List.getElem?_cons_succ, List.getElem?_cons_zero]; rfl) (by kernel_rfl) (by kernel_rfl) (by intro _ _ _ h; exact h) HeldS (by rfl) (fun wz hz => ?_) ?_
          rotate_left
          · first | (go_simp; done) | (go_simp; with_reducible rfl)
          simp only [Act.put, List.setIfInBounds_toArray, List.set_cons_succ, List.set_cons_zero]
          refine Rg.wpD_load 4 (v := ?_) (by simp only [List.getElem?_toArray, List.getElem?_cons_succ, List.getElem?_cons_zero]; rfl) (by kernel_rfl) (by kernel_rfl) (by intro _ _ _ h; exact h) HeldS (by rfl) (fun wz hz => ?_) ?_
          rotate_left
          · first | (go_simp; done) | (go_simp; with_reducible rfl)
          simp only [Act.put, List.setIfInBounds_toArray, List.set_cons_succ, List.set_cons_zero]
          refine Rg.wpD_load 5 (v := ?_) (by simp only [List.getElem?_toArray, List.getElem?_cons_succ, List.getElem?_cons_zero]; rfl) (by kernel_rfl) (by kernel_rfl) (by intro _ _ _ h; exact h) HeldS (by rfl) (fun wz hz => ?_) ?_
          rotate_left
          · first | (go_simp; done) | (go_simp; with_reducible rfl)
          simp only [Act.put, List.setIfInBounds_toArray, List.set_cons_succ, List.set_cons_zero]
          refine Rg.wpD_load 6 (v := ?_) (by simp only [List.getElem?_toArray, List.getElem?_cons_succ, List.getElem?_cons_zero]; rfl) (by kernel_rfl) (by kernel_rfl) (by intro _ _ _ h; exact h) HeldS (by rfl) (fun wz hz => ?_) ?_
          rotate_left
          · first | (go_simp; done) | (go_simp; with_reducible rfl)
          simp only [Act.put, List.setIfInBounds_toArray, List.set_cons_succ, List.set_cons_zero]
          refine Rg.wpD_do 3 (by kernel_rfl) (by simp only [List.getElem?_toArray, List.getElem?_cons_succ, List.getElem?_cons_zero]; rfl) (fun K hK => ?_)
          go_simp
          go_at_call 14
          refine Calls.mono (CM2.out _ (below_next HBW.out q0)) ?_
          rintro r X1 ⟨rfl, a1⟩
          have q1 := below_next q0 a1
          refine hK _ _ (fun _ => (blk5 (KR.out.next q1)).1) ?_
          clear hK K HeldS
          refine Rg.wpD_do 7 (by kernel_rfl) (by simp only [List.getElem?_toArray, List.getElem?_cons_succ, List.getElem?_cons_zero]; rfl) (fun K hK => ?_)
          go_simp
          go_at_call 15
          refine Calls.mono (CR2.out _ (below_next HBW.out q1)) ?_
          rintro r X2 ⟨rfl, a2⟩
          have q2 := below_next q1 a2
          refine hK _ _ (fun _ => (blk5 (KR.out.next q2)).1) ?_
          clear hK K
          have FIN := below_next HBW.out q2
          refine Rg.wpD_pure 8 (v := ?_) (by simp only [List.getElem?_toArray, List.getElem?_cons_succ, List.getElem?_cons_zero]; rfl) (by kernel_rfl) (by kernel_rfl) (by intro _ _ _ h; exact h) (by rfl) (fun wz => ?_) ?_
          rotate_left
          · first | (go_simp; done) | (go_simp; with_reducible rfl)
          simp only [Act.put, List.setIfInBounds_toArray, List.set_cons_succ, List.set_cons_zero]
          refine Rg.wpD_done (by kernel_rfl) ?_
          go_wp2
          go_meet
          exact ⟨by simp, FIN⟩
        case rest =>
          rename World => wx
          obtain ⟨rfl, bx⟩ := hcut
          go_wp2
          go_roundw
          case rel => exact ⟨i + 1, by go_num, by omega, bx⟩
          case measure => simp [intOf]; omega
      · have hei : ¬ (i : Int) - 1 ≤ (l.length : Int) := by omega
        obtain ⟨⟨c0, c1, c2, c3, c4⟩, _⟩ := blk5 KR.out
        have hnil := cmpNil_any c.tag q1 q2 q3 q4 c.ids.length c.classes.length c.attrs.length c.pss.length m1 m2 m3 m4 0 wr
        have b9 := below_next b15 bw
        clear CM CR
        go_wp2_with fail
        refine hnil.mono ?_
        clear hnil c0 c1 c2 c3 c4
        rintro r wy ⟨rfl, by1⟩
        have b10 := below_next b9 by1
        go_wp2
        go_ret
        exact ⟨rfl, b10⟩


set_option maxRecDepth 100000 in
theorem matchCompounds_lifted (os : Os) (started : os.Started) (H : Type) (enc : TypeId × Value → H) (F : Stop.Interp) :
    ReturnsInHanded {} Try.checked os 4 .any ((Rows.OpenSpec.upto Rows.matchCompoundsSpec).pre6 enc Try.prog Try.f4 Rows.matchCompoundsUptoRow.domain false) (((Rows.OpenSpec.upto Rows.matchCompoundsSpec).at F).post enc Try.prog Try.f4 false true false false) := by
  refine Mt.handed_cond_shaped (C := Try.checked) (s := Rows.OpenSpec.upto Rows.matchCompoundsSpec) (k := Rows.uptoSmall) rfl ownNone started (by kernel_rfl) Try.func4
    (OpenSpec.witness (enc := enc) (C := Try.checked) (s := Rows.OpenSpec.upto Rows.matchCompoundsSpec) (k := Rows.uptoSmall) rfl false ⟨#[], #[.slice none 0 0, .agg #[.string ⟨#[]⟩, .slice none 0 0, .slice none 0 0, .slice none 0 0, .slice none 0 0]], []⟩ 8 (by kernel_rfl) (by kernel_rfl) (by kernel_rfl)
      (x := ([.nil, .agg [.lit (.string []), .nil, .nil, .nil, .nil]], [], [])) (by kernel_rfl) rfl (by kernel_rfl)) ?_
  intro W base args ds gs before hval hW hk hsz0 hS
  have hW' := hW
  obtain ⟨p, q, hA0, hV, rfl, hfz, hnd⟩ := hW
  have hA : DataW.TrodAll enc Try.prog W 0 (fun _ => true) true Try.f4.params.toList args.toList ds p := hA0
  rw [Try.params4] at hA hval hsz0
  obtain ⟨v0, vs0, d0, ds0, p0, q0, hargs, rfl, rfl, h0, r0⟩ := trodAll_cons hA
  obtain ⟨v1, vs1, d1, ds1, p1, q1, rfl, rfl, rfl, h1, r1⟩ := trodAll_cons r0
  obtain ⟨rfl, rfl, rfl⟩ := trodAll_nil r1
  obtain rfl : args = #[v0, v1] := by cases args; simp_all
  obtain ⟨rfl, rfl⟩ := trodVars_none hV
  have hsz := List.all_eq_true.1 hsz0
  simp only [List.append_nil] at hk
  obtain ⟨a0, len0, cap0, rfl⟩ := okWide_slice Try.underlying22 (hval 0 22 v0 rfl rfl)
  have k0 := h0
  have lt0 : ∀ x ∈ p0, x.block < W.heap.size := by obtain ⟨m, hm⟩ := k0; exact DataW.trod_lt m _ _ _ hm
  obtain ⟨z0, w0, y0, u0⟩ := Dm.nodesAt_of_reads k0 (fun n hn => by simpa using hsz n (DataW.weights_mem_each (j := 0) rfl rfl n hn))
  have k1 := h1
  have lt1 : ∀ x ∈ p1, x.block < W.heap.size := by obtain ⟨m, hm⟩ := k1; exact DataW.trod_lt m _ _ _ hm
  obtain ⟨z1, w1, y1⟩ := Wg.cmpW_of_reads k1 (hval 1 40 v1 rfl rfl) (fun n hn => by simpa using hsz n (DataW.weights_mem_each (j := 1) rfl rfl n hn))
  have bk1 := Wg.cmpUp_of k1 w1 hk (by simp)
  clear hA0
  refine (matchCompounds_walk W (Try.laysM144.s1_3 W hS) _ z0 w0 y0 u0 v1 z1 w1 y1 bk1).mono fun e W' ⟨he, bel⟩ => ?_
  subst he
  exact ⟨_, rfl, _, _, _, [], _, [], hW', trodAll_mk1 (shut_bool Try.underlying4 _), (trodAll_cons_mk (Below.trod laidOut (by kernel_rfl) (of_decide_eq_true (by kernel_rfl)) k0 bel lt0) (trodAll_cons_mk (Below.trod laidOut (by kernel_rfl) (of_decide_eq_true (by kernel_rfl)) k1 bel lt1) trodAll_mk0)), rfl, bel.frame _, fun h => by cases h⟩

theorem matchCompounds_upto : Rows.MatchCompoundsUptoSaid :=
  OpenClaim.holds_of_cond 4 Try.f4 rfl rfl rfl rfl rfl rfl rfl ⟨rfl, rfl, rfl, rfl, rfl⟩ rfl rfl rfl rfl rfl (by kernel_rfl) Try.func4 (by kernel_rfl)
    (of_decide_eq_true (by kernel_rfl)) (by unfold Func.isWrapper; first | (rw [if_pos (by decide +kernel)]; kernel_rfl) | (rw [if_neg (by decide +kernel)]; exact ⟨rfl, rfl⟩))
    (fun os started H enc _ F => matchCompounds_lifted os started H enc F)
#print axioms matchCompounds_upto


end Go.Proofs.Ytchfnnoabejlpaa
