/- For every list of rules within the second form's bound and all nodes: the law tapestrierlaw12.BucketFinds returns true. -/
import Derived.Test.YtchfnnoabejlpabGreatRfGe
import Derived.Test.YtchfnnoabejlpabGreatBkAlive
import Derived.Test.YtchfnnoabejlpabGreatBkC
import Derived.Test.YtchfnnoabejlpabGreatDmArgs
import Derived.Test.YtchfnnoabejlpabGreatRows
import Derived.JoinedCond
import Derived.Deep.CondSized
namespace Go.Proofs.YtchfnnoabejlpabGreat
open Go.Proofs.YtchfnnoabejlpabGreat.Tre
open Go Go.ChangeShapes Go.WideShapes Go.ChangeAt Go.RowKit Sl Wg Bk
open Dm (Nv El Nd NodesAt NdOk SmallN StrsAt PairsAt nodeV)

/-- A slice of texts as a row. -/
theorem strs_row {n : Nat} {w : World} {v : Value} {l : List ByteArray} (h : StrsAt n w v l) : RowT 1 StrC n w v l := by
  rcases h with ⟨rfl, rfl | ⟨a, c, rfl, _⟩⟩ | ⟨B, o, c, rfl, h1, h2, h3, h4⟩
  · exact .inl ⟨rfl, _, _, rfl⟩
  · exact .inl ⟨rfl, _, _, rfl⟩
  · exact .inr ⟨B, o, c, rfl, h1, h2, h3, fun j x hx => ⟨[.string x], rfl, rfl, fun i u hu => h4 j x hx i u hu⟩⟩

set_option maxRecDepth 100000 in
set_option maxHeartbeats 4000000 in
theorem bucketFinds_walk (w : World) (v0 : Value) (l : List Rl) (hv : RulesR 11 w.heap.size w v0 l) (hl : RlOk l) (v1 : Value) (ns : List Nv) (hn : NodesAt w.heap.size w v1 ns) (hN : ∀ n ∈ ns, NdOk n.nd) (_h88 : ns.length * 88 ≤ 140737488351232) (ho : ∀ r ∈ l, ∀ s ∈ r, OkD 1048576 10 s) :
    Calls Tryz.prog 3 #[v0, v1] w fun e w' => e = .returned (.bool true) ∧ Below w.heap.size w w' := by
  obtain ⟨qv, cpv, rfl⟩ := RowT.len hv
  obtain ⟨p, cap, rfl⟩ := hn.row.len
  have hal := Bk.alive_any w
  have HV : Hid (RulesR 11 w.heap.size w (.slice qv l.length cpv) l) := hv
  have HL : Hid (RlOk l) := hl
  have HNS : Hid (NodesAt w.heap.size w (.slice p ns.length cap) ns) := hn
  have HN : Hid (∀ n ∈ ns, NdOk n.nd) := hN
  have HO : Hid (∀ r ∈ l, ∀ s ∈ r, OkD 1048576 10 s) := ho
  clear hv hl hn hN ho
  go_enter Tryz.func3, Tryz.ntmps3
  go_wp2_with fail
  refine hal.mono ?_
  clear hal
  rintro e w1 ⟨rfl, b1⟩
  have hde := dearRules_any _ l w1 (HV.out.next b1)
  go_wp2_with fail
  refine hde.mono ?_
  clear hde
  rintro e w2 ⟨t, rfl, ht, b2⟩
  have B2 := below_next b1 b2
  have HT : Hid (t = false → l.length ≤ 30 ∧ ∀ r ∈ l, r.length ≤ 8) := ht
  clear ht b1 b2
  have hnew := Dm.refNew_any _ ns w2 (HNS.out.next B2) HN.out
  cases t with
  | true =>
    go_wp2_with fail
    refine hnew.mono ?_
    clear hnew
    rintro e w3 ⟨hm, b3⟩
    have B3 := below_next B2 b3
    unfold Dm.RMade at hm
    rcases hm with ⟨rb, nv, dv, nx, ds, es, hV, rfl, hR, hE⟩ | ⟨x, hV, rfl⟩
    · clear hV hR hE
      go_wp2
      go_ret
      exact ⟨rfl, B3⟩
    · clear hV
      go_wp2
      go_ret
      exact ⟨rfl, B3⟩
  | false =>
    have hbig := Dm.big_small _ ns w2 (HNS.out.next B2)
    go_wp2_with fail
    refine hbig.mono ?_
    clear hbig
    rintro e w3 ⟨big, rfl, hw, hbig⟩
    obtain rfl := hw.symm
    have HB : Hid (big = false → (ns.length ≤ 40 ∧ ∀ n ∈ ns, SmallN n.nd) ∨ 4096 < ns.length) := hbig
    clear hbig hw
    go_wp2_with fail
    refine hnew.mono ?_
    clear hnew
    rintro e w3 ⟨hm, b3⟩
    have B3 := below_next B2 b3
    unfold Dm.RMade at hm
    rcases hm with ⟨rb, nv, dv, nx, ds, es, hV, rfl, hR, hE⟩ | ⟨x, hV, rfl⟩
    rotate_left
    · have hx0 : (x != 0) = true := by
        rcases Dm.newV_err hV with rfl | rfl | rfl <;> rfl
      clear hV
      cases big with
      | true =>
        go_wp2
        go_ret
        exact ⟨rfl, B3⟩
      | false =>
        go_wp2
        go_ret
        exact ⟨rfl, B3⟩
    cases big with
    | true =>
      clear hV hR hE
      go_wp2
      go_ret
      exact ⟨rfl, B3⟩
    | false =>
      obtain ⟨h40, hsm⟩ : ns.length ≤ 40 ∧ ∀ n ∈ ns, SmallN n.nd := by
        rcases HB.out rfl with h | h
        · exact h
        · have := (Dm.newV_ok hV).2.2
          rw [List.length_map] at this
          omega
      obtain ⟨hTA, hsm2, hel⟩ := Rf.TE.of_new hR hE hV hsm
      obtain ⟨T, hTT⟩ : ∃ T : Rf.TE, T = Rf.TE.mk w2.heap.size rb nv dv nx ds es := ⟨_, rfl⟩
      rw [← hTT] at hTA
      have hTe : T.es = es := by rw [hTT]
      have hTp : T.p = .pointer (some ⟨rb, 0, none⟩) := by rw [hTT]
      have HEL : Hid (es.length = ns.length) := hel
      have HSM : Hid (∀ q ∈ es, SmallN q.nd) := hsm2
      have HND : Hid (∀ e : Int, ∀ X, Below w3.heap.size w3 X → Calls Tryz.prog 10 #[.pointer (some ⟨rb, 0, none⟩), .int .i64 e] X (Dm.RNoded (nodeV es e) X)) := fun e X hX => by
        have hh := hTA.next hX
        have h := Dm.refNode_any T.b T.tb T.nv T.dv T.ns T.ds T.es e X hh.tr hh.tells
        rw [hTe] at h
        rw [hTT] at h
        exact h
      have HANY : Hid (∀ e : Int, ∀ X, Below w3.heap.size w3 X → ∀ (r : Rl) (v : Value), r ∈ l → SelsR 11 X.heap.size X v r → Calls Tryz.prog 11 #[.pointer (some ⟨rb, 0, none⟩), .int .i64 e, v] X fun r' w' => r' = .returned (.bool (Rf.ruleV es e r)) ∧ Below X.heap.size X w') := fun e X hX r v hr hs => by
        have h := Rf.given_any T r v e X (hTA.next hX) hs (HO.out r hr)
        rw [hTe, hTp] at h
        exact h
      obtain ⟨h30, h8⟩ := HT.out trivial
      have hbn := new_any 10 _ l w3 (HV.out.next B3) (by omega) (fun r hr => by have := h8 r hr; omega) (fun r hr s hs => SlOk.nm (HL.out r hr s hs))
      have h30' : l.length ≤ 30 := h30
      clear hV hR hE hsm hTA hsm2 hel hTT hTe hTp h8 HT HB T
      go_wp2_with fail
      refine hbn.mono ?_
      clear hbn
      rintro e w4 ⟨tb, rfl, hM, b4⟩
      have B4 := below_next B3 b4
      have HM : Hid (MapIn w3.heap.size w4 tb (newFm l) (lenV l) 10000000000) := hM
      have H34 : Hid (Below w3.heap.size w3 w4) := b4
      clear hM b4 B3
      go_wp2
      go_loopw [10] (fun y wr => ∃ k : Nat, y = .int .i64 k ∧ k ≤ ns.length ∧ Below w4.heap.size w4 wr) (fun y _ => ns.length - (intOf y).toNat)
      case atStart => exact ⟨0, rfl, Nat.zero_le _, Below.refl _ _⟩
      case round =>
        obtain ⟨k, rfl, hk, bw⟩ := hrel
        by_cases hlt : k < ns.length
        · have hki : (k : Int) < (ns.length : Int) := by omega
          have HB4 : Hid (Below w4.heap.size w4 wr) := bw
          have HB3 : Hid (Below w3.heap.size w3 wr) := below_next H34.out bw
          have hnode := HND.out k wr HB3.out
          clear bw
          go_wp2_with fail
          refine hnode.mono ?_
          clear hnode
          rintro e w5 ⟨cv, av, rfl, hcv, hav, b5⟩
          obtain ⟨pa, ma, rfl⟩ := hav.len
          obtain ⟨nd, hnd⟩ : ∃ nd, nodeV es (k : Int) = nd := ⟨_, rfl⟩
          have hsn : SmallN nd := by
            obtain ⟨q, hq⟩ : ∃ q, es[k]? = some q := ⟨_, List.getElem?_eq_getElem (by rw [HEL.out]; exact hlt)⟩
            rw [← hnd]
            unfold nodeV
            rw [Dm.elAt_yes hq]
            exact HSM.out q (List.mem_of_getElem? hq)
          rw [hnd] at hcv hav
          obtain ⟨NN, hNN⟩ : ∃ NN : Nn, NN = ⟨nd.tag, nd.id, nd.cls⟩ := ⟨_, rfl⟩
          have hok : NN.ok := by
            rw [hNN]
            obtain ⟨g1, g2, g3, g4, g5, g6⟩ := hsn
            exact ⟨by unfold maxLen; show nd.tag.size ≤ _; omega, by unfold maxLen; show nd.id.size ≤ _; omega, fun c hc => by have := g5 c hc; unfold maxLen; omega, by show nd.cls.length ≤ 100; omega⟩
          have hna : NodeAt NN w5 (.agg #[.int .i64 nd.parent, .string nd.tag, .string nd.id, cv, .slice pa (nd.ats.length) ma]) := by
            rw [hNN]
            exact ⟨nd.parent, cv, _, rfl, strs_row hcv, _, _, _, rfl⟩
          have HB45 := below_next HB4.out b5
          have hfor := for_any _ w5 tb l _ _ (HM.out.next HB45) (Nat.le_refl _) NN hok _ hna
          have HFV : Hid (∀ (i : Nat) (r : Rl), l[i]? = some r → Rf.ruleV es (k : Int) r = true → i ∈ forV l (bktsV NN)) := fun i r hr h => by
            have h2 := Rf.rule_found hr h
            rw [hnd] at h2
            rw [hNN]
            exact h2
          generalize forV l (bktsV NN) = FV at *
          unfold Dm.ndVal
          rw [hnd]
          clear hcv hav hsn hok hna hNN b5
          go_wp2_with fail
          refine hfor.mono ?_
          clear hfor
          rintro e w6 ⟨xf, rfl, hxf, b6⟩
          have HB46 := below_next HB45 b6
          have HX : Hid (IntR w6 xf FV) := intR_of hxf
          obtain ⟨qf, cf, rfl⟩ := owns_form hxf
          have hfl : FV.length ≤ 9223372036854775807 := by
            cases hFV : FV with
            | nil => simp
            | cons x r =>
              obtain ⟨q', c', e', h'⟩ := HX.out
              obtain ⟨_, _, _, h2, h3, _⟩ := h' 0 x (by rw [hFV]; rfl)
              rw [← hFV]
              omega
          have H46 : Hid (Below w4.heap.size w4 w6) := HB46
          clear hxf b6 HB45 HB46 HB3 HB4 hnd
          go_wp2
          go_loopw [12] (fun y wx => ∃ i : Nat, y = .int .i64 i ∧ i ≤ l.length ∧ Below w6.heap.size w6 wx) (fun y _ => l.length - (intOf y).toNat)
          case atStart => exact ⟨0, rfl, Nat.zero_le _, Below.refl _ _⟩
          case round =>
            rename World => wx
            obtain ⟨i, rfl, hi, bx⟩ := hrel
            have HBX : Hid (Below w6.heap.size w6 wx) := bx
            clear bx
            by_cases hil : i < l.length
            · have hii : (i : Int) < (l.length : Int) := by omega
              obtain ⟨r, hr⟩ : ∃ r, l[i]? = some r := ⟨_, List.getElem?_eq_getElem hil⟩
              have B4X := below_next H46.out HBX.out
              obtain ⟨b, off, cs, rfl, hbx, hc1, hc2, _, ⟨x, p1, m1, k1, rfl, hx⟩, hcell⟩ := RowT.get (HV.out.next (below_next B4 B4X)) hr
              have y0 := hcell 0 _ rfl
              simp only [Nat.add_zero] at y0
              have hany := HANY.out k wx (below_next H34.out B4X) r x (List.mem_of_getElem? hr) hx
              obtain ⟨qx, mx, cx, rfl⟩ := hx.form
              have HF : Hid (Rf.ruleV es (k : Int) r = true → i ∈ FV) := HFV.out i r hr
              generalize Rf.ruleV es (k : Int) r = OK at *
              unfold maxLen at hc2
              clear hx hcell hr
              go_wp2_with fail
              refine hany.mono ?_
              clear hany y0
              rintro e w7 ⟨rfl, b7⟩
              have HB7 : Hid (Below w6.heap.size w6 w7) := below_next HBX.out b7
              clear b7
              go_wp2
              go_loopw [14, 15] (fun y z wy => ∃ (th : Bool) (j : Nat), y = .bool th ∧ z = .int .i64 j ∧ j ≤ FV.length ∧ Hid ((FV.take j).any (fun u => u == i) = th) ∧ wy = w7) (fun _ z _ => FV.length - (intOf z).toNat)
              case atStart => exact ⟨false, 0, rfl, rfl, Nat.zero_le _, rfl, rfl⟩
              case round =>
                rename World => wy
                obtain ⟨th, j, rfl, rfl, hj, HTH, hwy⟩ := hrel
                obtain rfl := hwy
                by_cases hjl : j < FV.length
                · have hji : (j : Int) < (FV.length : Int) := by omega
                  obtain ⟨u, hu⟩ : ∃ u, FV[j]? = some u := ⟨_, List.getElem?_eq_getElem hjl⟩
                  obtain ⟨q', c', e', h'⟩ := HX.out
                  cases e'
                  obtain ⟨bf, rfl, hbf, hf1, hf2, hf3⟩ := h' j u hu
                  have z0 : wy.cell? ⟨bf, j, none⟩ = some (.int .i64 (u : Int)) := (HB7.out.cell (p := ⟨bf, j, none⟩) hbf).trans hf3
                  have HNX : Hid ((FV.take (j + 1)).any (fun u => u == i) = (th || ((u : Int) == (i : Int)))) := by
                    show _ = _
                    rw [any_snoc (fun u => u == i) hu, show (FV.take j).any _ = th from HTH.out]
                    congr 1
                    rw [Bool.eq_iff_iff]
                    simp only [beq_iff_eq]
                    omega
                  clear hu h' hf3 hbf HTH
                  cases th with
                  | true =>
                    go_wp2
                    go_roundw
                    case rel => exact ⟨true, j + 1, rfl, by go_num, by omega, HNX, by first | rfl | trivial⟩
                    case measure => simp [intOf]; omega
                  | false =>
                    rw [Bool.false_or] at HNX
                    go_wp2
                    go_roundw
                    case rel => exact ⟨_, j + 1, rfl, by go_num, by omega, HNX, by first | rfl | trivial⟩
                    case measure => simp [intOf]; omega
                · have hji : ¬ (j : Int) < (FV.length : Int) := by omega
                  have HTH2 : Hid (OK = true → th = true) := fun h => by
                    have hm := HF.out h
                    have h2 := HTH.out
                    rw [List.take_of_length_le (by omega)] at h2
                    rw [← h2, List.any_eq_true]
                    exact ⟨i, hm, by simp⟩
                  have b9 := HB7.out
                  cases OK with
                  | false =>
                    go_wp2
                    go_roundw
                    case rel => exact ⟨i + 1, by go_num, by omega, b9⟩
                    case measure => simp [intOf]; omega
                  | true =>
                    obtain rfl : th = true := HTH2.out rfl
                    go_wp2
                    go_roundw
                    case rel => exact ⟨i + 1, by go_num, by omega, b9⟩
                    case measure => simp [intOf]; omega
            · have hii : ¬ (i : Int) < (l.length : Int) := by omega
              have b9 := below_next H46.out HBX.out
              go_wp2
              go_roundw
              case rel => exact ⟨k + 1, by go_num, by omega, b9⟩
              case measure => simp [intOf]; omega
        · have hki : ¬ (k : Int) < (ns.length : Int) := by omega
          have b9 := below_next B4 bw
          go_wp2
          go_ret
          exact ⟨rfl, b9⟩


set_option maxRecDepth 100000 in
theorem bucketFinds_lifted (os : Os) (started : os.Started) (H : Type) (enc : TypeId × Value → H) (F : Stop.Interp) :
    ReturnsInHanded {} Tryz.checked os 3 .any ((Rows.OpenSpec.upto Rows.bucketFindsSpec).pre6 enc Tryz.prog Tryz.f3 Rows.bucketFindsUptoRow.domain false) (((Rows.OpenSpec.upto Rows.bucketFindsSpec).at F).post enc Tryz.prog Tryz.f3 false true false false) := by
  refine returnsInHanded_of_cond_sized (C := Tryz.checked) (s := Rows.OpenSpec.upto Rows.bucketFindsSpec) (k := Rows.uptoSmall) rfl ownNone started (by kernel_rfl) Tryz.func3
    (OpenSpec.witness (enc := enc) (C := Tryz.checked) (s := Rows.OpenSpec.upto Rows.bucketFindsSpec) (k := Rows.uptoSmall) rfl false ⟨#[], #[.slice none 0 0, .slice none 0 0], []⟩ 8 (by kernel_rfl) (by kernel_rfl) (by kernel_rfl)
      (x := ([.nil, .nil], [], [])) (by kernel_rfl) rfl (by kernel_rfl)) ?_
  intro W base args ds gs before hval hW _ hk hsz0 _
  have hW' := hW
  obtain ⟨p, q, hA0, hV, rfl, hfz, hnd⟩ := hW
  have hA : DataW.TrodAll enc Tryz.prog W 0 (fun _ => true) true Tryz.f3.params.toList args.toList ds p := hA0
  rw [Tryz.params3] at hA hval hsz0
  obtain ⟨v0, vs0, d0, ds0, p0, q0, hargs, rfl, rfl, h0, r0⟩ := trodAll_cons hA
  obtain ⟨v1, vs1, d1, ds1, p1, q1, rfl, rfl, rfl, h1, r1⟩ := trodAll_cons r0
  obtain ⟨rfl, rfl, rfl⟩ := trodAll_nil r1
  obtain rfl : args = #[v0, v1] := by cases args; simp_all
  obtain ⟨rfl, rfl⟩ := trodVars_none hV
  have hsz := List.all_eq_true.1 hsz0
  simp only [List.append_nil] at hk
  obtain ⟨a0, len0, cap0, rfl⟩ := okWide_slice Tryz.underlying22 (hval 0 22 v0 rfl rfl)
  have k0 := h0
  have lt0 : ∀ x ∈ p0, x.block < W.heap.size := by obtain ⟨m, hm⟩ := k0; exact DataW.trod_lt m _ _ _ hm
  obtain ⟨z0, w0, y0⟩ := Bk.rulesAt_of_reads k0 (fun n hn => by simpa using hsz n (DataW.weights_mem_each (j := 0) rfl rfl n hn))
  obtain ⟨a1, len1, cap1, rfl⟩ := okWide_slice Tryz.underlying23 (hval 1 23 v1 rfl rfl)
  have k1 := h1
  have lt1 : ∀ x ∈ p1, x.block < W.heap.size := by obtain ⟨m, hm⟩ := k1; exact DataW.trod_lt m _ _ _ hm
  obtain ⟨z1, w1, y1, u1⟩ := Dm.nodesAt_of_reads k1 (fun n hn => by simpa using hsz n (DataW.weights_mem_each (j := 1) rfl rfl n hn))
  have bk0 := Rf.rulesUp_of k0 w0 hk (by simp)
  clear hA0
  refine (bucketFinds_walk W _ z0 w0 y0 _ z1 w1 y1 u1 bk0).mono fun e W' ⟨he, bel⟩ => ?_
  subst he
  exact ⟨_, rfl, _, _, _, [], _, [], hW', trodAll_mk1 (shut_bool Tryz.underlying4 _), (trodAll_cons_mk (Below.trod laidOut (by kernel_rfl) (of_decide_eq_true (by kernel_rfl)) k0 bel lt0) (trodAll_cons_mk (Below.trod laidOut (by kernel_rfl) (of_decide_eq_true (by kernel_rfl)) k1 bel lt1) trodAll_mk0)), rfl, bel.frame _, fun h => by cases h⟩

theorem bucketFinds_upto : Rows.BucketFindsUptoSaid :=
  OpenClaim.holds_of_cond 3 Tryz.f3 rfl rfl rfl rfl rfl rfl rfl ⟨rfl, rfl, rfl, rfl, rfl⟩ rfl rfl rfl rfl rfl (by kernel_rfl) Tryz.func3 (by kernel_rfl)
    (of_decide_eq_true (by kernel_rfl)) (by unfold Func.isWrapper; first | (rw [if_pos (by decide +kernel)]; kernel_rfl) | (rw [if_neg (by decide +kernel)]; exact ⟨rfl, rfl⟩))
    (fun os started H enc _ F => bucketFinds_lifted os started H enc F)
#print axioms bucketFinds_upto


end Go.Proofs.YtchfnnoabejlpabGreat
