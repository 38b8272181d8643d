/- For every number and two slices of truth values: the law tapestrierlaw6.DeclMany returns true and leaves its arguments as they were; no condition. -/
import Derived.Test.YtfbfgpgpccemkaaDcMany
import Derived.Test.YtfbfgpgpccemkaaDcBools
import Derived.Laws.IdiomStrings
namespace Go.Proofs.Ytfbfgpgpccemkaa
open Go Go.ChangeShapes Go.WideShapes Go.ChangeAt Go.RowKit Dc

/-- '[]byte(s)': a new row. -/
theorem conv_str (s : ByteArray) (w : World) (hs : s.size ≤ 1000000) : ∃ p m c W, (convert 9 28 (.string s)).run Try.prog w = .ok (.slice p m c) W ∧ BytesAt W.heap.size W (.slice p m c) s.data.toList ∧ Below w.heap.size w W ∧ w.heap.size < W.heap.size := by
  have hrun := run_bytes_of_string (P := Try.prog) w 9 28 5 s Try.underlying9 Try.underlying28 Try.underlying5
  have hge := grownCap_ge w s.size 0 5
  have hle := grownCap_le_maxLen w s.size 0 5 (by unfold maxLen; omega)
  have hl : s.data.toList.length = s.size := Array.length_toList
  refine ⟨_, _, _, _, hrun, .inr ⟨w.heap.size, 0, _, by rw [hl], by omega, hle, ?_, fun j u hj => ?_⟩, (Below.refl _ w).drew.alloc (Nat.le_refl _) _, ?_⟩
  · rw [World.size_alloc]; exact Nat.lt_succ_self _
  · have hj' : j < s.size := by have := (List.getElem?_eq_some_iff.1 hj).1; omega
    rw [show (⟨w.heap.size, 0 + j, none⟩ : Addr) = ⟨w.drew.heap.size, j, none⟩ by rw [Nat.zero_add]; rfl, World.cell?_alloc_mark]
    unfold bytesRow
    rw [Array.getElem?_append_left (by rw [Array.size_map]; exact hj'), Array.getElem?_map]
    rw [Array.getElem?_toList] at hj
    rw [hj]
    rfl
  · rw [World.size_alloc]; exact Nat.lt_succ_self _

theorem digits_small (i : Nat) (h : i < 30) (w : World) : Calls Try.prog 14 #[.int .i64 i] w fun e w' => e = .returned (.string ⟨(digs i).toArray⟩) ∧ w' = w := by
  refine (Nm.digits_any i (by omega) w).mono ?_
  rintro e w' ⟨r, rfl, hr, rfl⟩
  rw [digs_eq (by omega)] at hr
  rw [Nm.eq_list hr]
  exact ⟨rfl, rfl⟩
theorem digits_quiet (i : Nat) (h : i < 30) (w : World) : Calls Try.prog 14 #[.int .i64 i] w fun e w' => e = .returned (.string ⟨(digs i).toArray⟩) ∧ ∃ n, w' = w.drewN n := by
  refine (digits_small i h w).mono ?_
  rintro e w' ⟨rfl, rfl⟩
  exact ⟨rfl, 0, rfl⟩
theorem digs_size (i : Nat) : (⟨(digs i).toArray⟩ : ByteArray).size ≤ 2 := by
  show (digs i).toArray.size ≤ 2
  rw [List.size_toArray]
  exact digs_len i
/-- What the strings hold behind a round. -/
theorem good_text {S D : ByteArray} {bad imp : List Bool} {k : Nat} (hS : S.data.toList = textTo bad imp k) (hD : D = ⟨(digs k).toArray⟩) (hb : (bad[k]?).getD false = false) :
    ((imp[k]?).getD false = false → (S ++ ⟨#[32, 119]⟩ ++ D ++ ⟨#[58, 32]⟩ ++ D ++ ⟨#[32, 59]⟩).data.toList = textTo bad imp (k + 1)) ∧
    ((imp[k]?).getD false = true → (S ++ ⟨#[32, 119]⟩ ++ D ++ ⟨#[58, 32]⟩ ++ D ++ ⟨#[32, 33, 32, 73, 77, 80, 79, 82, 84, 65, 78, 84]⟩ ++ ⟨#[32, 59]⟩).data.toList = textTo bad imp (k + 1)) := by
  subst hD
  constructor
  · intro hi
    rw [textTo_succ, pieceAt, if_neg (by simp [hb]), hi]
    simp only [Nm.data_app, hS, goodP]
    simp
  · intro hi
    rw [textTo_succ, pieceAt, if_neg (by simp [hb]), hi]
    simp only [Nm.data_app, hS, goodP]
    simp
theorem bad_text {S : ByteArray} {bad imp : List Bool} {k : Nat} (hS : S.data.toList = textTo bad imp k) (hb : (bad[k]?).getD false = true) :
    (S ++ ⟨#[32, 40, 97, 59, 98, 58, 99, 41, 32, 59, 32, 53, 32, 58, 32, 54, 59, 32, 120, 32, 121, 58, 32, 122, 59]⟩).data.toList = textTo bad imp (k + 1) := by
  rw [textTo_succ, pieceAt, if_pos hb, Nm.data_app, hS]
  rfl
theorem w_name {D d : ByteArray} {i : Nat} (hD : D = ⟨(digs i).toArray⟩) (hd : d.data.toList = wName i) : d = ⟨#[119]⟩ ++ D := by
  subst hD
  refine WideShapes.bytes_inj ?_
  rw [hd, Nm.data_app]
  rfl
theorem nums_one {l : List Bt} {x : Int} (h : l.map Bt.n = [x]) : ∃ t, l = [t] ∧ t.n = x := by
  match l, h with
  | [t], h => exact ⟨t, rfl, by simpa using h⟩

set_option maxRecDepth 100000 in
set_option maxHeartbeats 4000000 in
theorem declMany_walk (w : World) (n : Int) (hw : (Lit.int .i64 n).wf = true) (v1 : Value) (bad : List Bool) (hv1 : BoolsAt w.heap.size w v1 bad) (v2 : Value) (imp : List Bool) (hv2 : BoolsAt w.heap.size w v2 imp) :
    Calls Try.prog 5 #[.int .i64 n, v1, v2] w fun e w' => e = .returned (.bool true) ∧ Below w.heap.size w w' := by
  have h0 := alive6_any w
  obtain ⟨p1, cap1, rfl⟩ := hv1.len
  obtain ⟨p2, cap2, rfl⟩ := hv2.len
  go_enter Try.func5, Try.ntmps5
  go_wp2_with fail
  refine h0.mono ?_
  clear h0
  rintro e w1 ⟨rfl, b1⟩
  by_cases hn0 : n < 0
  · clear hv1 hv2
    go_wp2
    go_ret
    exact ⟨rfl, b1⟩
  by_cases hn30 : 30 < n
  · have hn0' : decide (n < 0) = false := by simpa using hn0
    clear hv1 hv2
    go_wp2
    go_ret
    exact ⟨rfl, b1⟩
  obtain ⟨N, rfl⟩ : ∃ N : Nat, n = (N : Int) := ⟨n.toNat, by omega⟩
  have hN : N ≤ 30 := by omega
  have hn0' : decide ((N : Int) < 0) = false := by simp
  have hn30' : decide ((30 : Int) < (N : Int)) = false := by simpa using hn30
  by_cases hl1 : bad.length < N
  · have hl1i : (bad.length : Int) < (N : Int) := by omega
    clear hv1 hv2
    go_wp2
    go_ret
    exact ⟨rfl, b1⟩
  have hl1i : ¬ (bad.length : Int) < (N : Int) := by omega
  by_cases hl2 : imp.length < N
  · have hl2i : (imp.length : Int) < (N : Int) := by omega
    clear hv1 hv2
    go_wp2
    go_ret
    exact ⟨rfl, b1⟩
  have hl2i : ¬ (imp.length : Int) < (N : Int) := by omega
  have hv11 := hv1.below b1
  have hv21 := hv2.below b1
  go_wp2
  go_loopw [8, 9, 10] (fun x y z wr => ∃ (k : Nat) (S : ByteArray), x = .string S ∧ y = .int .i64 ((declsTo bad imp k).length : Int) ∧ z = .int .i64 k ∧ k ≤ N ∧ Hid (S.data.toList = textTo bad imp k) ∧ w1 = wr) (fun _ _ z _ => N - (intOf z).toNat)
  case atStart => exact ⟨0, ⟨#[]⟩, rfl, rfl, rfl, Nat.zero_le _, rfl, rfl⟩
  case round =>
    obtain ⟨k, S, rfl, rfl, rfl, hk, HS, rfl⟩ := hrel
    have hSl : S.size ≤ 1800 := by
      have h1 := text_len bad imp k
      rw [← show S.data.toList = _ from HS, Nm.len_list] at h1
      omega
    have hdl : (declsTo bad imp k).length ≤ 30 := by
      have key : ∀ j, j ≤ 30 → (declsTo bad imp j).length ≤ j := by
        intro j
        induction j with
        | zero => intro _; simp [declsTo]
        | succ j ih =>
          intro hj
          have := ih (by omega)
          rw [declsTo_succ, List.length_append]
          cases hb : (bad[j]?).getD false with
          | true => rw [declAt_none bad imp hb]; simp; omega
          | false =>
            obtain ⟨d, hd, _⟩ := declAt_one bad imp (i := j) (by omega) hb
            rw [hd]
            simp
            omega
      have := key k (by omega)
      omega
    by_cases hlt : k < N
    · have hki : (k : Int) < (N : Int) := by omega
      have hkb : (k : Int) < (bad.length : Int) := by omega
      have hkp : (k : Int) < (imp.length : Int) := by omega
      obtain ⟨bk1, off1, u1, rfl, hu1, c1, _⟩ := hv11.get (k := k) (by omega)
      obtain ⟨bk2, off2, u2, rfl, hu2, c2, _⟩ := hv21.get (k := k) (by omega)
      have hb : (bad[k]?).getD false = u1 := by rw [hu1]; rfl
      have hp : (imp[k]?).getD false = u2 := by rw [hu2]; rfl
      have hds := declsTo_succ bad imp k
      clear hv1 hv2 hv11 hv21
      cases u1 with
      | true =>
        rw [declAt_none bad imp hb, List.append_nil] at hds
        have HT : Hid _ := bad_text (imp := imp) HS hb
        have hds' : Hid ((declsTo bad imp k).length = (declsTo bad imp (k + 1)).length) := by show _ = _; rw [hds]
        clear hds
        go_wp2
        exact ⟨⟨k + 1, _, rfl, by rw [show _ = _ from hds'], by go_num, by omega, HT, by first | rfl | trivial⟩, by simp [intOf]; omega⟩
      | false =>
        obtain ⟨d, hd, _⟩ := declAt_one bad imp (i := k) (by omega) hb
        rw [hd] at hds
        have hds' : Hid ((declsTo bad imp (k + 1)).length = (declsTo bad imp k).length + 1) := by show _ = _; rw [hds]; simp
        have hdg := digits_small k (by omega)
        have hgs := digs_size k
        obtain ⟨D, hD⟩ : ∃ D : ByteArray, (⟨(digs k).toArray⟩ : ByteArray) = D := ⟨_, rfl⟩
        obtain ⟨G0, G1⟩ := good_text (D := D) HS hD.symm hb
        rw [hD] at hdg hgs
        clear hds hd hD
        cases u2 with
        | false =>
          have HT : Hid _ := G0 hp
          clear G0 G1
          go_wp2_with fail
          refine (hdg _).mono ?_
          rintro e w2 ⟨rfl, rfl⟩
          go_wp2_with fail
          refine (hdg _).mono ?_
          rintro e w3 ⟨rfl, rfl⟩
          go_wp2
          exact ⟨⟨k + 1, _, rfl, by rw [show _ = _ from hds']; go_num, by go_num, by omega, HT, by first | rfl | trivial⟩, by simp [intOf]; omega⟩
        | true =>
          have HT : Hid _ := G1 hp
          clear G0 G1
          go_wp2_with fail
          refine (hdg _).mono ?_
          rintro e w2 ⟨rfl, rfl⟩
          go_wp2_with fail
          refine (hdg _).mono ?_
          rintro e w3 ⟨rfl, rfl⟩
          go_wp2
          exact ⟨⟨k + 1, _, rfl, by rw [show _ = _ from hds']; go_num, by go_num, by omega, HT, by first | rfl | trivial⟩, by simp [intOf]; omega⟩
    · have hki : ¬ (k : Int) < (N : Int) := by omega
      obtain rfl : k = N := by omega
      have HD := decls_all bad imp hN
      rw [← show S.data.toList = _ from HS] at HD
      obtain ⟨p3, m3, c3, w3, hrun, hB3, b3, _⟩ := conv_str S w1 (by omega)
      have b03 := below_next b1 b3
      have hSl2 : S.data.toList.length ≤ 1800 := by rw [Nm.len_list]; exact hSl
      have h4 := of_any _ _ w3 hB3 (by omega)
      have hlen := tksB_len S.data.toList
      have HX : Hid (∀ t ∈ tksB S.data.toList, t.text.size ≤ maxLen) := tksB_text _ (by omega)
      generalize tksB S.data.toList = ts at *
      go_wp2_with fail
      refine h4.mono ?_
      clear h4 hrun hB3
      rintro e w4 ⟨v4, rfl, hr4, b4⟩
      have h5 := parse_any v4 ts w4 (BtsAt.of_owns hr4 rfl) HX (by omega)
      rw [HD] at h5
      go_wp2_with fail
      refine h5.mono ?_
      clear h5 hr4 HX HD HS
      rintro e w5 ⟨v5, rfl, ⟨qs, hq, hR⟩, b5⟩
      have b05 := below_next (below_next b03 b4) b5
      have hlq : qs.length = (declsTo bad imp k).length := by rw [← hq, List.length_map]
      obtain ⟨p5, cap5, rfl⟩ := hR.form
      rw [hlq] at hR ⊢
      have G := fun i d (h : (declsTo bad imp k)[i]? = some d) => hR.get (k := i) (d := d) (by rw [hq]; exact h)
      clear hR hlq hq
      go_wp2
      go_loopw [12, 13] (fun y z wr => ∃ i : Nat, y = .int .i64 ((declsTo bad imp i).length : Int) ∧ z = .int .i64 i ∧ i ≤ k ∧ Below w5.heap.size w5 wr) (fun _ z _ => k - (intOf z).toNat)
      case atStart => exact ⟨0, rfl, rfl, Nat.zero_le _, Below.refl _ _⟩
      case round =>
        obtain ⟨i, rfl, rfl, hik, hb⟩ := hrel
        have hbw := below_next b05 hb
        by_cases hlt2 : i < k
        · have hki2 : (i : Int) < (k : Int) := by omega
          have hkb : (i : Int) < (bad.length : Int) := by omega
          have hkp : (i : Int) < (imp.length : Int) := by omega
          obtain ⟨bk1, off1, u1, rfl, hu1, c1, _⟩ := (hv1.below hbw).get (k := i) (by omega)
          obtain ⟨bk2, off2, u2, rfl, hu2, c2, hbk2⟩ := (hv2.below hbw).get (k := i) (by omega)
          have hb1 : (bad[i]?).getD false = u1 := by rw [hu1]; rfl
          have hp1 : (imp[i]?).getD false = u2 := by rw [hu2]; rfl
          have hds := declsTo_succ bad imp i
          cases u1 with
          | true =>
            rw [declAt_none bad imp hb1, List.append_nil] at hds
            have hds' : Hid ((declsTo bad imp i).length = (declsTo bad imp (i + 1)).length) := by show _ = _; rw [hds]
            clear hds G hv1 hv2 hv11 hv21
            go_wp2
            exact ⟨⟨i + 1, by rw [show _ = _ from hds'], by go_num, by omega, hb⟩, by simp [intOf]; omega⟩
          | false =>
            obtain ⟨d, hd, hdn, hdi, hdv⟩ := declAt_one bad imp (i := i) (by omega) hb1
            rw [hd] at hds
            have hds' : Hid ((declsTo bad imp (i + 1)).length = (declsTo bad imp i).length + 1) := by show _ = _; rw [hds]; simp
            obtain ⟨r, hr⟩ := declsTo_prefix bad imp (show i + 1 ≤ k by omega)
            have hat : (declsTo bad imp k)[(declsTo bad imp i).length]? = some d := by rw [hr, hds]; simp
            have hkl : (declsTo bad imp i).length < (declsTo bad imp k).length := (List.getElem?_eq_some_iff.1 hat).1
            have hkli : ((declsTo bad imp i).length : Int) < ((declsTo bad imp k).length : Int) := by omega
            obtain ⟨bk, off, q1, c1', rfl, a0, a1, a2, t1⟩ := G _ d hat
            have hbk : bk < w5.heap.size := World.block_lt_of_cell? w5 ⟨bk, _, none⟩ a0
            replace a0 := (hb.cell (p := ⟨bk, _, none⟩) hbk).trans a0
            replace a1 := (hb.cell (p := ⟨bk, _, none⟩) hbk).trans a1
            replace a2 := (hb.cell (p := ⟨bk, _, none⟩) hbk).trans a2
            replace t1 := t1.below hb
            obtain ⟨t, hvt, htn⟩ := nums_one hdv
            rw [hvt] at t1 a1
            obtain ⟨bv, offv, capv, ev, _, _, hbv, ⟨_, _, xn, _⟩, _⟩ := t1.first
            cases ev
            rw [htn] at xn
            rw [hdi, hp1] at a2
            have hdq := digits_quiet i (by omega)
            have hgs := digs_size i
            obtain ⟨D, hD⟩ : ∃ D : ByteArray, (⟨(digs i).toArray⟩ : ByteArray) = D := ⟨_, rfl⟩
            have hnm := w_name hD.symm hdn
            rw [hD] at hdq hgs
            rw [hnm] at a0
            have hmul : IntKind.i64.wrap (1000 * (i : Int)) = 1000 * (i : Int) := by rw [IntKind.wrap_i64]; omega
            have hdl2 : (declsTo bad imp i).length ≤ 30 := by omega
            clear hds hd hD G hv1 hv2 hv11 hv21 hr hat hdn hdi hdv hvt htn t1 hnm hu1 hu2 hb1 hp1
            generalize (declsTo bad imp i).length = q at *
            have bX : Below wr.heap.size wr (wr.alloc (.cells #[.string (⟨#[119]⟩ ++ D), .slice (some ⟨bv, offv, none⟩) 1 c1', .bool u2] 34)) := (Below.refl _ wr).alloc (Nat.le_refl _) _
            have kX := Blk.new wr 34 [.string (⟨#[119]⟩ ++ D), .slice (some ⟨bv, offv, none⟩) 1 c1', .bool u2]
            have hsb := hb.size
            have hsw := b05.size
            go_upto_region 25 with fail
            replace kX : Blk (wr.alloc (.cells #[.string (⟨#[119]⟩ ++ D), .slice (some ⟨bv, offv, none⟩) 1 c1', .bool u2] 34)) wr.heap.size _ _ := kX
            generalize wr.alloc (.cells #[.string (⟨#[119]⟩ ++ D), .slice (some ⟨bv, offv, none⟩) 1 c1', .bool u2] 34) = X at *
            obtain ⟨⟨e0, e1, e2⟩, _⟩ := blk3 kX
            replace c2 := (bX.cell (p := ⟨bk2, off2 + i, none⟩) (show bk2 < _ by omega)).trans c2
            replace xn := (bX.cell (p := ⟨bv, offv + 2, none⟩) (show bv < _ by omega)).trans xn
            have hbX := below_next hb bX
            clear a0 a1 a2 c1 kX bX
            go_quiet ((go_at_call 14; exact Calls.quiet_of (hdq _)))
            have bq : Below w5.heap.size w5 (X.drewN nq) := ⟨hbX.os, hbX.tape, hbX.output, hbX.size, hbX.block⟩
            clear hdq
            go_wp2
            exact ⟨⟨i + 1, by rw [show _ = _ from hds']; go_num, by go_num, by omega, bq⟩, by simp [intOf]; omega⟩
        · have hki2 : ¬ (i : Int) < (k : Int) := by omega
          clear G hv1 hv2 hv11 hv21
          go_wp2
          go_ret
          exact ⟨rfl, hbw⟩


set_option maxRecDepth 100000 in
theorem declMany_lifted (os : Os) (started : os.Started) (H : Type) (enc : TypeId × Value → H) :
    ReturnsInHanded {} Try.checked os 5 .any (Rows.declManySpec.pre6 enc Try.prog Try.f5 Rows.declManyRow.domain false) (Rows.declManySpec.post enc Try.prog Try.f5 false true false false) := by
  refine returnsInHanded_of_change_sized (C := Try.checked) ownNone started (by kernel_rfl) Try.func5
    (ChangeSpec.witness6 (enc := enc) (C := Try.checked) false ⟨#[], #[.int .i64 0, .slice none 0 0, .slice none 0 0], []⟩ 8 (by kernel_rfl) (by kernel_rfl) (by kernel_rfl) (by kernel_rfl)) ?_
  intro W base args ds gs before hval hW _ hsz0 _
  have hW' := hW
  obtain ⟨p, q, hA0, hV, rfl, hfz, hnd⟩ := hW
  have hA : DataW.TrodAll enc Try.prog W 0 (fun _ => true) true Try.f5.params.toList args.toList ds p := hA0
  rw [Try.params5] at hA hval hsz0
  obtain ⟨v0, vs0, d0, ds0, p0, q0, hargs, rfl, rfl, h0, r0⟩ := trodAll_cons hA
  obtain ⟨v1, vs1, d1, ds1, p1, q1, rfl, rfl, rfl, h1, r1⟩ := trodAll_cons r0
  obtain ⟨v2, vs2, d2, ds2, p2, q2, rfl, rfl, rfl, h2, r2⟩ := trodAll_cons r1
  obtain ⟨rfl, rfl, rfl⟩ := trodAll_nil r2
  obtain rfl : args = #[v0, v1, v2] := by cases args; simp_all
  obtain ⟨rfl, rfl⟩ := trodVars_none hV
  obtain ⟨a0, rfl, rfl, rfl, w0⟩ := open_int Try.underlying3 (hval 0 3 v0 rfl rfl) h0
  obtain ⟨a1, len1, cap1, rfl⟩ := okWide_slice Try.underlying31 (hval 1 31 v1 rfl rfl)
  have k1 := h1
  have lt1 : ∀ x ∈ p1, x.block < W.heap.size := by obtain ⟨m, hm⟩ := k1; exact DataW.trod_lt m _ _ _ hm
  obtain ⟨z1, w1⟩ := boolsAt_of_reads k1
  obtain ⟨a2, len2, cap2, rfl⟩ := okWide_slice Try.underlying31 (hval 2 31 v2 rfl rfl)
  have k2 := h2
  have lt2 : ∀ x ∈ p2, x.block < W.heap.size := by obtain ⟨m, hm⟩ := k2; exact DataW.trod_lt m _ _ _ hm
  obtain ⟨z2, w2⟩ := boolsAt_of_reads k2
  clear hA0
  refine (declMany_walk W a0 w0 _ z1 w1 _ z2 w2).mono fun e W' ⟨he, bel⟩ => ?_
  subst he
  exact ⟨_, rfl, _, _, _, [], _, [], hW', trodAll_mk1 (shut_bool Try.underlying4 _), (trodAll_cons_mk (shut_int Try.underlying3 w0) (trodAll_cons_mk (Below.trod laidOut (by kernel_rfl) (of_decide_eq_true (by kernel_rfl)) k1 bel lt1) (trodAll_cons_mk (Below.trod laidOut (by kernel_rfl) (of_decide_eq_true (by kernel_rfl)) k2 bel lt2) trodAll_mk0))), rfl, bel.frame _, fun h => by cases h⟩

theorem declMany_said : Rows.DeclManySaid :=
  OpenClaim.holds_of_wide 5 Try.f5 rfl rfl rfl rfl rfl rfl rfl ⟨rfl, rfl, rfl, rfl, rfl⟩ rfl rfl rfl rfl rfl (by kernel_rfl) Try.func5 (by kernel_rfl)
    (of_decide_eq_true (by kernel_rfl)) (by unfold Func.isWrapper; first | (rw [if_pos (by decide +kernel)]; kernel_rfl) | (rw [if_neg (by decide +kernel)]; exact ⟨rfl, rfl⟩))
    (fun os started H enc _ => declMany_lifted os started H enc)
#print axioms declMany_said


end Go.Proofs.Ytfbfgpgpccemkaa
