/- For every number and slice of integers: the law tapestrierlaw5.RulesMany returns true and leaves its arguments as they were; no condition. -/
import Derived.Test.YthljapneniikkaaRsMany
import Derived.Test.YthljapneniikkaaRsSame
import Derived.Test.YthljapneniikkaaRsArgs
import Derived.Laws.IdiomStrings
namespace Go.Proofs.Ythljapneniikkaa
open Go Go.ChangeShapes Go.WideShapes Go.ChangeAt Go.RowKit Rm

/-- '[]byte(s)': a new row. -/
theorem conv_str (s : ByteArray) (w : World) (hs : s.size ≤ 1000000) : ∃ p m c W, (convert 9 22 (.string s)).run Try.prog w = .ok (.slice p m c) W ∧ BytesAt W.heap.size W (.slice p m c) s.data.toList ∧ Below w.heap.size w W ∧ w.heap.size < W.heap.size := by
  have hrun := run_bytes_of_string (P := Try.prog) w 9 22 5 s Try.underlying9 Try.underlying22 Try.underlying5
  have hge := grownCap_ge w s.size 0 5
  have hle := grownCap_le_maxLen w s.size 0 5 (by unfold maxLen; omega)
  have hl : s.data.toList.length = s.size := Array.length_toList
  refine ⟨_, _, _, _, hrun, .inr ⟨w.heap.size, 0, _, by rw [hl], by omega, hle, ?_, fun j u hj => ?_⟩, (Below.refl _ w).drew.alloc (Nat.le_refl _) _, ?_⟩
  · rw [World.size_alloc]; exact Nat.lt_succ_self _
  · have hj' : j < s.size := by have := (List.getElem?_eq_some_iff.1 hj).1; omega
    rw [show (⟨w.heap.size, 0 + j, none⟩ : Addr) = ⟨w.drew.heap.size, j, none⟩ by rw [Nat.zero_add]; rfl, World.cell?_alloc_mark]
    unfold bytesRow
    rw [Array.getElem?_append_left (by rw [Array.size_map]; exact hj'), Array.getElem?_map]
    rw [Array.getElem?_toList] at hj
    rw [hj]
    rfl
  · rw [World.size_alloc]; exact Nat.lt_succ_self _

theorem and3 (z : Int) : ∃ j : Nat, j < 4 ∧ bits BinOp.and IntKind.i64 z 3 = (j : Int) := by
  have h : (BitVec.ofInt 64 z &&& BitVec.ofInt 64 3).toNat < 4 := by
    rw [BitVec.toNat_and]
    exact Nat.lt_of_le_of_lt Nat.and_le_right (by decide)
  refine ⟨_, h, ?_⟩
  show IntKind.i64.wrap ((BitVec.ofInt 64 z &&& BitVec.ofInt 64 3).toNat : Int) = _
  rw [IntKind.wrap_i64]
  omega
theorem ints_get {n₀ : Nat} {X : World} {p : Option Addr} {n cap : Nat} {l : List Int} (h : IntsAt n₀ X (.slice p n cap) l) {k : Nat} {u : Int} (hk : l[k]? = some u) : ∃ bk off, p = some ⟨bk, off, none⟩ ∧ X.cell? ⟨bk, off + k, none⟩ = some (.int .i64 u) := by
  rcases h with ⟨rfl, _⟩ | ⟨bk, off, c, e, h1, h2, hb, h⟩
  · simp at hk
  · cases e
    exact ⟨bk, off, rfl, h k u hk⟩
theorem digits_small (i : Nat) (h : i < 30) (w : World) : Calls Try.prog 10 #[.int .i64 i] w fun e w' => e = .returned (.string ⟨(digs i).toArray⟩) ∧ w' = w := by
  refine (Nm.digits_any i (by omega) w).mono ?_
  rintro e w' ⟨r, rfl, hr, rfl⟩
  rw [digs_eq (by omega)] at hr
  rw [Nm.eq_list hr]
  exact ⟨rfl, rfl⟩
theorem digits_quiet (i : Nat) (h : i < 30) (w : World) : Calls Try.prog 10 #[.int .i64 i] w fun e w' => e = .returned (.string ⟨(digs i).toArray⟩) ∧ ∃ n, w' = w.drewN n := by
  refine (digits_small i h w).mono ?_
  rintro e w' ⟨rfl, rfl⟩
  exact ⟨rfl, 0, rfl⟩
theorem digs_size (i : Nat) : (⟨(digs i).toArray⟩ : ByteArray).size ≤ 2 := by
  show (digs i).toArray.size ≤ 2
  rw [List.size_toArray]
  exact digs_len i
def wOf (l : List Int) : List Nat := l.map fun z => (bits BinOp.and IntKind.i64 z 3).toNat
theorem wOf_at {l : List Int} {k : Nat} {z : Int} (h : l[k]? = some z) : ∃ j : Nat, j < 4 ∧ bits BinOp.and IntKind.i64 z 3 = (j : Int) ∧ ((wOf l)[k]?).getD 0 = j := by
  obtain ⟨j, hj, e⟩ := and3 z
  refine ⟨j, hj, e, ?_⟩
  unfold wOf
  rw [List.getElem?_map, h]
  show (bits BinOp.and IntKind.i64 z 3).toNat = j
  rw [e, Int.toNat_natCast]
/-- What the string holds behind a round. -/
theorem rule_text {S D : ByteArray} {w : List Nat} {k : Nat} (hS : S.data.toList = textTo w k) (hD : D = ⟨(digs k).toArray⟩) (hb : ¬ (w[k]?).getD 0 < 2) :
    (S ++ ⟨#[107]⟩ ++ D ++ ⟨#[123, 32, 120, 32, 58, 32, 121, 32, 125]⟩).data.toList = textTo w (k + 1) := by
  subst hD
  rw [textTo_succ, pieceAt, if_neg (by omega), if_neg (by omega)]
  simp only [Nm.data_app, hS, ruleP]
  simp
theorem atA_text {S : ByteArray} {w : List Nat} {k : Nat} (hS : S.data.toList = textTo w k) (hb : (w[k]?).getD 0 = 0) :
    (S ++ ⟨#[64, 97, 32, 40, 59, 41, 32, 34, 123, 34, 32, 59]⟩).data.toList = textTo w (k + 1) := by
  rw [textTo_succ, pieceAt, if_pos hb, Nm.data_app, hS]
  rfl
theorem atB_text {S : ByteArray} {w : List Nat} {k : Nat} (hS : S.data.toList = textTo w k) (hb : (w[k]?).getD 0 = 1) :
    (S ++ ⟨#[64, 98, 32, 99, 32, 123, 32, 100, 32, 123, 32, 101, 32, 58, 32, 102, 32, 125, 32, 125]⟩).data.toList = textTo w (k + 1) := by
  rw [textTo_succ, pieceAt, if_neg (by omega), if_pos hb, Nm.data_app, hS]
  rfl
theorem k_name {D d : ByteArray} {i : Nat} (hD : D = ⟨(digs i).toArray⟩) (hd : d.data.toList = kName i) : d = ⟨#[107]⟩ ++ D := by
  subst hD
  refine WideShapes.bytes_inj ?_
  rw [hd, Nm.data_app]
  rfl
theorem texts_one {l : List Bt} {x : List UInt8} (h : l.map (fun t => t.text.data.toList) = [x]) : ∃ t, l = [t] ∧ t.text.data.toList = x := by
  match l, h with
  | [t], h => exact ⟨t, rfl, by simpa using h⟩

set_option maxRecDepth 100000 in
set_option maxHeartbeats 4000000 in
theorem rulesMany_walk (w : World) (n : Int) (hw : (Lit.int .i64 n).wf = true) (v1 : Value) (zs : List Int) (hv1 : IntsAt w.heap.size w v1 zs) :
    Calls Try.prog 4 #[.int .i64 n, v1] w fun e w' => e = .returned (.bool true) ∧ Below w.heap.size w w' := by
  have h0 := alive5_any w
  obtain ⟨p1, cap1, rfl⟩ := hv1.len
  go_enter Try.func4, Try.ntmps4
  go_wp2_with fail
  refine h0.mono ?_
  clear h0
  rintro e w1 ⟨rfl, b1⟩
  by_cases hn0 : n < 0
  · clear hv1
    go_wp2
    go_ret
    exact ⟨rfl, b1⟩
  by_cases hn30 : 30 < n
  · have hn0' : decide (n < 0) = false := by simpa using hn0
    clear hv1
    go_wp2
    go_ret
    exact ⟨rfl, b1⟩
  obtain ⟨N, rfl⟩ : ∃ N : Nat, n = (N : Int) := ⟨n.toNat, by omega⟩
  have hN : N ≤ 30 := by omega
  have hn0' : decide ((N : Int) < 0) = false := by simp
  have hn30' : decide ((30 : Int) < (N : Int)) = false := by simpa using hn30
  by_cases hl1 : zs.length < N
  · have hl1i : (zs.length : Int) < (N : Int) := by omega
    clear hv1
    go_wp2
    go_ret
    exact ⟨rfl, b1⟩
  have hl1i : ¬ (zs.length : Int) < (N : Int) := by omega
  have hv11 := hv1.below b1
  obtain ⟨wl, hwl⟩ : ∃ wl, wOf zs = wl := ⟨_, rfl⟩
  have HW : Hid (∀ k z, zs[k]? = some z → ∃ j : Nat, j < 4 ∧ bits BinOp.and IntKind.i64 z 3 = (j : Int) ∧ (wl[k]?).getD 0 = j) := fun k z h => by rw [← hwl]; exact wOf_at h
  clear hwl
  go_wp2
  go_loopw [6, 7, 8] (fun x y z wr => ∃ (k : Nat) (S : ByteArray), x = .string S ∧ y = .int .i64 ((rulesTo wl k).length : Int) ∧ z = .int .i64 k ∧ k ≤ N ∧ Hid (S.data.toList = textTo wl k) ∧ w1 = wr) (fun _ _ z _ => N - (intOf z).toNat)
  case atStart => exact ⟨0, ⟨#[]⟩, rfl, rfl, rfl, Nat.zero_le _, rfl, rfl⟩
  case round =>
    obtain ⟨k, S, rfl, rfl, rfl, hk, HS, rfl⟩ := hrel
    have hSl : S.size ≤ 1800 := by
      have h1 := text_len wl k
      rw [← show S.data.toList = _ from HS, Nm.len_list] at h1
      omega
    have hdl : (rulesTo wl k).length ≤ 30 := by
      have := rulesTo_len wl k (by omega)
      omega
    by_cases hlt : k < N
    · have hki : (k : Int) < (N : Int) := by omega
      have hkz : k < zs.length := by omega
      have hkb : (k : Int) < (zs.length : Int) := by omega
      obtain ⟨bk1, off1, rfl, c1⟩ := ints_get hv11 (List.getElem?_eq_getElem hkz)
      obtain ⟨j, hj, hjb, hjw⟩ := HW k _ (List.getElem?_eq_getElem hkz)
      generalize zs[k] = z at *
      have hds := rulesTo_succ wl k
      clear hv1 hv11 HW
      by_cases hj0 : j = 0
      · subst hj0
        rw [rulesAt_none wl (by omega), List.append_nil] at hds
        have HT : Hid _ := atA_text HS hjw
        have hds' : Hid ((rulesTo wl k).length = (rulesTo wl (k + 1)).length) := by show _ = _; rw [hds]
        rw [show ((0 : Nat) : Int) = 0 from rfl] at hjb
        clear hds hjw
        go_wp2
        exact ⟨⟨k + 1, _, rfl, by rw [show _ = _ from hds'], by go_num, by omega, HT, by first | rfl | trivial⟩, by simp [intOf]; omega⟩
      · by_cases hj1 : j = 1
        · subst hj1
          rw [rulesAt_none wl (by omega), List.append_nil] at hds
          have HT : Hid _ := atB_text HS hjw
          have hds' : Hid ((rulesTo wl k).length = (rulesTo wl (k + 1)).length) := by show _ = _; rw [hds]
          rw [show ((1 : Nat) : Int) = 1 from rfl] at hjb
          clear hds hjw hj0
          go_wp2
          exact ⟨⟨k + 1, _, rfl, by rw [show _ = _ from hds'], by go_num, by omega, HT, by first | rfl | trivial⟩, by simp [intOf]; omega⟩
        · have hg2 : ¬ (wl[k]?).getD 0 < 2 := by omega
          obtain ⟨d, hd, _⟩ := rulesAt_one wl (i := k) (by omega) hg2
          rw [hd] at hds
          have hds' : Hid ((rulesTo wl (k + 1)).length = (rulesTo wl k).length + 1) := by show _ = _; rw [hds]; simp
          have hdg := digits_small k (by omega)
          have hgs := digs_size k
          obtain ⟨D, hD⟩ : ∃ D : ByteArray, (⟨(digs k).toArray⟩ : ByteArray) = D := ⟨_, rfl⟩
          have HT : Hid _ := rule_text (D := D) HS hD.symm hg2
          rw [hD] at hdg hgs
          have e0 : ((j : Int) == 0) = false := by simp; omega
          have e1 : ((j : Int) == 1) = false := by simp; omega
          clear hds hd hD hg2 hjw hj0 hj1
          go_wp2_with fail
          refine (hdg _).mono ?_
          rintro e w2 ⟨rfl, rfl⟩
          go_wp2
          exact ⟨⟨k + 1, _, rfl, by rw [show _ = _ from hds']; go_num, by go_num, by omega, HT, by first | rfl | trivial⟩, by simp [intOf]; omega⟩
    · have hki : ¬ (k : Int) < (N : Int) := by omega
      obtain rfl : k = N := by omega
      have HD := rules_all wl hN
      rw [← show S.data.toList = _ from HS] at HD
      obtain ⟨p3, m3, c3, w3, hrun, hB3, b3, _⟩ := conv_str S w1 (by omega)
      have b03 := below_next b1 b3
      have hSl2 : S.data.toList.length ≤ 1800 := by rw [Nm.len_list]; exact hSl
      have h4 := of_any _ _ w3 hB3 (by omega)
      have hlen := tksB_len S.data.toList
      generalize tksB S.data.toList = ts at *
      go_wp2_with fail
      refine h4.mono ?_
      clear h4 hrun hB3
      rintro e w4 ⟨v4, rfl, hr4, b4⟩
      have h5 := parse_any v4 ts w4 (BtsAt.of_owns hr4 rfl) (by omega)
      rw [HD] at h5
      go_wp2_with fail
      refine h5.mono ?_
      clear h5 hr4 HD HS
      rintro e w5 ⟨v5, rfl, ⟨vs, hR⟩, b5⟩
      have b05 := below_next (below_next b03 b4) b5
      obtain ⟨p5, cap5, rfl⟩ := hR.form
      have G := fun i (d : Rw) (h : (rulesTo wl k)[i]? = some d) => hR.get (k := i) (r := d) h
      clear hR
      go_wp2
      go_loopw [10, 11] (fun y z wr => ∃ i : Nat, y = .int .i64 ((rulesTo wl i).length : Int) ∧ z = .int .i64 i ∧ i ≤ k ∧ Below w5.heap.size w5 wr) (fun _ z _ => k - (intOf z).toNat)
      case atStart => exact ⟨0, rfl, rfl, Nat.zero_le _, Below.refl _ _⟩
      case round =>
        obtain ⟨i, rfl, rfl, hik, hb⟩ := hrel
        have hbw := below_next b05 hb
        by_cases hlt2 : i < k
        · have hki2 : (i : Int) < (k : Int) := by omega
          have hkz : i < zs.length := by omega
          have hkb : (i : Int) < (zs.length : Int) := by omega
          obtain ⟨bk1, off1, rfl, c1⟩ := ints_get (hv1.below hbw) (List.getElem?_eq_getElem hkz)
          obtain ⟨j, hj, hjb, hjw⟩ := HW i _ (List.getElem?_eq_getElem hkz)
          generalize zs[i] = z at *
          have hds := rulesTo_succ wl i
          by_cases hj2 : j < 2
          · rw [rulesAt_none wl (by omega), List.append_nil] at hds
            have hds' : Hid ((rulesTo wl i).length = (rulesTo wl (i + 1)).length) := by show _ = _; rw [hds]
            have hj2i : (j : Int) < 2 := by omega
            clear hds G hv1 hv11 HW hjw
            go_wp2
            exact ⟨⟨i + 1, by rw [show _ = _ from hds'], by go_num, by omega, hb⟩, by simp [intOf]; omega⟩
          · have hg2 : ¬ (wl[i]?).getD 0 < 2 := by omega
            have hj2i : ¬ (j : Int) < 2 := by omega
            obtain ⟨d, hd, hdn, hdv⟩ := rulesAt_one wl (i := i) (by omega) hg2
            rw [hd] at hds
            have hds' : Hid ((rulesTo wl (i + 1)).length = (rulesTo wl i).length + 1) := by show _ = _; rw [hds]; simp
            obtain ⟨r, hr⟩ := rulesTo_prefix wl (show i + 1 ≤ k by omega)
            have hat : (rulesTo wl k)[(rulesTo wl i).length]? = some d := by rw [hr, hds]; simp
            have hkl : (rulesTo wl i).length < (rulesTo wl k).length := (List.getElem?_eq_some_iff.1 hat).1
            have hkli : ((rulesTo wl i).length : Int) < ((rulesTo wl k).length : Int) := by omega
            obtain ⟨bk, off, q1, c1', q2, c2', rfl, a0, a1, t1, _⟩ := G _ d hat
            have hbk : bk < w5.heap.size := World.block_lt_of_cell? w5 ⟨bk, _, none⟩ a0
            replace a0 := (hb.cell (p := ⟨bk, _, none⟩) hbk).trans a0
            replace a1 := (hb.cell (p := ⟨bk, _, none⟩) hbk).trans a1
            replace t1 := t1.below hb
            obtain ⟨t, hvt, htn⟩ := texts_one hdn
            rw [hvt] at t1 a0
            rw [hdv] at a1
            have t2 := t1.get (k := 0) (t := t) rfl
            obtain ⟨bv, offv, rfl, hbv, _, _, _, xn, _⟩ := t2
            have hdq := digits_quiet i (by omega)
            have hgs := digs_size i
            obtain ⟨D, hD⟩ : ∃ D : ByteArray, (⟨(digs i).toArray⟩ : ByteArray) = D := ⟨_, rfl⟩
            have hnm := k_name hD.symm htn
            rw [hD] at hdq hgs
            rw [hnm] at xn
            simp only [Nat.zero_mul, Nat.add_zero, List.length_cons, List.length_nil, Nat.zero_add] at xn a0
            have hdl2 : (rulesTo wl i).length ≤ 30 := by omega
            clear hds hd hD G hv1 hv11 HW hr hat hdn hdv hvt htn t1 hnm hjw hg2
            generalize (rulesTo wl i).length = q at *
            go_upto_region 24 with fail
            go_quiet ((go_at_call 10; exact Calls.quiet_of (hdq _)))
            have bq : Below w5.heap.size w5 (wr.drewN nq) := ⟨hb.os, hb.tape, hb.output, hb.size, hb.block⟩
            clear hdq
            go_wp2
            exact ⟨⟨i + 1, by rw [show _ = _ from hds']; go_num, by go_num, by omega, bq⟩, by simp [intOf]; omega⟩
        · have hki2 : ¬ (i : Int) < (k : Int) := by omega
          clear G hv1 hv11 HW
          go_wp2
          go_ret
          exact ⟨rfl, hbw⟩


set_option maxRecDepth 100000 in
theorem rulesMany_lifted (os : Os) (started : os.Started) (H : Type) (enc : TypeId × Value → H) :
    ReturnsInHanded {} Try.checked os 4 .any (Rows.rulesManySpec.pre6 enc Try.prog Try.f4 Rows.rulesManyRow.domain false) (Rows.rulesManySpec.post enc Try.prog Try.f4 false true false false) := by
  refine returnsInHanded_of_change_sized (C := Try.checked) ownNone started (by kernel_rfl) Try.func4
    (ChangeSpec.witness6 (enc := enc) (C := Try.checked) false ⟨#[], #[.int .i64 0, .slice none 0 0], []⟩ 8 (by kernel_rfl) (by kernel_rfl) (by kernel_rfl) (by kernel_rfl)) ?_
  intro W base args ds gs before hval hW _ hsz0 _
  have hW' := hW
  obtain ⟨p, q, hA0, hV, rfl, hfz, hnd⟩ := hW
  have hA : DataW.TrodAll enc Try.prog W 0 (fun _ => true) true Try.f4.params.toList args.toList ds p := hA0
  rw [Try.params4] at hA hval hsz0
  obtain ⟨v0, vs0, d0, ds0, p0, q0, hargs, rfl, rfl, h0, r0⟩ := trodAll_cons hA
  obtain ⟨v1, vs1, d1, ds1, p1, q1, rfl, rfl, rfl, h1, r1⟩ := trodAll_cons r0
  obtain ⟨rfl, rfl, rfl⟩ := trodAll_nil r1
  obtain rfl : args = #[v0, v1] := by cases args; simp_all
  obtain ⟨rfl, rfl⟩ := trodVars_none hV
  obtain ⟨a0, rfl, rfl, rfl, w0⟩ := open_int Try.underlying3 (hval 0 3 v0 rfl rfl) h0
  obtain ⟨a1, len1, cap1, rfl⟩ := okWide_slice Try.underlying34 (hval 1 34 v1 rfl rfl)
  have k1 := h1
  have lt1 : ∀ x ∈ p1, x.block < W.heap.size := by obtain ⟨m, hm⟩ := k1; exact DataW.trod_lt m _ _ _ hm
  obtain ⟨z1, w1⟩ := intsAt_of_reads k1
  clear hA0
  refine (rulesMany_walk W a0 w0 _ z1 w1).mono fun e W' ⟨he, bel⟩ => ?_
  subst he
  exact ⟨_, rfl, _, _, _, [], _, [], hW', trodAll_mk1 (shut_bool Try.underlying4 _), (trodAll_cons_mk (shut_int Try.underlying3 w0) (trodAll_cons_mk (Below.trod laidOut (by kernel_rfl) (of_decide_eq_true (by kernel_rfl)) k1 bel lt1) trodAll_mk0)), rfl, bel.frame _, fun h => by cases h⟩

theorem rulesMany_said : Rows.RulesManySaid :=
  OpenClaim.holds_of_wide 4 Try.f4 rfl rfl rfl rfl rfl rfl rfl ⟨rfl, rfl, rfl, rfl, rfl⟩ rfl rfl rfl rfl rfl (by kernel_rfl) Try.func4 (by kernel_rfl)
    (of_decide_eq_true (by kernel_rfl)) (by unfold Func.isWrapper; first | (rw [if_pos (by decide +kernel)]; kernel_rfl) | (rw [if_neg (by decide +kernel)]; exact ⟨rfl, rfl⟩))
    (fun os started H enc _ => rulesMany_lifted os started H enc)
#print axioms rulesMany_said


end Go.Proofs.Ythljapneniikkaa
