/- For all strings and all Booleans: the law tapestrierlaw4.TokStrings returns true and leaves its arguments as they were; conditions: the tables hold what their texts lay (the card ties them to the program's text). -/
import Derived.Test.YtaecamnlimlpkaaDoorTkStrA
namespace Go.Proofs.YtaecamnlimlpkaaDoor
open Go Go.ChangeShapes Go.WideShapes Go.ChangeAt Go.ChangeMaps Go.RowKit

set_option maxRecDepth 100000 in
set_option maxHeartbeats 4000000 in
theorem tokStrings_open (w : World) (hT : LTabs w.heap.size w) (s : ByteArray) (_hs : s.size ≤ maxLen) (one : Bool) :
    Calls Tryd.prog 4 #[.string s, .bool one, .bool false] w fun e w' => e = .returned (.bool true) ∧ Below w.heap.size w w' := by
  have h0 := alive_any w hT
  by_cases hlen : s.size ≤ 300
  · go_enter Tryd.func4, Tryd.ntmps4
    go_wp2_with fail
    refine h0.mono ?_
    clear h0
    rintro e w1 ⟨rfl, b1⟩
    have T1 := hT.next b1
    go_wp2
    go_loopw [8] (fun i wr => ∃ k : Nat, i = .int .i64 k ∧ k ≤ s.size ∧ wr = w1 ∧ ∀ j, j < k → okStr (s.get! j)) (fun i _ => s.size - (intOf i).toNat)
    case atStart => exact ⟨0, rfl, Nat.zero_le _, rfl, fun j hj => absurd hj (Nat.not_lt_zero j)⟩
    case round =>
      obtain ⟨k, rfl, hk, rfl, hall⟩ := hrel
      by_cases hlt : k < s.size
      · have hnext : okStr (s.get! k) → ∀ j, j < k + 1 → okStr (s.get! j) := fun hd j hj => by
          by_cases e : j = k
          · subst e; exact hd
          · exact hall j (by omega)
        have hget := Nm.get_at s k hlt
        clear hall
        generalize s.get! k = c at *
        go_wp2
        case roundEnd =>
          have hh := ‹(((32 ≤ (c.toNat : Int) ∧ (c.toNat : Int) ≤ 126) ∧ ((c.toNat : Int) == 34) = false) ∧ ((c.toNat : Int) == 39) = false) ∧ ((c.toNat : Int) == 92) = false›
          have h92 : c.toNat ≠ 92 := fun e => by rw [e] at hh; exact absurd hh.2 (by decide)
          exact ⟨⟨k + 1, by go_num, by omega, trivial, hnext (by unfold okStr; omega)⟩, by simp [intOf]; omega⟩
        all_goals (go_ret; exact ⟨rfl, b1⟩)
      · have hke : k = s.size := by omega
        subst hke
        have hok := okStr_all hall
        clear hall
        go_upto_if 55 with fail
        go_cut [9] (fun s9 wx => ∃ q : UInt8, s9 = .string ⟨#[q]⟩ ∧ (q.toNat = 34 ∨ q.toNat = 39) ∧ wx = wr)
        case first =>
          cases one with
          | true =>
            go_wp2
            go_meet
            exact ⟨39, rfl, by decide, rfl⟩
          | false =>
            go_wp2
            go_meet
            exact ⟨34, rfl, by decide, rfl⟩
        case rest =>
          obtain ⟨q, rfl, hq, rfl⟩ := hcut
          have hpl : ∀ u ∈ s.data.toList, u.toNat < 128 := fun u hu => by have := hok u hu; unfold okStr at this; omega
          have htx := txt_plain (s := s) rfl hpl
          have tw := tks_new wc [⟨4, ints s.data.toList, 0, false, 0⟩] (by simp)
          have ow := owns_new wc [⟨4, ints s.data.toList, 0, false, 0⟩] (by simp)
          have ec : (tksCells [⟨4, ints s.data.toList, 0, false, 0⟩]).toArray = #[.int .i64 4, .string s, .int .i64 0, .bool false, .int .i64 0] := by simp [tksCells, tkCells, htx]
          rw [ec] at tw ow
          have b2 : Below wc.heap.size wc (wc.alloc (.cells #[.int .i64 4, .string s, .int .i64 0, .bool false, .int .i64 0] 26)) := (Below.refl _ wc).alloc (Nat.le_refl _) _
          have s2 : (wc.alloc (.cells #[.int .i64 4, .string s, .int .i64 0, .bool false, .int .i64 0] 26)).heap.size = wc.heap.size + 1 := World.size_alloc _ _
          have T2 := T1.next b2
          have S2 : Hid (_ = _) := s2
          clear s2
          go_upto_region 13 with fail
          generalize wc.alloc (.cells #[.int .i64 4, .string s, .int .i64 0, .bool false, .int .i64 0] 26) = w2 at *
          have hqs : (⟨#[q]⟩ : ByteArray).size = 1 := rfl
          have ha1 : (⟨#[97]⟩ : ByteArray).size = 1 := rfl
          have tb := fun W : World => tks_new W [⟨5, [], 0, false, 0⟩, ⟨9, [], 0, false, 0⟩, ⟨1, [97], 0, false, 0⟩] (by simp)
          have eb : (tksCells [⟨5, [], 0, false, 0⟩, ⟨9, [], 0, false, 0⟩, ⟨1, [97], 0, false, 0⟩]).toArray = #[.int .i64 5, .string ⟨#[]⟩, .int .i64 0, .bool false, .int .i64 0, .int .i64 9, .string ⟨#[]⟩, .int .i64 0, .bool false, .int .i64 0, .int .i64 1, .string ⟨#[97]⟩, .int .i64 0, .bool false, .int .i64 0] := by
            simp [tksCells, tkCells, alive_txt1, txtOf_nil]
          rw [eb] at tb
          have b3 : Below w2.heap.size w2 (w2.alloc (.cells #[.int .i64 5, .string ⟨#[]⟩, .int .i64 0, .bool false, .int .i64 0, .int .i64 9, .string ⟨#[]⟩, .int .i64 0, .bool false, .int .i64 0, .int .i64 1, .string ⟨#[97]⟩, .int .i64 0, .bool false, .int .i64 0] 26)) := (Below.refl _ w2).alloc (Nat.le_refl _) _
          have s3 : (w2.alloc (.cells #[.int .i64 5, .string ⟨#[]⟩, .int .i64 0, .bool false, .int .i64 0, .int .i64 9, .string ⟨#[]⟩, .int .i64 0, .bool false, .int .i64 0, .int .i64 1, .string ⟨#[97]⟩, .int .i64 0, .bool false, .int .i64 0] 26)).heap.size = w2.heap.size + 1 := World.size_alloc _ _
          have tb2 := tb w2
          rw [← s3] at tb2
          clear s3
          have tw2 : TksAt w2.heap.size w2 (.slice (some ⟨wc.heap.size, 0, none⟩) 1 1) [⟨4, ints s.data.toList, 0, false, 0⟩] := by rw [show w2.heap.size = wc.heap.size + 1 from S2]; exact tw
          clear tb eb tw ow
          go_upto_region 16 with fail
          have tw3 := tw2.next b3
          have T3 := T2.next b3
          have bb3 := (b1.trans (b2.mono b1.size)).trans (b3.mono (Nat.le_trans b1.size b2.size))
          generalize w2.alloc (.cells #[.int .i64 5, .string ⟨#[]⟩, .int .i64 0, .bool false, .int .i64 0, .int .i64 9, .string ⟨#[]⟩, .int .i64 0, .bool false, .int .i64 0, .int .i64 1, .string ⟨#[97]⟩, .int .i64 0, .bool false, .int .i64 0] 26) = w3 at *
          obtain ⟨p4, m4, c4, w4, hrun, hB, b4, _⟩ := conv_str (⟨#[q]⟩ ++ s) w3 (by simp only [ByteArray.size_append, hqs]; omega)
          rw [show (⟨#[q]⟩ ++ s : ByteArray).data.toList = q :: s.data.toList ++ [] by simp [ByteArray.data_append]] at hB
          have h5 := ofB_any _ _ w4 hB (T3.next b4) (by simp; omega)
          have e5 : tksOf (q :: s.data.toList ++ []) = [⟨4, ints s.data.toList, 0, false, 0⟩] := by
            unfold tksOf
            rw [prep_okStr hq hok (by simp), show ints [] = [] from rfl, List.append_nil]
            exact (toks_strings nvOf (q := (q.toNat : Int)) (by omega) (okStr_in hok)).2.1
          rw [e5] at h5
          clear e5
          go_wp2_with fail
          refine h5.mono ?_
          clear h5 hrun hB
          rintro e w5 ⟨v5, rfl, r5, b5⟩
          have b45 := b4.trans (b5.mono b4.size)
          have h6 := sameToks_yes v5 _ [⟨4, ints s.data.toList, 0, false, 0⟩] w5 (TksAt.of_owns r5) (tw3.next b45) (by simp)
          go_wp2_with fail
          refine h6.mono ?_
          clear h6 r5
          rintro e w6 ⟨rfl, b6⟩
          have b46 := b45.trans (b6.mono b45.size)
          obtain ⟨p7, m7, c7, w7, hrun7, hB7, b7, _⟩ := conv_str (⟨#[q]⟩ ++ s ++ ⟨#[10, 97]⟩) w6 (by simp only [ByteArray.size_append, hqs, show (⟨#[10, 97]⟩ : ByteArray).size = 2 from rfl]; omega)
          rw [show (⟨#[q]⟩ ++ s ++ ⟨#[10, 97]⟩ : ByteArray).data.toList = q :: s.data.toList ++ [10, 97] by simp [ByteArray.data_append]] at hB7
          have b47 := b46.trans (b7.mono b46.size)
          have h8 := ofB_any _ _ w7 hB7 (T3.next b47) (by simp; omega)
          have e8 : tksOf (q :: s.data.toList ++ [10, 97]) = [⟨5, [], 0, false, 0⟩, ⟨9, [], 0, false, 0⟩, ⟨1, [97], 0, false, 0⟩] := by
            unfold tksOf
            rw [prep_okStr hq hok (by simp)]
            exact (toks_strings nvOf (q := (q.toNat : Int)) (by omega) (okStr_in hok)).2.2
          rw [e8] at h8
          clear e8
          go_wp2_with fail
          refine h8.mono ?_
          clear h8 hrun7 hB7
          rintro e w8 ⟨v8, rfl, r8, b8⟩
          have b48 := b47.trans (b8.mono b47.size)
          have h9 := sameToks_yes v8 _ [⟨5, [], 0, false, 0⟩, ⟨9, [], 0, false, 0⟩, ⟨1, [97], 0, false, 0⟩] w8 (TksAt.of_owns r8) (tb2.next b48) (by simp)
          go_wp2_with fail
          refine h9.mono ?_
          clear h9
          rintro e w9 ⟨rfl, b9⟩
          have b49 := b48.trans (b9.mono b48.size)
          go_wp2
          go_ret
          exact ⟨rfl, bb3.trans (b49.mono bb3.size)⟩
  · go_enter Tryd.func4, Tryd.ntmps4
    go_wp2_with fail
    refine h0.mono ?_
    clear h0
    rintro e w1 ⟨rfl, b1⟩
    go_wp2
    go_ret
    exact ⟨rfl, b1⟩


theorem tokStrings_walk (w : World) (hT : LTabs w.heap.size w) (s : ByteArray) (hs : s.size ≤ maxLen) (one closed : Bool) :
    Calls Tryd.prog 4 #[.string s, .bool one, .bool closed] w fun e w' => e = .returned (.bool true) ∧ Below w.heap.size w w' := by
  cases closed with
  | true => exact tokStrings_shut w hT s hs one
  | false => exact tokStrings_open w hT s hs one

theorem tokStrings_met (os : Os) : laidMet Tryd.prog Rows.tokStringsRow.laid ((laidIn (World.holding Tryd.prog os ⟨#[], #[], []⟩)).forCall (fun _ _ => 0) ⟨#[], #[.string ⟨#[]⟩, .bool false, .bool false], []⟩).memory :=
  laidMet_of_run' 8 (by kernel_rfl) (by kernel_rfl)
theorem tokStrings_reads (os : Os) {H : Type} (enc : TypeId × Value → H) : ∃ places, DataW.whole enc Tryd.prog ((laidIn (World.holding Tryd.prog os ⟨#[], #[], []⟩)).forCall (fun _ _ => 0) ⟨#[], #[.string ⟨#[]⟩, .bool false, .bool false], []⟩).memory Tryd.f4.params.toList Rows.tokStringsSpec.vars false (#[.string ⟨#[]⟩, .bool false, .bool false] : Array Value).toList 8 = some ([.lit (.string []), .lit (.bool false), .lit (.bool false)], [], places) :=
  ⟨[], by kernel_rfl⟩

set_option maxRecDepth 100000 in
theorem tokStrings_lifted (os : Os) (started : os.Started) (H : Type) (enc : TypeId × Value → H) (F : Stop.Interp) :
    ReturnsInHanded {} Tryd.checked os 4 .any ((OpenSpec.ofChange Rows.tokStringsSpec).preRow enc Tryd.prog Tryd.f4 Rows.tokStringsRow.domain false Rows.tokStringsRow.laid) (((OpenSpec.ofChange Rows.tokStringsSpec).at F).post enc Tryd.prog Tryd.f4 false true false false) := by
  obtain ⟨places, hx⟩ := tokStrings_reads os enc
  refine returnsInHanded_of_row (C := Tryd.checked) (s := OpenSpec.ofChange Rows.tokStringsSpec) ownNone started (by kernel_rfl) Tryd.func4
    (witness_row_at (enc := enc) (C := Tryd.checked) false (laidIn (World.holding Tryd.prog os ⟨#[], #[], []⟩)) #[.string ⟨#[]⟩, .bool false, .bool false] rfl (by kernel_rfl) (by kernel_rfl) (by kernel_rfl)
      (OpenSpec.preRow_of_cond 8 hx (by kernel_rfl) (fun k hk => by cases hk) (by kernel_rfl) (tokStrings_met os))) ?_
  intro W base args ds gs before hval hW _ _ _ hL hS _
  have hW' := hW
  obtain ⟨p, q, hA0, hV, rfl, hfz, hnd⟩ := hW
  have hA : DataW.TrodAll enc Tryd.prog W 0 (fun _ => true) true Tryd.f4.params.toList args.toList ds p := hA0
  rw [Tryd.params4] at hA hval
  obtain ⟨v0, vs0, d0, ds0, p0, q0, hargs, rfl, rfl, h0, r0⟩ := trodAll_cons hA
  obtain ⟨v1, vs1, d1, ds1, p1, q1, rfl, rfl, rfl, h1, r1⟩ := trodAll_cons r0
  obtain ⟨v2, vs2, d2, ds2, p2, q2, rfl, rfl, rfl, h2, r2⟩ := trodAll_cons r1
  obtain ⟨rfl, rfl, rfl⟩ := trodAll_nil r2
  obtain rfl : args = #[v0, v1, v2] := by cases args; simp_all
  obtain ⟨rfl, rfl⟩ := trodVars_none hV
  obtain ⟨s0, rfl, rfl, rfl, w0⟩ := open_string Tryd.underlying9 (hval 0 9 v0 rfl rfl) h0
  obtain ⟨a1, rfl, rfl, rfl⟩ := open_bool Tryd.underlying4 (hval 1 4 v1 rfl rfl) h1
  obtain ⟨a2, rfl, rfl, rfl⟩ := open_bool Tryd.underlying4 (hval 2 4 v2 rfl rfl) h2
  clear hA0
  refine (tokStrings_walk W (tabs_of_laid hL hS) s0 w0 a1 a2).mono fun e W' ⟨he, bel⟩ => ?_
  subst he
  exact ⟨_, rfl, _, _, _, [], _, [], hW', trodAll_mk1 (shut_bool Tryd.underlying4 _), (trodAll_cons_mk (shut_string Tryd.underlying9 w0) (trodAll_cons_mk (shut_bool Tryd.underlying4 _) (trodAll_cons_mk (shut_bool Tryd.underlying4 _) trodAll_mk0))), rfl, bel.frame _, fun h => by cases h⟩

theorem tokStrings_said : Rows.TokStringsSaid :=
  OpenClaim.holds_of_cond 4 Tryd.f4 rfl rfl rfl rfl rfl rfl rfl ⟨rfl, rfl, rfl, rfl, rfl⟩ rfl rfl rfl rfl rfl (by kernel_rfl) Tryd.func4 (by kernel_rfl)
    (of_decide_eq_true (by kernel_rfl)) (by unfold Func.isWrapper; first | (rw [if_pos (by decide +kernel)]; kernel_rfl) | (rw [if_neg (by decide +kernel)]; exact ⟨rfl, rfl⟩))
    (fun os started H enc _ F => by rw [OpenClaim.pre_eq_preRow]; exact tokStrings_lifted os started H enc F)

theorem tokStrings_plain (f : FuncId) (fn : Func) (hf : Tryd.pinned.checked.prog.funcNamed "tapestrier/tapestrierlaw4.TokStrings" = some f) (hfn : Tryd.pinned.checked.prog.funcs[f]? = some fn) :
    false = Tryd.pinned.checked.prog.looks [] ∧ ∀ (j : Nat) t, fn.params[j]? = some t → Tryd.pinned.checked.prog.wantsStandIn t = false := by
  obtain rfl : f = 4 := Option.some.inj ((show Tryd.prog.funcNamed "tapestrier/tapestrierlaw4.TokStrings" = some 4 by kernel_rfl).symm.trans hf) |>.symm
  obtain rfl : fn = Tryd.f4 := (Option.some.inj (Tryd.func4.symm.trans hfn)).symm
  refine ⟨by kernel_rfl, fun j t ht => ?_⟩
  rw [Tryd.params4] at ht
  have hm : t ∈ [9, 4] := by simpa using Array.mem_of_getElem? ht
  have hall : ([9, 4].all fun u => !Tryd.prog.wantsStandIn u) = true := by kernel_rfl
  exact (show Tryd.prog.wantsStandIn t = false by simpa using List.all_eq_true.1 hall t hm)

theorem tokStrings_card : Rows.TokStringsCardSaid :=
  Claim7.holds_tied_plain_at .later [] _ _ _ _ tokStrings_said (fun _ h => by cases h) (by kernel_rfl) (fun _ h => by cases h) tokStrings_row_tie rfl ⟨rfl, rfl⟩ (by kernel_rfl) rfl tokStrings_plain (by kernel_rfl)
#print axioms tokStrings_card

end Go.Proofs.YtaecamnlimlpkaaDoor
