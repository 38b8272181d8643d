/- For every bool, all integers and every string: the law tapestrierlaw3.NumParts returns true and leaves its arguments as they were; conditions: the library's tables hold what its text lays (the card ties them to the program's text), strings as long as the model allows. -/
import Derived.Test.YtbeokoajabhpoaaDoorNmAlive
import Derived.Test.YtbeokoajabhpoaaDoorNmRef
import Derived.Test.YtbeokoajabhpoaaDoorNmBack
import Derived.Test.YtbeokoajabhpoaaDoorNmLaid
namespace Go.Proofs.YtbeokoajabhpoaaDoor
open Go Go.ChangeShapes Go.WideShapes Go.ChangeAt Go.RowKit
open Go.ChangeMaps (open_string shut_string)

def whole3 (a b : Nat) (more : List UInt8) : List UInt8 := Lib.decDigits a ++ 46 :: ((Lib.decDigits (1000 + b)).drop 1 ++ more)
theorem num_parts {a b : Nat} {more l : List UInt8} (ha : a ≤ 2000000) (hb : b < 1000) (hm : allDig more = true) (hl : bare l = whole3 a b more) : numOk l = true ∧ numV l = (a * 1000 + b : Nat) := by
  unfold whole3 at hl
  obtain ⟨k1, k2⟩ := num_dot hl (dec_dig _) (by rw [allDig_append, drop_dig b hb, hm]; rfl) (by rw [three_dig b hb]; simp)
  refine ⟨k1, ?_⟩
  have e : thou ((Lib.decDigits (1000 + b)).drop 1 ++ more) = (Lib.decDigits (1000 + b)).drop 1 := by
    rw [three_dig b hb]
    unfold thou
    rw [List.length_append, Nat.min_eq_right (by simp)]
    simp
  rw [k2, e, dec_grown, grown_dec3 (by omega) b hb]
  omega
theorem num_parts_up {a b : Nat} {more : List UInt8} (ha : a ≤ 2000000) (hb : b < 1000) (hm : allDig more = true) : numOk (whole3 a b more) = true ∧ numN (whole3 a b more) = (a : Int) * 1000 + b := by
  have h : below (whole3 a b more) = false ∧ bare (whole3 a b more) = whole3 a b more := by
    obtain ⟨c, l, e, hc⟩ := dec_head a
    unfold whole3
    rw [e, List.cons_append]
    exact bare_dig _ hc
  obtain ⟨k1, k2⟩ := num_parts ha hb hm h.2
  exact ⟨k1, by rw [numN_up k1 h.1, k2]; omega⟩
theorem num_parts_down {a b : Nat} {more : List UInt8} (ha : a ≤ 2000000) (hb : b < 1000) (hm : allDig more = true) : numOk (45 :: whole3 a b more) = true ∧ numN (45 :: whole3 a b more) = -((a : Int) * 1000 + b) := by
  obtain ⟨k1, k2⟩ := num_parts (l := 45 :: whole3 a b more) ha hb hm rfl
  exact ⟨k1, by rw [numN_down k1 rfl, k2]; omega⟩
theorem whole3_data {a b : Nat} {q r s : ByteArray} (hb : b < 1000) (hr : r.data.toList = Lib.decDigits a) (hq : q.data.toList = Lib.decDigits (1000 + b)) : (r ++ ⟨#[46]⟩ ++ q.extract 1 4 ++ s).data.toList = whole3 a b s.data.toList := by
  rw [whole3, data_app, data_app, data_app, data_ext, hr, hq, dec4 b hb]
  simp
theorem four' {b : Nat} {q : ByteArray} (hb : b < 1000) (hq : q.data.toList = Lib.decDigits (1000 + b)) : q.size = 4 := by
  rw [← len_list, hq, dec4 _ hb]
  rfl

set_option maxRecDepth 100000 in
set_option maxHeartbeats 1000000 in
theorem numParts_walk (w : World) (hT : Tabs w.heap.size w) (bel : Bool) (n : Int) (_wa : (Lit.int .i64 n).wf = true) (d : Int) (_wd : (Lit.int .i64 d).wf = true) (s : ByteArray) (hs : s.size ≤ maxLen) :
    Calls Tryd.prog 6 #[.bool bel, .int .i64 n, .int .i64 d, .string s] w fun e w' => e = .returned (.bool true) ∧ Below w.heap.size w w' := by
  have h0 := alive_any w hT
  unfold maxLen at hs
  by_cases hin : 0 ≤ n ∧ n ≤ 2000000 ∧ 0 ≤ d ∧ d ≤ 999 ∧ (s.size : Int) ≤ 60
  · obtain ⟨i1, i2, i3, i4, i5⟩ := hin
    obtain ⟨a, rfl⟩ : ∃ m : Nat, n = m := ⟨n.toNat, by omega⟩
    obtain ⟨b, rfl⟩ : ∃ m : Nat, d = m := ⟨d.toNat, by omega⟩
    have h1 := digits_any (1000 + b) (by omega)
    have h2 := digits_any a (by omega)
    go_enter Tryd.func6, Tryd.ntmps6
    go_wp2_with fail
    refine h0.mono ?_
    rintro e w1 ⟨rfl, b1⟩
    clear h0
    go_wp2
    go_loopw [10] (fun i wr => ∃ k : Nat, i = .int .i64 k ∧ k ≤ s.size ∧ wr = w1 ∧ ∀ j, j < k → dig (s.get! j) = true) (fun i _ => s.size - (intOf i).toNat)
    case atStart => exact ⟨0, rfl, Nat.zero_le _, rfl, fun j hj => absurd hj (Nat.not_lt_zero j)⟩
    case round =>
      obtain ⟨k, rfl, hk, rfl, hall⟩ := hrel
      by_cases hlt : k < s.size
      · have hnext : dig (s.get! k) = true → ∀ j, j < k + 1 → dig (s.get! j) = true := fun hd j hj => by
          by_cases e : j = k
          · subst e; exact hd
          · exact hall j (by omega)
        have hget := get_at s k hlt
        generalize s.get! k = c at *
        go_wp2
        case roundEnd => exact ⟨⟨k + 1, by go_num, by omega, trivial, hnext (dig_iff.2 (by omega))⟩, by simp [intOf]; omega⟩
        all_goals (go_ret; exact ⟨rfl, b1⟩)
      · have hke : k = s.size := by omega
        subst hke
        have hm := allDig_of s hall
        clear hall
        obtain ⟨u1, u2⟩ := num_parts_up (a := a) (b := b) (by omega) (by omega) hm
        obtain ⟨v1, v2⟩ := num_parts_down (a := a) (b := b) (by omega) (by omega) hm
        obtain ⟨R, hR⟩ : ∃ R : ByteArray, R = ⟨(Lib.decDigits a).toArray⟩ := ⟨_, rfl⟩
        have h3 : ∀ w, Calls Tryd.prog 20 #[.int .i64 a] w fun e w' => e = .returned (.string R) ∧ w' = w := fun w => (h2 w).mono (by
          rintro e w' ⟨r, rfl, hr, rfl⟩
          rw [eq_list hr, ← hR]
          exact ⟨rfl, rfl⟩)
        have hRl : R.data.toList = Lib.decDigits a := by rw [hR]
        have hRs := dec_len (by omega) hRl
        clear hR h2
        go_wp2_with fail
        refine (h1 _).mono ?_
        rintro e w' ⟨q, rfl, hq, rfl⟩
        have hq4 := four' (by omega) hq
        have hdat := whole3_data (s := s) (by omega : b < 1000) hRl hq
        clear h1 hq hRl
        go_wp2_with fail
        go_quiet ((go_at_call 20; exact Calls.quiet_of_same (h3 _)))
        have bq := b1.trans ((below_drewN w' nq).mono b1.size)
        generalize w'.drewN nq = w2 at *
        have hsz : (R ++ ⟨#[46]⟩ ++ q.extract 1 4 ++ s).size ≤ 100 := by rw [ByteArray.size_append, ByteArray.size_append, ByteArray.size_append, ByteArray.size_extract]; rw [show (⟨#[46]⟩ : ByteArray).size = 1 from rfl]; omega
        generalize R ++ ⟨#[46]⟩ ++ q.extract 1 4 ++ s = t at *
        cases bel with
        | false =>
          have h5 := of_any t w2 (by omega) ((hT.below bq).mono bq.size)
          rw [hdat, u1, u2] at h5
          go_wp2_with fail
          refine h5.mono ?_
          rintro e w3 ⟨rfl, b3⟩
          go_wp2
          go_ret
          exact ⟨rfl, bq.trans (b3.mono bq.size)⟩
        | true =>
          obtain ⟨t', ht⟩ : ∃ t' : ByteArray, (⟨#[45]⟩ : ByteArray) ++ t = t' := ⟨_, rfl⟩
          have htl : t'.data.toList = 45 :: whole3 a b s.data.toList := by rw [← ht, data_app, hdat]; rfl
          have htz : t'.size ≤ 101 := by rw [← ht, ByteArray.size_append, show (⟨#[45]⟩ : ByteArray).size = 1 from rfl]; omega
          have h5 := of_any t' w2 (by omega) ((hT.below bq).mono bq.size)
          rw [htl, v1, v2] at h5
          go_wp2_with fail
          refine h5.mono ?_
          rintro e w3 ⟨rfl, b3⟩
          go_wp2
          go_ret
          exact ⟨rfl, bq.trans (b3.mono bq.size)⟩
  · have out : ∀ (K : Prop), (n < 0 → K) → (¬ n < 0 → 2000000 < n → K) → (¬ n < 0 → ¬ 2000000 < n → d < 0 → K) → (¬ n < 0 → ¬ 2000000 < n → ¬ d < 0 → 999 < d → K) → (¬ n < 0 → ¬ 2000000 < n → ¬ d < 0 → ¬ 999 < d → 60 < (s.size : Int) → K) → K := fun K k1 k2 k3 k4 k5 => by
      by_cases e1 : n < 0
      · exact k1 e1
      · by_cases e2 : 2000000 < n
        · exact k2 e1 e2
        · by_cases e3 : d < 0
          · exact k3 e1 e2 e3
          · by_cases e4 : 999 < d
            · exact k4 e1 e2 e3 e4
            · exact k5 e1 e2 e3 e4 (by omega)
    clear hin
    refine out _ ?_ ?_ ?_ ?_ ?_ <;> clear out <;> intros
    all_goals
      go_enter Tryd.func6, Tryd.ntmps6
      go_wp2_with fail
      refine h0.mono ?_
      rintro e w1 ⟨rfl, b1⟩
      clear h0
      go_wp2
      go_ret
      exact ⟨rfl, b1⟩

theorem numParts_met (os : Os) : laidMet Tryd.prog Rows.numPartsRow.laid ((laidIn (World.holding Tryd.prog os ⟨#[], #[], []⟩)).forCall (fun _ _ => 0) ⟨#[], #[.bool false, .int .i64 0, .int .i64 0, .string ⟨#[]⟩], []⟩).memory :=
  laidMet_of_run' 8 (by kernel_rfl) (by kernel_rfl)
theorem numParts_reads (os : Os) {H : Type} (enc : TypeId × Value → H) : ∃ places, DataW.whole enc Tryd.prog ((laidIn (World.holding Tryd.prog os ⟨#[], #[], []⟩)).forCall (fun _ _ => 0) ⟨#[], #[.bool false, .int .i64 0, .int .i64 0, .string ⟨#[]⟩], []⟩).memory Tryd.f6.params.toList Rows.numPartsSpec.vars false (#[.bool false, .int .i64 0, .int .i64 0, .string ⟨#[]⟩] : Array Value).toList 8 = some ([.lit (.bool false), .lit (.int .i64 0), .lit (.int .i64 0), .lit (.string [])], [], places) :=
  ⟨[], by kernel_rfl⟩

set_option maxRecDepth 100000 in
theorem numParts_lifted (os : Os) (started : os.Started) (H : Type) (enc : TypeId × Value → H) (F : Stop.Interp) :
    ReturnsInHanded {} Tryd.checked os 6 .any ((OpenSpec.ofChange Rows.numPartsSpec).preRow enc Tryd.prog Tryd.f6 Rows.numPartsRow.domain false Rows.numPartsRow.laid) (((OpenSpec.ofChange Rows.numPartsSpec).at F).post enc Tryd.prog Tryd.f6 false true false false) := by
  obtain ⟨places, hx⟩ := numParts_reads os enc
  refine returnsInHanded_of_row (C := Tryd.checked) (s := OpenSpec.ofChange Rows.numPartsSpec) ownNone started (by kernel_rfl) Tryd.func6
    (witness_row_at (enc := enc) (C := Tryd.checked) false (laidIn (World.holding Tryd.prog os ⟨#[], #[], []⟩)) #[.bool false, .int .i64 0, .int .i64 0, .string ⟨#[]⟩] rfl (by kernel_rfl) (by kernel_rfl) (by kernel_rfl)
      (OpenSpec.preRow_of_cond 8 hx (by kernel_rfl) (fun k hk => by cases hk) (by kernel_rfl) (numParts_met os))) ?_
  intro W base args ds gs before hval hW _ _ _ hL hS _
  have hW' := hW
  obtain ⟨p, q, hA0, hV, rfl, hfz, hnd⟩ := hW
  have hA : DataW.TrodAll enc Tryd.prog W 0 (fun _ => true) true Tryd.f6.params.toList args.toList ds p := hA0
  rw [Tryd.params6] at hA hval
  obtain ⟨v0, vs0, d0, ds0, p0, q0, hargs, rfl, rfl, h0, r0⟩ := trodAll_cons hA
  obtain ⟨v1, vs1, d1, ds1, p1, q1, rfl, rfl, rfl, h1, r1⟩ := trodAll_cons r0
  obtain ⟨v2, vs2, d2, ds2, p2, q2, rfl, rfl, rfl, h2, r2⟩ := trodAll_cons r1
  obtain ⟨v3, vs3, d3, ds3, p3, q3, rfl, rfl, rfl, h3, r3⟩ := trodAll_cons r2
  obtain ⟨rfl, rfl, rfl⟩ := trodAll_nil r3
  obtain rfl : args = #[v0, v1, v2, v3] := by cases args; simp_all
  obtain ⟨rfl, rfl⟩ := trodVars_none hV
  obtain ⟨a0, rfl, rfl, rfl⟩ := open_bool Tryd.underlying4 (hval 0 4 v0 rfl rfl) h0
  obtain ⟨a1, rfl, rfl, rfl, w1⟩ := open_int Tryd.underlying3 (hval 1 3 v1 rfl rfl) h1
  obtain ⟨a2, rfl, rfl, rfl, w2⟩ := open_int Tryd.underlying3 (hval 2 3 v2 rfl rfl) h2
  obtain ⟨s3, rfl, rfl, rfl, w3⟩ := open_string Tryd.underlying9 (hval 3 9 v3 rfl rfl) h3
  clear hA0
  refine (numParts_walk W (tabs_of_laid hL hS) a0 a1 w1 a2 w2 s3 w3).mono fun e W' ⟨he, bel⟩ => ?_
  subst he
  exact ⟨_, rfl, _, _, _, [], _, [], hW', trodAll_mk1 (shut_bool Tryd.underlying4 _), (trodAll_cons_mk (shut_bool Tryd.underlying4 _) (trodAll_cons_mk (shut_int Tryd.underlying3 w1) (trodAll_cons_mk (shut_int Tryd.underlying3 w2) (trodAll_cons_mk (shut_string Tryd.underlying9 w3) trodAll_mk0)))), rfl, bel.frame _, fun h => by cases h⟩

theorem numParts_said : Rows.NumPartsSaid :=
  OpenClaim.holds_of_cond 6 Tryd.f6 rfl rfl rfl rfl rfl rfl rfl ⟨rfl, rfl, rfl, rfl, rfl⟩ rfl rfl rfl rfl rfl (by kernel_rfl) Tryd.func6 (by kernel_rfl)
    (of_decide_eq_true (by kernel_rfl)) (by unfold Func.isWrapper; first | (rw [if_pos (by decide +kernel)]; kernel_rfl) | (rw [if_neg (by decide +kernel)]; exact ⟨rfl, rfl⟩))
    (fun os started H enc _ F => by rw [OpenClaim.pre_eq_preRow]; exact numParts_lifted os started H enc F)

theorem numParts_plain (f : FuncId) (fn : Func) (hf : Tryd.pinned.checked.prog.funcNamed "tapestrier/tapestrierlaw3.NumParts" = some f) (hfn : Tryd.pinned.checked.prog.funcs[f]? = some fn) :
    false = Tryd.pinned.checked.prog.looks [] ∧ ∀ (j : Nat) t, fn.params[j]? = some t → Tryd.pinned.checked.prog.wantsStandIn t = false := by
  obtain rfl : f = 6 := Option.some.inj ((show Tryd.prog.funcNamed "tapestrier/tapestrierlaw3.NumParts" = some 6 by kernel_rfl).symm.trans hf) |>.symm
  obtain rfl : fn = Tryd.f6 := (Option.some.inj (Tryd.func6.symm.trans hfn)).symm
  refine ⟨by kernel_rfl, fun j t ht => ?_⟩
  rw [Tryd.params6] at ht
  have hm : t ∈ [4, 3, 9] := by simpa using Array.mem_of_getElem? ht
  have hall : ([4, 3, 9].all fun u => !Tryd.prog.wantsStandIn u) = true := by kernel_rfl
  exact (show Tryd.prog.wantsStandIn t = false by simpa using List.all_eq_true.1 hall t hm)

theorem numParts_card : Rows.NumPartsCardSaid :=
  Claim7.holds_tied_plain_at .later [] _ _ _ _ numParts_said (fun _ h => by cases h) (by kernel_rfl) (fun _ h => by cases h) numParts_row_tie rfl ⟨rfl, rfl⟩ (by kernel_rfl) rfl numParts_plain (by kernel_rfl)
#print axioms numParts_card

end Go.Proofs.YtbeokoajabhpoaaDoor
