/- For every number of structs and every number asked for: the law tapestrierlaw19.StoreNone returns true and leaves its arguments as they were; no condition. -/
import Derived.Test.YtiaomdlfccpcmaaStUse
import Derived.Test.YtiaomdlfccpcmaaWgArgs
namespace Go.Proofs.Ytiaomdlfccpcmaa
open Go Go.ChangeShapes Go.WideShapes Go.ChangeAt Go.RowKit Sto

/-- The law's struct k. -/
def mk (k : Nat) : He := (fun p => if p = 0 then (k : Int) else 0, 1)
def rows (n : Nat) : List He := (List.range n).map mk
theorem rows_succ (n : Nat) : rows (n + 1) = newL (rows n) (mk n).1 := by
  unfold rows newL
  rw [List.range_succ, List.map_append]
  rfl
theorem rows_len (n : Nat) : (rows n).length = n := by simp [rows]
theorem rows_live : ∀ n, liveN (rows n) = n
  | 0 => rfl
  | n + 1 => by rw [rows_succ, live_new, rows_live n]
theorem rows_at {n k : Nat} (h : k < n) : atV (rows n) k = some (mk k) := atV_of (by simp [rows, h]) (by show (0 : Int) < 1; decide)
/-- What is told of a struct that there is: its style, that it is held once more and once less, and that all are there. -/
theorem rows_in {n k : Nat} (h : k < n) : getV (rows n) k = ((mk k).1, 0) ∧ addR (rows n) k = 0 ∧ addR (addL (rows n) k 1) k = 0 ∧ liveN (addL (addL (rows n) k 1) k (-1)) = n := by
  have h1 := rows_at h
  have h2 : atV (addL (rows n) k 1) k = some ((mk k).1, 1 + 1) := by
    rw [at_add h1 1]
    unfold updV
    rw [if_pos rfl, if_pos (by show (0 : Int) < 1 + 1; decide)]
    rfl
  refine ⟨by unfold getV; rw [lookV_cast, h1], by unfold addR; rw [lookV_cast, h1], by unfold addR; rw [lookV_cast, h2], ?_⟩
  have h3 := live_add h1 (d := 1)
  have h4 := live_add h2 (d := -1)
  rw [if_pos (by show (0 : Int) < 1 + 1; decide)] at h3
  rw [if_pos (by show (0 : Int) < 1 + 1 + -1; decide)] at h4
  have h5 := rows_live n
  omega
theorem rows_out {n : Nat} {i : Int} (h : ¬ (0 ≤ i ∧ i < n)) : getV (rows n) i = (fun _ => 0, 6) ∧ addR (rows n) i = 6 ∧ addL (rows n) i 1 = rows n ∧ addL (rows n) i (-1) = rows n := by
  have h1 : lookV (atV (rows n)) i = none := by
    by_cases h0 : i < 0
    · exact lookV_neg h0
    · rw [lookV_nat (by omega)]; exact atV_out (by rw [rows_len]; omega)
  exact ⟨by unfold getV; rw [h1], by unfold addR; rw [h1], addL_off h1, addL_off h1⟩

set_option maxRecDepth 100000 in
set_option maxHeartbeats 2000000 in
theorem storeNone_walk (w : World) (n : Int) (_h0 : (Lit.int .i64 n).wf = true) (i : Int) (h1 : (Lit.int .i64 i).wf = true) :
    Calls Try.prog 5 #[.int .i64 n, .int .i64 i] w fun e w' => e = .returned (.bool true) ∧ Below w.heap.size w w' := by
  have hal := Sto.alive_any w
  have hi : i ≤ 9223372036854775807 := by simp [Lit.wf] at h1; exact h1.2
  have HNUM : Hid (∀ n w, Calls Try.prog 9 #[.int .i64 n] w fun e w' => e = .returned (.int .i64 n) ∧ w' = w) := num_any
  clear h1 _h0
  go_enter Try.func5, Try.ntmps5
  go_wp2_with fail
  go_at_call 6
  refine Calls.mono hal ?_
  clear hal
  rintro e w1 ⟨rfl, b1⟩
  by_cases g1 : n < 0
  · have d1 : decide (n < 0) = true := by simpa using g1
    go_wp2
    go_ret
    exact ⟨rfl, b1⟩
  by_cases g2 : 50 < n
  · have d1 : decide (n < 0) = false := by simpa using g1
    have d2 : decide (50 < n) = true := by simpa using g2
    go_wp2
    go_ret
    exact ⟨rfl, b1⟩
  have d1 : decide (n < 0) = false := by simpa using g1
  have d2 : decide (50 < n) = false := by simpa using g2
  obtain ⟨N, rfl⟩ : ∃ N : Nat, n = N := ⟨n.toNat, by omega⟩
  have hN : N ≤ 50 := by omega
  have S0 := Own.start w w1 b1
  clear g1 g2 b1
  go_wp2_with fail
  generalize w1.heap.size = c at *
  generalize w1.alloc _ = w2 at *
  clear d1 d2
  go_loopw [7] (fun x wr => ∃ k : Nat, x = .int .i64 k ∧ k ≤ N ∧ Own w c k (rows k) wr) (fun x _ => N - (intOf x).toNat)
  case atStart => exact ⟨0, rfl, Nat.zero_le _, S0⟩
  case round =>
    clear S0
    obtain ⟨k, rfl, hk, S⟩ := hrel
    by_cases hkn : k < N
    · have hlt : decide (k < N) = true := by simpa using hkn
      have hn := S.new (by omega) (mk k).1
      rw [rows_len, show sty (mk k).1 = .agg #[.int .i64 k, .int .i64 0, .int .i64 0, .int .i64 0, .int .i64 0, .int .i64 0, .int .i64 0, .int .i64 0] from rfl, ← rows_succ] at hn
      have hkI : (k : Int) < (N : Int) := by omega
      have dk : ((k : Int) != (k : Int)) = false := by simp
      have HK : Hid (k < N) := hkn
      clear S hkn hk
      go_wp2_with fail
      go_at_call 7
      refine Calls.mono hn ?_
      clear hn
      rintro e w3 ⟨rfl, S3, _⟩
      have HS : Hid (Own w c (k + 1) (rows (k + 1)) w3) := S3
      clear S3
      go_wp2_with fail
      go_roundw
      case rel => exact ⟨k + 1, by go_num, HK.out, HS.out⟩
      case measure => have := HK.out; simp [intOf] <;> omega
    · have hlt : decide (k < N) = false := by simpa using hkn
      obtain rfl : k = N := by omega
      clear hk hkn
      by_cases hin : 0 ≤ i ∧ i < k
      · obtain ⟨j, rfl⟩ : ∃ j : Nat, i = j := ⟨i.toNat, by omega⟩
        have hjk : j < k := by omega
        obtain ⟨r1, r2, r3, r4⟩ := rows_in hjk
        have q1 : decide ((0 : Int) ≤ (j : Int)) = true := decide_eq_true (by omega)
        have q2 : decide ((j : Int) < (k : Int)) = true := decide_eq_true (by omega)
        have q3 : decide (j < k) = true := decide_eq_true hjk
        have q4 : ((j : Int) == (j : Int)) = true := by simp
        have q5 : ((k : Int) == (k : Int)) = true := by simp
        have hget := S.get hi
        rw [r1] at hget
        have R : Hid (_ ∧ _ ∧ _) := ⟨r2, r3, r4⟩
        clear S r1 r2 r3 r4 hin hjk
        go_wp2_with fail
        go_at_call 14
        refine Calls.mono hget ?_
        clear hget
        rintro e w3 ⟨rfl, S3, _⟩
        have hY := SAt.new w3 (mk j).1
        have S4 := S3.next ((Below.refl w3.heap.size w3).alloc (Nat.le_refl _) (.cells (styL (mk j).1).toArray 35))
        simp only [styL] at hY S4
        clear S3
        go_upto_region 13 with fail
        generalize w3.alloc _ = w4 at *
        generalize w3.heap.size = B at *
        have hh := S4.hold (by omega) hi
        rw [R.out.1] at hh
        have HY : Hid (SAt w4 B (mk j).1 ∧ Own w c k (rows k) w4) := ⟨hY, S4⟩
        clear hY S4
        go_wp2_with fail
        go_at_call 10
        refine Calls.mono hh ?_
        clear hh
        rintro e w5 ⟨rfl, S5, ch5⟩
        have hY5 := HY.out.1.store HY.out.2.at_ ch5
        have hh := S5.release (by omega) hi
        rw [R.out.2.1] at hh
        have HY5 : Hid (SAt w5 B (mk j).1 ∧ Own w c (k + 1) (addL (rows k) j 1) w5) := ⟨hY5, S5⟩
        clear hY5 S5 ch5
        go_wp2_with fail
        go_at_call 12
        refine Calls.mono hh ?_
        clear hh
        rintro e w6 ⟨rfl, S6, ch6⟩
        have hY6 := HY5.out.1.store HY5.out.2.at_ ch6
        have hl := S6.live
        rw [R.out.2.2] at hl
        obtain ⟨y0, y1, y2, y3, y4, y5, y6, y7⟩ := hY6.cells
        rw [show (mk j).1 0 = (j : Int) from rfl] at y0
        have HS6 : Hid (Own w c (k + 1 + 1) (addL (addL (rows k) j 1) j (-1)) w6) := S6
        clear hY6 S6 ch6
        have hq := HNUM.out 0 w6
        go_wp2_with fail
        go_at_call 9
        refine Calls.mono hq ?_
        clear hq
        rintro e wz ⟨rfl, hwz⟩
        have hwy := hwz.symm
        clear hwz
        subst hwy
        have hq := HNUM.out 0 w6
        go_wp2_with fail
        go_at_call 9
        refine Calls.mono hq ?_
        clear hq
        rintro e wz ⟨rfl, hwz⟩
        have hwy := hwz.symm
        clear hwz
        subst hwy
        have hq := HNUM.out 0 w6
        go_wp2_with fail
        go_at_call 9
        refine Calls.mono hq ?_
        clear hq
        rintro e wz ⟨rfl, hwz⟩
        have hwy := hwz.symm
        clear hwz
        subst hwy
        go_wp2_with fail
        go_at_call 18
        refine Calls.mono hl ?_
        clear hl
        rintro e w8 ⟨rfl, rfl⟩
        go_wp2
        go_ret
        exact ⟨rfl, HS6.out.below⟩
      · obtain ⟨r1, r2, r3, r4⟩ := rows_out hin
        have q0 : 0 ≤ i → decide (i < (k : Int)) = false := fun h => decide_eq_false (fun h' => hin ⟨h, h'⟩)
        have q5 : ((k : Int) == (k : Int)) = true := by simp
        have hget := S.get hi
        rw [r1] at hget
        simp only [sty] at hget
        have r5 := rows_live k
        have R : Hid (_ ∧ _ ∧ _ ∧ _) := ⟨r2, r3, r4, r5⟩
        clear S r1 r2 r3 r4 r5 hin
        have q1 : decide (0 ≤ i) = true ∧ decide (i < (k : Int)) = false ∨ decide (0 ≤ i) = false := by
          by_cases h : 0 ≤ i
          · exact .inl ⟨decide_eq_true h, q0 h⟩
          · exact .inr (decide_eq_false h)
        clear q0
        rcases q1 with ⟨q1, q2⟩ | q1
        all_goals
          go_wp2_with fail
          go_at_call 14
          refine Calls.mono hget ?_
          clear hget
          rintro e w3 ⟨rfl, S3, _⟩
          have hY := SAt.new w3 (fun _ => 0)
          have S4 := S3.next ((Below.refl w3.heap.size w3).alloc (Nat.le_refl _) (.cells (styL (fun _ => 0)).toArray 35))
          simp only [styL] at hY S4
          clear S3
          go_upto_region 13 with fail
          generalize w3.alloc _ = w4 at *
          generalize w3.heap.size = B at *
          have hh := S4.hold (by omega) hi
          rw [R.out.1] at hh
          have HY : Hid (SAt w4 B (fun _ => 0) ∧ Own w c k (rows k) w4) := ⟨hY, S4⟩
          clear hY S4
          go_wp2_with fail
          go_at_call 10
          refine Calls.mono hh ?_
          clear hh
          rintro e w5 ⟨rfl, S5, ch5⟩
          have hY5 := HY.out.1.store HY.out.2.at_ ch5
          rw [R.out.2.1] at S5
          have hh := S5.release (by omega) hi
          rw [R.out.1] at hh
          have HY5 : Hid (SAt w5 B (fun _ => 0) ∧ Own w c (k + 1) (rows k) w5) := ⟨hY5, S5⟩
          clear hY5 S5 ch5
          go_wp2_with fail
          go_at_call 12
          refine Calls.mono hh ?_
          clear hh
          rintro e w6 ⟨rfl, S6, ch6⟩
          have hY6 := HY5.out.1.store HY5.out.2.at_ ch6
          rw [R.out.2.2.1] at S6
          have hl := S6.live
          rw [R.out.2.2.2] at hl
          obtain ⟨y0, y1, y2, y3, y4, y5, y6, y7⟩ := hY6.cells
          have he := eq_sty (fun _ => 0) w6
          have HS6 : Hid (Own w c (k + 1 + 1) (rows k) w6) := S6
          clear hY6 S6 ch6
          have hq := HNUM.out 6 w6
          go_wp2_with fail
          go_at_call 9
          refine Calls.mono hq ?_
          clear hq
          rintro e wz ⟨rfl, hwz⟩
          have hwy := hwz.symm
          clear hwz
          subst hwy
          have hq := HNUM.out 6 w6
          go_wp2_with fail
          go_at_call 9
          refine Calls.mono hq ?_
          clear hq
          rintro e wz ⟨rfl, hwz⟩
          have hwy := hwz.symm
          clear hwz
          subst hwy
          have hq := HNUM.out 6 w6
          go_wp2_with fail
          go_at_call 9
          refine Calls.mono hq ?_
          clear hq
          rintro e wz ⟨rfl, hwz⟩
          have hwy := hwz.symm
          clear hwz
          subst hwy
          go_wp2_with fail
          go_at_call 18
          refine Calls.mono hl ?_
          clear hl
          rintro e w8 ⟨rfl, rfl⟩
          go_wp2
          go_ret
          exact ⟨rfl, HS6.out.below⟩


set_option maxRecDepth 100000 in
theorem storeNone_lifted (os : Os) (started : os.Started) (H : Type) (enc : TypeId × Value → H) :
    ReturnsInHanded {} Try.checked os 5 .any (Rows.storeNoneSpec.pre6 enc Try.prog Try.f5 Rows.storeNoneRow.domain false) (Rows.storeNoneSpec.post enc Try.prog Try.f5 false true false false) := by
  refine returnsInHanded_of_change_sized (C := Try.checked) ownNone started (by kernel_rfl) Try.func5
    (ChangeSpec.witness6 (enc := enc) (C := Try.checked) false ⟨#[], #[.int .i64 0, .int .i64 0], []⟩ 8 (by kernel_rfl) (by kernel_rfl) (by kernel_rfl) (by kernel_rfl)) ?_
  intro W base args ds gs before hval hW _ hsz0 _
  have hW' := hW
  obtain ⟨p, q, hA0, hV, rfl, hfz, hnd⟩ := hW
  have hA : DataW.TrodAll enc Try.prog W 0 (fun _ => true) true Try.f5.params.toList args.toList ds p := hA0
  rw [Try.params5] at hA hval hsz0
  obtain ⟨v0, vs0, d0, ds0, p0, q0, hargs, rfl, rfl, h0, r0⟩ := trodAll_cons hA
  obtain ⟨v1, vs1, d1, ds1, p1, q1, rfl, rfl, rfl, h1, r1⟩ := trodAll_cons r0
  obtain ⟨rfl, rfl, rfl⟩ := trodAll_nil r1
  obtain rfl : args = #[v0, v1] := by cases args; simp_all
  obtain ⟨rfl, rfl⟩ := trodVars_none hV
  obtain ⟨a0, rfl, rfl, rfl, w0⟩ := open_int Try.underlying3 (hval 0 3 v0 rfl rfl) h0
  obtain ⟨a1, rfl, rfl, rfl, w1⟩ := open_int Try.underlying3 (hval 1 3 v1 rfl rfl) h1
  clear hA0
  refine (storeNone_walk W a0 w0 a1 w1).mono fun e W' ⟨he, bel⟩ => ?_
  subst he
  exact ⟨_, rfl, _, _, _, [], _, [], hW', trodAll_mk1 (shut_bool Try.underlying4 _), (trodAll_cons_mk (shut_int Try.underlying3 w0) (trodAll_cons_mk (shut_int Try.underlying3 w1) trodAll_mk0)), rfl, bel.frame _, fun h => by cases h⟩

theorem storeNone_said : Rows.StoreNoneSaid :=
  OpenClaim.holds_of_wide 5 Try.f5 rfl rfl rfl rfl rfl rfl rfl ⟨rfl, rfl, rfl, rfl, rfl⟩ rfl rfl rfl rfl rfl (by kernel_rfl) Try.func5 (by kernel_rfl)
    (of_decide_eq_true (by kernel_rfl)) (by unfold Func.isWrapper; first | (rw [if_pos (by decide +kernel)]; kernel_rfl) | (rw [if_neg (by decide +kernel)]; exact ⟨rfl, rfl⟩))
    (fun os started H enc _ => storeNone_lifted os started H enc)
#print axioms storeNone_said

end Go.Proofs.Ytiaomdlfccpcmaa
