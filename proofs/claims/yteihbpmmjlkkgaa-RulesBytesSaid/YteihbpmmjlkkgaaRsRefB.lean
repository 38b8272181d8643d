/- The document's own 'at' and 'closed'. -/
import Derived.Test.YteihbpmmjlkkgaaRsRefA
import Derived.Test.YteihbpmmjlkkgaaRsRaw
namespace Go.Proofs.Yteihbpmmjlkkgaa
open Go Go.RowKit Go.Shelf

theorem isStop_12 : isStop 12 = true := by decide
theorem isStop_14 : isStop 14 = true := by decide
theorem isStop_no {k : Int} (h1 : k ≠ 12) (h2 : k ≠ 14) : isStop k = false := by simp [isStop, h1, h2]
theorem is14_yes : is14 14 = true := by decide
theorem is14_no {k : Int} (h2 : k ≠ 14) : is14 k = false := by simp [is14, h2]
theorem is15_eq : is15' = is15 := by
  funext k
  by_cases h : k = 15
  · subst h
    rfl
  · simp [is15', is15, h]
theorem upto_at {p : Int → Bool} {ts : List Bt} {k : Nat} (h : k < ts.length) : upto p ((kds ts).drop k) = if p ts[k].kind then 0 else run [] ((kds ts).drop k) + upto p ((kds ts).drop (k + run [] ((kds ts).drop k))) := by
  conv => lhs; rw [kds_at h, upto_cons, ← kds_at h, List.drop_drop]

set_option maxRecDepth 100000 in
set_option maxHeartbeats 2000000 in
/-- The document's own 'at'. -/
theorem refAt_any (v : Value) (ts : List Bt) (i : Nat) (w : World) (hv : BtsAt w.heap.size w v ts) (hi : i < ts.length) (hl : ts.length ≤ 1000000) :
    Calls Try.prog 17 #[v, .int .i64 i] w fun e w' => e = .returned (.int .i64 ((i + 1 + upto isStop ((kds ts).drop (i + 1)) + run [] ((kds ts).drop (i + 1 + upto isStop ((kds ts).drop (i + 1)))) : Nat) : Int)) ∧ Below w.heap.size w w' := by
  obtain ⟨p, cap, rfl⟩ := hv.len
  obtain ⟨J, hJ⟩ : ∃ J : Nat, i + 1 + upto isStop ((kds ts).drop (i + 1)) = J := ⟨_, rfl⟩
  rw [hJ]
  obtain ⟨Z, hZ⟩ : ∃ Z : Nat, J + run [] ((kds ts).drop J) = Z := ⟨_, rfl⟩
  rw [hZ]
  go_enter Try.func17, Try.ntmps17
  go_wp2
  go_loopw [1, 5] (fun x _ wr => ∃ k : Nat, x = .int .i64 k ∧ k ≤ ts.length ∧ k + upto isStop ((kds ts).drop k) = J ∧ Below w.heap.size w wr) (fun x _ _ => ts.length - (intOf x).toNat)
  case atStart => exact ⟨i + 1, by go_num, by omega, hJ, Below.refl _ _⟩
  case round =>
    obtain ⟨k, rfl, hk, hR, hb⟩ := hrel
    clear hJ
    by_cases hlt : k < ts.length
    · have hki : (k : Int) < (ts.length : Int) := by omega
      obtain ⟨bk, off, rfl, hbk, _, _, hc, _⟩ := (hv.below hb).get (List.getElem?_eq_getElem hlt)
      have hsk := refSkip_in (.slice (some ⟨bk, off, none⟩) ts.length cap) ts k wr ((hv.below hb).mono hb.size) hlt hl
      have hrl := run_drop_le (kds ts) k
      have hrp := run_drop_pos (ks := kds ts) (i := k) (by rw [kds_length]; exact hlt)
      rw [kds_length] at hrl
      rw [upto_at hlt] at hR
      by_cases h12 : ts[k].kind = 12
      · rw [h12, isStop_12, if_pos rfl, Nat.add_zero] at hR
        subst hR
        have e : run [] ((kds ts).drop k) = 1 := by rw [kds_at hlt, h12]; exact run_cons_nil _ (by decide)
        rw [h12] at hc
        obtain rfl : k + 1 = Z := by rw [← hZ, e]
        clear hsk e h12 hZ
        go_wp2
        go_ret
        exact ⟨by first | rfl | (rw [Int.natCast_add]; rfl), hb⟩
      · have h12' : (ts[k].kind == 12) = false := by simpa using h12
        by_cases h14 : ts[k].kind = 14
        · rw [h14, isStop_14, if_pos rfl, Nat.add_zero] at hR
          subst hR
          rw [h14] at hc
          clear h12 h12' h14
          rw [hZ] at hsk
          clear hZ
          go_wp2_with fail
          refine hsk.mono ?_
          rintro e w2 ⟨rfl, b2⟩
          go_wp2
          go_ret
          exact ⟨rfl, hb.trans (b2.mono hb.size)⟩
        · have h14' : (ts[k].kind == 14) = false := by simpa using h14
          have HR : Hid (k + run [] ((kds ts).drop k) + upto isStop ((kds ts).drop (k + run [] ((kds ts).drop k))) = J) := by
            show _ = _
            rw [isStop_no h12 h14, if_neg (by decide)] at hR
            omega
          clear hR
          generalize ts[k].kind = x at *
          generalize run [] ((kds ts).drop k) = m at *
          go_wp2_with fail
          refine hsk.mono ?_
          rintro e w2 ⟨rfl, b2⟩
          go_wp2
          exact ⟨⟨k + m, rfl, by omega, HR, hb.trans (b2.mono hb.size)⟩, by simp [intOf]; omega⟩
    · have hki : ¬ (k : Int) < (ts.length : Int) := by omega
      have e0 : (kds ts).drop k = [] := List.drop_eq_nil_iff.2 (by rw [kds_length]; omega)
      rw [e0, upto_nil, Nat.add_zero] at hR
      subst hR
      obtain rfl : k = Z := by rw [← hZ, e0]; rfl
      clear e0 hZ
      go_wp2
      go_ret
      exact ⟨rfl, hb⟩

theorem opns_next {ts : List Bt} {i k : Nat} (hi : i ≤ k) (h : k < ts.length) : opns [] (((kds ts).drop i).take (k + 1 - i)) = opn (opns [] (((kds ts).drop i).take (k - i))) ts[k].kind := by
  have hk : k - i < ((kds ts).drop i).length := by rw [List.length_drop, kds_length]; omega
  rw [show k + 1 - i = (k - i) + 1 by omega, List.take_succ_eq_append_getElem hk, opns_append]
  have : ((kds ts).drop i)[k - i] = ts[k].kind := by
    simp only [List.getElem_drop, kds, List.getElem_map]
    congr 2
    omega
  rw [this]
  rfl
theorem opns_len (ks st : List Int) : (opns st ks).length ≤ st.length + ks.length := by
  induction ks generalizing st with
  | nil => simp [opns]
  | cons k r ih =>
    have h1 := ih (opn st k)
    have h2 : (opn st k).length ≤ st.length + 1 := by
      unfold opn
      split
      · simp
      · split
        · simp; omega
        · omega
    show (opns (opn st k) r).length ≤ _
    rw [List.length_cons]
    omega

set_option maxRecDepth 100000 in
set_option maxHeartbeats 4000000 in
/-- The document's own 'closed'. -/
theorem refClosed_any (v : Value) (ts : List Bt) (i e : Nat) (w : World) (hv : BtsAt w.heap.size w v ts) (hi : i ≤ e) (he : e ≤ ts.length) (hl : ts.length ≤ 1000000) :
    Calls Try.prog 19 #[v, .int .i64 i, .int .i64 e] w fun r w' => r = .returned (.bool (decide (opns [] (((kds ts).drop i).take (e - i)) = []))) ∧ Below w.heap.size w w' := by
  obtain ⟨i0, hi0, hz0, hz1, hz2⟩ := info_parts infoInt5
  obtain ⟨p, cap, rfl⟩ := hv.len
  obtain ⟨B, hB⟩ : ∃ B, decide (opns [] (((kds ts).drop i).take (e - i)) = []) = B := ⟨_, rfl⟩
  rw [hB]
  go_enter Try.func19, Try.ntmps19
  go_wp2
  go_loopw [1, 7] (fun x o wr => ∃ (st : List Int) (k : Nat) (v' : Value), v' = o ∧ x = .int .i64 k ∧ Stk w.heap.size wr v' st ∧ i ≤ k ∧ k ≤ e ∧ Hid (opns [] (((kds ts).drop i).take (k - i)) = st) ∧ Below w.heap.size w wr) (fun x _ _ => e - (intOf x).toNat)
  case atStart => exact ⟨[], i, _, rfl, rfl, Stk.none _ _, by omega, by omega, by show _ = _; rw [Nat.sub_self]; rfl, Below.refl _ _⟩
  case round =>
    obtain ⟨st, k, v', rfl, rfl, hS, hik, hke, HST, hb⟩ := hrel
    have hlen : st.length ≤ 1000000 := by
      rw [← show _ = st from HST]
      have := opns_len (((kds ts).drop i).take (k - i)) []
      rw [List.length_take, List.length_drop, kds_length] at this
      simp at this
      omega
    by_cases hlt : k < e
    · have hki : (k : Int) < (e : Int) := by omega
      have hkl : k < ts.length := by omega
      have hkt : (k : Int) < (ts.length : Int) := by omega
      obtain ⟨bk, off, rfl, hbk, _, _, hc, _⟩ := (hv.below hb).get (List.getElem?_eq_getElem hkl)
      have hcl := closing_any ts[k].kind
      have hnx := opns_next hik hkl
      rw [show opns [] (((kds ts).drop i).take (k - i)) = st from HST] at hnx
      generalize ts[k].kind = x at *
      clear HST hB
      rcases (show 0 < clos x ∨ clos x = 0 by have := clos_nonneg x; omega) with hx | hx
      · have HN : Hid (opns [] (((kds ts).drop i).take (k + 1 - i)) = clos x :: st) := by show _ = _; rw [hnx, opn_open hx]
        generalize clos x = y at *
        have hsz := hb.size
        clear hnx
        obtain ⟨pv, cv, rfl⟩ := hS.form
        go_wp2_with fail
        refine (hcl _).mono ?_
        rintro e w1 ⟨rfl, rfl⟩
        go_wp2_with (at_builtin; refine wpList_append_own _ rfl _ _ 33 rfl w.heap.size 3 i0 (.int .i64 0) 1 8 Try.underlying33 hi0 hz0 hz1 hz2 rfl (by decide) _ _ _ rfl (World.ownsRow.alloc hS _) ⟨w1.heap.size, 0, none⟩ 1 1 [.int .i64 y] rfl rfl (cells_new _ [.int .i64 y] _) (fun u hu => by simp at hu; subst hu; rfl) (by unfold maxLen; omega) (by omega) (by simp; omega) ?_; intro v2 w2 hown2 hgrow2 hnil2; have S2 := Stk.push hown2; obtain ⟨p2, c2, rfl⟩ := S2.form)
        exact ⟨⟨y :: st, k + 1, _, rfl, by go_num, S2, by omega, by omega, HN, hb.trans (Stk.below (Below.refl _ _) hS hsz hgrow2)⟩, by simp [intOf]; omega⟩
      · rw [hx] at hcl
        cases st with
        | nil =>
          have HN : Hid (opns [] (((kds ts).drop i).take (k + 1 - i)) = []) := by show _ = _; rw [hnx, opn_nil hx]
          obtain ⟨pv, cv, rfl⟩ := hS.form
          clear hnx
          simp only [List.length_nil] at *
          go_wp2_with fail
          refine (hcl _).mono ?_
          rintro e w1 ⟨rfl, rfl⟩
          go_wp2
          go_quiet (fail)
          have gq : w1.grownBy (w1.drewN nq) none := ⟨rfl, rfl, rfl, Nat.le_refl _, fun _ _ _ => rfl⟩
          have bq : Below w.heap.size w (w1.drewN nq) := ⟨hb.os, hb.tape, hb.output, hb.size, hb.block⟩
          have hSq : Stk w.heap.size (w1.drewN nq) (.slice pv 0 cv) [] := hS
          go_wp2
          exact ⟨⟨[], k + 1, _, rfl, by go_num, hSq, by omega, by omega, HN, bq⟩, by simp [intOf]; omega⟩
        | cons c s =>
          obtain ⟨g, cv, rfl, hg1, hg2, hcell, hS2⟩ := hS.top
          unfold maxLen at hg2
          by_cases hxc : x = c
          · subst hxc
            have HN : Hid (opns [] (((kds ts).drop i).take (k + 1 - i)) = s) := by show _ = _; rw [hnx, opn_shut hx]; simp
            clear hnx
            simp only [List.length_cons] at hlen
            go_wp2_with fail
            refine (hcl _).mono ?_
            rintro e w1 ⟨rfl, rfl⟩
            go_wp2
            go_quiet (fail)
            have bq : Below w.heap.size w (w1.drewN nq) := ⟨hb.os, hb.tape, hb.output, hb.size, hb.block⟩
            have hSq : Stk w.heap.size (w1.drewN nq) (.slice (some ⟨g, 0, none⟩) s.length cv) s := hS2
            go_wp2
            exact ⟨⟨s, k + 1, _, rfl, by go_num, hSq, by omega, by omega, HN, bq⟩, by simp [intOf]; omega⟩
          · have HN : Hid (opns [] (((kds ts).drop i).take (k + 1 - i)) = c :: s) := by show _ = _; rw [hnx, opn_shut hx]; simp [Ne.symm hxc]
            have hxc' : (x == c) = false := by simpa using hxc
            clear hnx
            simp only [List.length_cons] at hlen
            go_wp2_with fail
            refine (hcl _).mono ?_
            rintro e w1 ⟨rfl, rfl⟩
            go_wp2
            go_quiet (fail)
            have bq : Below w.heap.size w (w1.drewN nq) := ⟨hb.os, hb.tape, hb.output, hb.size, hb.block⟩
            have hSq : Stk w.heap.size (w1.drewN nq) (.slice (some ⟨g, 0, none⟩) (s.length + 1) cv) (c :: s) := hS
            go_wp2
            exact ⟨⟨c :: s, k + 1, _, rfl, by go_num, hSq, by omega, by omega, HN, bq⟩, by simp [intOf]; omega⟩
    · have hki : ¬ (k : Int) < (e : Int) := by omega
      obtain rfl : k = e := by omega
      rw [show opns [] (((kds ts).drop i).take (k - i)) = st from HST] at hB
      obtain ⟨pv, cv, rfl⟩ := hS.form
      clear HST
      cases st with
      | nil =>
        obtain rfl : B = true := by rw [← hB]; rfl
        clear hB
        simp only [List.length_nil] at *
        go_wp2
        go_ret
        exact ⟨rfl, hb⟩
      | cons c s =>
        obtain rfl : B = false := by rw [← hB]; simp
        clear hB
        simp only [List.length_cons] at *
        have hne : (((s.length + 1 : Nat) : Int) == 0) = false := by simp; omega
        go_wp2
        go_ret
        exact ⟨rfl, hb⟩

end Go.Proofs.Yteihbpmmjlkkgaa
