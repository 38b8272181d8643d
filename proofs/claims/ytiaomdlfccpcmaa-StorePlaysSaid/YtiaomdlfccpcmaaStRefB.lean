/- The document's own store: New, Hold, Release, Get, Live. -/
import Derived.Test.YtiaomdlfccpcmaaStRef
namespace Go.Proofs.Ytiaomdlfccpcmaa.Sto
open Go Go.RowKit Sl

set_option maxRecDepth 100000 in
set_option maxHeartbeats 1000000 in
theorem refAdd_any (n₀ b n : Nat) (l : List He) (i d : Int) (w : World) (hn : n ≤ 100000) (hf : Few n l) (hd : d = 1 ∨ d = -1) (hi : i ≤ 9223372036854775807) (hS : RT n₀ w b l) :
    Calls Try.prog 22 #[.pointer (some ⟨b, 0, none⟩), .int .i64 i, .int .i64 d] w fun e w' => e = .returned (.int .i64 (addR l i)) ∧ RT n₀ w' b (addL l i d) ∧ ChR n₀ b w w' := by
  have hc := refCount_any n₀ b n l i w hf hi hS
  cases e : lookV (atV l) i with
  | none =>
    have hR : Hid (addR l i = 6 ∧ addL l i d = l ∧ RT n₀ w b l) := ⟨by unfold addR; rw [e], addL_off e, hS⟩
    rw [show cntV l i = 0 by unfold cntV; rw [e]] at hc
    clear hS e hf hi hd
    go_enter Try.func22, Try.ntmps22
    go_wp2_with fail
    go_at_call 17
    refine Calls.mono hc ?_
    clear hc
    rintro e w2 ⟨rfl, hw2⟩
    subst hw2
    go_wp2
    go_ret
    rw [hR.out.1, hR.out.2.1]
    exact ⟨rfl, hR.out.2.2, .of_below (Below.refl _ _)⟩
  | some x =>
    obtain ⟨k, rfl, hk⟩ := lookV_some e
    obtain ⟨h1, h2⟩ := atV_some hk
    obtain ⟨h3, h4⟩ := hf.at h1
    have hR : Hid (addR l k = 0 ∧ addL l k d = l.set k (x.1, x.2 + d)) := ⟨by unfold addR; rw [e], addL_at hk d⟩
    rw [show cntV l k = x.2 by unfold cntV; rw [e]] at hc
    obtain ⟨v, hS⟩ := hS
    obtain ⟨p, cap, rfl⟩ := hS.form
    obtain ⟨_, hlc, hcm⟩ := hS.len
    obtain ⟨g, rfl, hcc, hfz, hS⟩ := hS.get h1
    have hkl : k < l.length := (List.getElem?_eq_some_iff.1 h1).1
    have hw : IntKind.i64.wrap (x.2 + d) = x.2 + d := by rw [IntKind.wrap_i64]; omega
    have hp := hS.drew.put h1 (IntKind.i64.wrap (x.2 + d))
    have HW : Hid (_ = _) := hw
    clear hw
    obtain ⟨c0, _⟩ := hS.cells
    have c8 := hcc 8 _ rfl
    have HF : Hid (_ ∧ _) := hp
    have dx : (x.2 == 0) = false := by simp; omega
    have hkI : (k : Int) < (l.length : Int) := by omega
    have f8 : w.drew.frozen? ⟨g, k * 9 + 8, none⟩ = false := hfz
    have e8 : w.drew.cell? ⟨g, k * 9 + 8, none⟩ = some (.int .i64 x.2) := c8
    clear hS e hf h1 hk hcc hp hi
    generalize l.length = m at *
    go_enter Try.func22, Try.ntmps22
    go_wp2_with fail
    go_at_call 17
    refine Calls.mono hc ?_
    clear hc
    rintro e w2 ⟨rfl, hw2⟩
    have hw3 := hw2.symm
    clear hw2
    subst hw3
    go_upto_region 3 with fail
    have HeldS : w.drew.cell? ⟨b, 0, none⟩ = some (.slice (some ⟨g, 0, none⟩) m cap) ∧ w.drew.cell? ⟨g, k * 9 + 8, none⟩ = some (.int .i64 x.2) := ⟨c0, c8⟩
    refine Rg.wpD_begin [0, 1, 2, 3, 4, 5, 6, 7, 8, 9, 10, 11, 12, 13, 14, 15, 16] (fun Y => Y.cell? ⟨b, 0, none⟩ = some (.slice (some ⟨g, 0, none⟩) m cap) ∧ Y.cell? ⟨g, k * 9 + 8, none⟩ = some (.int .i64 x.2)) (by kernel_rfl) ?_
    refine Rg.wpD_load 0 (v := ?_) (by simp only [List.getElem?_toArray, List.getElem?_cons_zero]; rfl) (by kernel_rfl) (by kernel_rfl) (by intro _ _ _ h; exact h) HeldS (by rfl) (fun wz hz => ?_) ?_
    rotate_left
    · first | (go_simp; done) | (go_simp; with_reducible rfl)
    simp only [Act.put, List.setIfInBounds_toArray, List.set_cons_succ, List.set_cons_zero]
    refine Rg.wpD_load 1 (v := ?_) (by simp only [List.getElem?_toArray, List.getElem?_cons_succ, List.getElem?_cons_zero]; rfl) (by kernel_rfl) (by kernel_rfl) (by intro _ _ _ h; exact h) HeldS (by rfl) (fun wz hz => ?_) ?_
    rotate_left
    · first | (go_simp; done) | (go_simp; with_reducible rfl)
    simp only [Act.put, List.setIfInBounds_toArray, List.set_cons_succ, List.set_cons_zero]
    refine Rg.wpD_load 2 (v := ?_) (by simp only [List.getElem?_toArray, List.getElem?_cons_succ, List.getElem?_cons_zero]; rfl) (by kernel_rfl) (by kernel_rfl) (by intro _ _ _ h; exact h) HeldS (by rfl) (fun wz hz => ?_) ?_
    rotate_left
    · first | (go_simp; done) | (go_simp; with_reducible rfl)
    simp only [Act.put, List.setIfInBounds_toArray, List.set_cons_succ, List.set_cons_zero]
    refine Rg.wpD_load 3 (v := ?_) (by simp only [List.getElem?_toArray, List.getElem?_cons_succ, List.getElem?_cons_zero]; rfl) (by kernel_rfl) (by kernel_rfl) (by intro _ _ _ h; exact h) HeldS (by rfl) (fun wz hz => ?_) ?_
    rotate_left
    · first | (go_simp; done) | (go_simp; with_reducible rfl)
    simp only [Act.put, List.setIfInBounds_toArray, List.set_cons_succ, List.set_cons_zero]
    refine Rg.wpD_load 4 (v := ?_) (by simp only [List.getElem?_toArray, List.getElem?_cons_succ, List.getElem?_cons_zero]; rfl) (by kernel_rfl) (by kernel_rfl) (by intro _ _ _ h; exact h) HeldS (by rfl) (fun wz hz => ?_) ?_
    rotate_left
    · first | (go_simp; done) | (go_simp; with_reducible rfl)
    simp only [Act.put, List.setIfInBounds_toArray, List.set_cons_succ, List.set_cons_zero]
    refine Rg.wpD_load 5 (v := ?_) (by simp only [List.getElem?_toArray, List.getElem?_cons_succ, List.getElem?_cons_zero]; rfl) (by kernel_rfl) (by kernel_rfl) (by intro _ _ _ h; exact h) HeldS (by rfl) (fun wz hz => ?_) ?_
    rotate_left
    · first | (go_simp; done) | (go_simp; with_reducible rfl)
    simp only [Act.put, List.setIfInBounds_toArray, List.set_cons_succ, List.set_cons_zero]
    refine Rg.wpD_load 6 (v := ?_) (by simp only [List.getElem?_toArray, List.getElem?_cons_succ, List.getElem?_cons_zero]; rfl) (by kernel_rfl) (by kernel_rfl) (by intro _ _ _ h; exact h) HeldS (by rfl) (fun wz hz => ?_) ?_
    rotate_left
    · first | (go_simp; done) | (go_simp; with_reducible rfl)
    simp only [Act.put, List.setIfInBounds_toArray, List.set_cons_succ, List.set_cons_zero]
    refine Rg.wpD_load 7 (v := ?_) (by simp only [List.getElem?_toArray, List.getElem?_cons_succ, List.getElem?_cons_zero]; rfl) (by kernel_rfl) (by kernel_rfl) (by intro _ _ _ h; exact h) HeldS (by rfl) (fun wz hz => ?_) ?_
    rotate_left
    · first | (go_simp; done) | (go_simp; with_reducible rfl)
    simp only [Act.put, List.setIfInBounds_toArray, List.set_cons_succ, List.set_cons_zero]
    refine Rg.wpD_load 8 (v := ?_) (by simp only [List.getElem?_toArray, List.getElem?_cons_succ, List.getElem?_cons_zero]; rfl) (by kernel_rfl) (by kernel_rfl) (by intro _ _ _ h; exact h) HeldS (by rfl) (fun wz hz => ?_) ?_
    rotate_left
    · first | (go_simp; done) | (go_simp; with_reducible rfl)
    simp only [Act.put, List.setIfInBounds_toArray, List.set_cons_succ, List.set_cons_zero]
    refine Rg.wpD_load 9 (v := ?_) (by simp only [List.getElem?_toArray, List.getElem?_cons_succ, List.getElem?_cons_zero]; rfl) (by kernel_rfl) (by kernel_rfl) (by intro _ _ _ h; exact h) HeldS (by rfl) (fun wz hz => ?_) ?_
    rotate_left
    · first | (go_simp; done) | (go_simp; with_reducible rfl)
    simp only [Act.put, List.setIfInBounds_toArray, List.set_cons_succ, List.set_cons_zero]
    refine Rg.wpD_load 10 (v := ?_) (by simp only [List.getElem?_toArray, List.getElem?_cons_succ, List.getElem?_cons_zero]; rfl) (by kernel_rfl) (by kernel_rfl) (by intro _ _ _ h; exact h) HeldS (by rfl) (fun wz hz => ?_) ?_
    rotate_left
    · first | (go_simp; done) | (go_simp; with_reducible rfl)
    simp only [Act.put, List.setIfInBounds_toArray, List.set_cons_succ, List.set_cons_zero]
    refine Rg.wpD_load 11 (v := ?_) (by simp only [List.getElem?_toArray, List.getElem?_cons_succ, List.getElem?_cons_zero]; rfl) (by kernel_rfl) (by kernel_rfl) (by intro _ _ _ h; exact h) HeldS (by rfl) (fun wz hz => ?_) ?_
    rotate_left
    · first | (go_simp; done) | (go_simp; with_reducible rfl)
    simp only [Act.put, List.setIfInBounds_toArray, List.set_cons_succ, List.set_cons_zero]
    refine Rg.wpD_load 12 (v := ?_) (by simp only [List.getElem?_toArray, List.getElem?_cons_succ, List.getElem?_cons_zero]; rfl) (by kernel_rfl) (by kernel_rfl) (by intro _ _ _ h; exact h) HeldS (by rfl) (fun wz hz => ?_) ?_
    rotate_left
    · first | (go_simp; done) | (go_simp; with_reducible rfl)
    simp only [Act.put, List.setIfInBounds_toArray, List.set_cons_succ, List.set_cons_zero]
    refine Rg.wpD_load 13 (v := ?_) (by simp only [List.getElem?_toArray, List.getElem?_cons_succ, List.getElem?_cons_zero]; rfl) (by kernel_rfl) (by kernel_rfl) (by intro _ _ _ h; exact h) HeldS (by rfl) (fun wz hz => ?_) ?_
    rotate_left
    · first | (go_simp; done) | (go_simp; with_reducible rfl)
    simp only [Act.put, List.setIfInBounds_toArray, List.set_cons_succ, List.set_cons_zero]
    refine Rg.wpD_load 14 (v := ?_) (by simp only [List.getElem?_toArray, List.getElem?_cons_succ, List.getElem?_cons_zero]; rfl) (by kernel_rfl) (by kernel_rfl) (by intro _ _ _ h; exact h) HeldS (by rfl) (fun wz hz => ?_) ?_
    rotate_left
    · first | (go_simp; done) | (go_simp; with_reducible rfl)
    simp only [Act.put, List.setIfInBounds_toArray, List.set_cons_succ, List.set_cons_zero]
    refine Rg.wpD_load 15 (v := ?_) (by simp only [List.getElem?_toArray, List.getElem?_cons_succ, List.getElem?_cons_zero]; rfl) (by kernel_rfl) (by kernel_rfl) (by intro _ _ _ h; exact h) HeldS (by rfl) (fun wz hz => ?_) ?_
    rotate_left
    · first | (go_simp; done) | (go_simp; with_reducible rfl)
    simp only [Act.put, List.setIfInBounds_toArray, List.set_cons_succ, List.set_cons_zero]
    refine Rg.wpD_load 16 (v := ?_) (by simp only [List.getElem?_toArray, List.getElem?_cons_succ, List.getElem?_cons_zero]; rfl) (by kernel_rfl) (by kernel_rfl) (by intro _ _ _ h; exact h) HeldS (by rfl) (fun wz hz => ?_) ?_
    rotate_left
    · first | (go_simp; done) | (go_simp; with_reducible rfl)
    simp only [Act.put, List.setIfInBounds_toArray, List.set_cons_succ, List.set_cons_zero]
    clear HeldS
    refine Rg.wpD_do 17 (by kernel_rfl) (by simp only [List.getElem?_toArray, List.getElem?_cons_succ, List.getElem?_cons_zero]; rfl) (fun K hK => ?_)
    go_simp
    refine hK _ _ (fun h => absurd h (by decide)) ?_
    clear hK K
    refine Rg.wpD_done (by kernel_rfl) ?_
    go_wp2
    go_ret
    rw [hR.out.1, hR.out.2]
    have hc := HF.out
    rw [HW.out] at hc
    rw [HW.out]
    exact ⟨rfl, ⟨_, hc.1.kept rfl (fun _ _ => rfl)⟩, hc.2.os, hc.2.tape, hc.2.output, hc.2.size, hc.2.block⟩

set_option maxRecDepth 100000 in
theorem refHold_any (n₀ b n : Nat) (l : List He) (i : Int) (w : World) (hn : n ≤ 100000) (hf : Few n l) (hi : i ≤ 9223372036854775807) (hS : RT n₀ w b l) :
    Calls Try.prog 11 #[.pointer (some ⟨b, 0, none⟩), .int .i64 i] w fun e w' => e = .returned (.int .i64 (addR l i)) ∧ RT n₀ w' b (addL l i 1) ∧ ChR n₀ b w w' := by
  have ha := refAdd_any n₀ b n l i 1 w hn hf (.inl rfl) hi hS
  clear hf hS hi
  generalize addR l i = R at *
  go_enter Try.func11, Try.ntmps11
  go_wp2_with fail
  go_at_call 22
  refine Calls.mono ha ?_
  clear ha
  rintro e w2 ⟨rfl, h2, c2⟩
  go_wp2
  go_ret
  exact ⟨rfl, h2, c2⟩
set_option maxRecDepth 100000 in
theorem refRelease_any (n₀ b n : Nat) (l : List He) (i : Int) (w : World) (hn : n ≤ 100000) (hf : Few n l) (hi : i ≤ 9223372036854775807) (hS : RT n₀ w b l) :
    Calls Try.prog 13 #[.pointer (some ⟨b, 0, none⟩), .int .i64 i] w fun e w' => e = .returned (.int .i64 (addR l i)) ∧ RT n₀ w' b (addL l i (-1)) ∧ ChR n₀ b w w' := by
  have ha := refAdd_any n₀ b n l i (-1) w hn hf (.inr rfl) hi hS
  clear hf hS hi
  generalize addR l i = R at *
  go_enter Try.func13, Try.ntmps13
  go_wp2_with fail
  go_at_call 22
  refine Calls.mono ha ?_
  clear ha
  rintro e w2 ⟨rfl, h2, c2⟩
  go_wp2
  go_ret
  exact ⟨rfl, h2, c2⟩

set_option maxRecDepth 100000 in
set_option maxHeartbeats 1000000 in
theorem refGet_any (n₀ b n : Nat) (l : List He) (i : Int) (w : World) (hf : Few n l) (hi : i ≤ 9223372036854775807) (hS : RT n₀ w b l) :
    Calls Try.prog 15 #[.pointer (some ⟨b, 0, none⟩), .int .i64 i] w fun e w' => e = .returned (.tuple #[sty (getV l i).1, .int .i64 (getV l i).2]) ∧ Below w.heap.size w w' := by
  obtain ⟨W, hW⟩ : ∃ W, w.alloc (.cells (styL (fun _ => 0)).toArray 35) = W := ⟨_, rfl⟩
  have hb : Below w.heap.size w W := by rw [← hW]; exact (Below.refl _ _).alloc (Nat.le_refl _) _
  have hR : SAt W w.heap.size (fun _ => 0) := by rw [← hW]; exact SAt.new w _
  have hS1 := hS.next hb
  have hc := refCount_any n₀ b n l i W hf hi hS1
  obtain ⟨r0, r1, r2, r3, r4, r5, r6, r7⟩ := hR.cells
  obtain ⟨f0, f1, f2, f3, f4, f5, f6, f7⟩ := hR.thaw
  simp only [styL] at hW
  cases e : lookV (atV l) i with
  | none =>
    have hG : getV l i = (fun _ => 0, 6) := by unfold getV; rw [e]
    rw [show cntV l i = 0 by unfold cntV; rw [e]] at hc
    rw [hG]
    have hF := load_sty (hR.set8 (fun _ => 0))
    have hB := below_grew hb (grown_set8 W w.heap.size (fun _ => 0)) hb.size (fun r e => by cases e; exact Nat.le_refl _)
    simp only [set8] at hF hB
    clear hS hS1 e hf hi hR hb hG
    go_enter Try.func15, Try.ntmps15
    go_upto_region 1 with fail
    clear hW
    go_wp2_with fail
    go_at_call 17
    refine Calls.mono hc ?_
    clear hc
    rintro e w2 ⟨rfl, hw2⟩
    have hw3 := hw2.symm
    clear hw2
    subst hw3
    go_wp2
    refine bodyPost_ret (results_cell_tmp rfl _ _ w.heap.size _ _ rfl rfl hF) rfl ?_
    exact ⟨rfl, hB⟩
  | some x =>
    obtain ⟨k, rfl, hk⟩ := lookV_some e
    obtain ⟨h1, h2⟩ := atV_some hk
    have hG : getV l k = (x.1, 0) := by unfold getV; rw [e]
    rw [show cntV l k = x.2 by unfold cntV; rw [e]] at hc
    rw [hG]
    obtain ⟨v, hS1⟩ := hS1
    obtain ⟨p, cap, rfl⟩ := hS1.form
    obtain ⟨_, hlc, hcm⟩ := hS1.len
    obtain ⟨g, rfl, hcc, _, hS1⟩ := hS1.get h1
    have hkl : k < l.length := (List.getElem?_eq_some_iff.1 h1).1
    obtain ⟨c0, _⟩ := hS1.cells
    have g0 := hcc 0 _ rfl
    have g1 := hcc 1 _ rfl
    have g2 := hcc 2 _ rfl
    have g3 := hcc 3 _ rfl
    have g4 := hcc 4 _ rfl
    have g5 := hcc 5 _ rfl
    have g6 := hcc 6 _ rfl
    have g7 := hcc 7 _ rfl
    rw [Nat.add_zero] at g0
    have dx : (x.2 == 0) = false := by simp; omega
    have hkI : (k : Int) < (l.length : Int) := by omega
    have hF := load_sty (hR.set8 x.1)
    have hB := below_grew hb (grown_set8 W w.heap.size x.1) hb.size (fun r e => by cases e; exact Nat.le_refl _)
    simp only [set8] at hF hB
    clear hS hS1 e hf hi hR hb hG h1 hk hcc
    generalize l.length = m at *
    go_enter Try.func15, Try.ntmps15
    go_upto_region 1 with fail
    clear hW
    go_wp2_with fail
    go_at_call 17
    refine Calls.mono hc ?_
    clear hc
    rintro e w2 ⟨rfl, hw2⟩
    have hw3 := hw2.symm
    clear hw2
    subst hw3
    go_wp2
    refine bodyPost_ret (results_cell_tmp rfl _ _ w.heap.size _ _ rfl rfl hF) rfl ?_
    exact ⟨rfl, hB⟩

set_option maxRecDepth 100000 in
set_option maxHeartbeats 400000 in
theorem refLive_any (n₀ b n : Nat) (l : List He) (w : World) (hn : n ≤ 100000) (hf : Few n l) (hS : RT n₀ w b l) :
    Calls Try.prog 19 #[.pointer (some ⟨b, 0, none⟩)] w fun e w' => e = .returned (.int .i64 (liveN l)) ∧ w' = w := by
  obtain ⟨v, hS⟩ := hS
  obtain ⟨p, cap, rfl⟩ := hS.form
  obtain ⟨_, hlc, hcm⟩ := hS.len
  have hln := hf.len
  have H : Hid (RS n₀ w b (.slice p l.length cap) l) := hS
  obtain ⟨c0, _⟩ := hS.cells
  obtain ⟨m, hm⟩ : ∃ m, l.length = m := ⟨_, rfl⟩
  have HM : Hid (l.length = m) := hm
  rw [hm] at c0 hlc hln H
  clear hS hf hm
  go_enter Try.func19, Try.ntmps19
  go_wp2_with fail
  go_loopw [3, 4] (fun x y wr => ∃ k : Nat, x = .int .i64 (liveN (l.take k)) ∧ y = .int .i64 k ∧ k ≤ m ∧ wr = w) (fun _ y _ => m - (intOf y).toNat)
  case atStart => exact ⟨0, rfl, rfl, Nat.zero_le _, rfl⟩
  case round =>
    obtain ⟨k, rfl, rfl, hk, hw⟩ := hrel
    subst hw
    by_cases hkm : k < m
    · have hlt : decide (k < m) = true := by simpa using hkm
      have hkI : (k : Int) < (m : Int) := by omega
      obtain ⟨x, hx⟩ : ∃ x, l[k]? = some x := ⟨_, List.getElem?_eq_getElem (by have := HM.out; omega)⟩
      obtain ⟨g, rfl, hcc, _⟩ := H.out.get hx
      have g8 := hcc 8 _ rfl
      have hlv := live_le (l.take k)
      rw [List.length_take] at hlv
      have HK : Hid (k < m) := hkm
      have HT : Hid (liveN (l.take (k + 1)) = liveN (l.take k) + (if 0 < x.2 then 1 else 0)) := by
        show liveN (l.take (k + 1)) = _
        unfold liveN
        rw [List.take_add_one, hx, List.countP_append]
        simp [List.countP_cons]
      obtain ⟨c, hc⟩ : ∃ c, liveN (l.take k) = c := ⟨_, rfl⟩
      rw [hc] at hlv HT ⊢
      by_cases hp : 0 < x.2
      · have dp : decide (0 < x.2) = true := decide_eq_true hp
        have HT2 : Hid (liveN (l.take (k + 1)) = c + 1) := by show _ = _; rw [HT.out, if_pos hp]
        clear hcc hx hk hkm HT hc
        go_wp2_with fail
        go_roundw
        case rel => exact ⟨k + 1, by rw [HT2.out]; go_num, by go_num, HK.out, trivial⟩
        case measure => have := HK.out; simp [intOf] <;> omega
      · have dp : decide (0 < x.2) = false := decide_eq_false hp
        have HT2 : Hid (liveN (l.take (k + 1)) = c) := by show _ = _; rw [HT.out, if_neg hp]; rfl
        clear hcc hx hk hkm HT hc
        go_wp2_with fail
        go_roundw
        case rel => exact ⟨k + 1, by rw [HT2.out], by go_num, HK.out, trivial⟩
        case measure => have := HK.out; simp [intOf] <;> omega
    · have hlt : decide (k < m) = false := by simpa using hkm
      obtain rfl : k = m := by omega
      rw [show l.take k = l from by rw [← HM.out]; exact List.take_length]
      clear hk hkm
      go_wp2
      go_ret
      exact ⟨rfl, rfl⟩

end Go.Proofs.Ytiaomdlfccpcmaa.Sto
