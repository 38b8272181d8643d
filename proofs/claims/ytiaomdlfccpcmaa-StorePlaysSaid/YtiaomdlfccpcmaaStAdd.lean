/- Package store: New, Hold, Release at every store. -/
import Derived.Test.YtiaomdlfccpcmaaStStore
namespace Go.Proofs.Ytiaomdlfccpcmaa.Sto
open Go Go.RowKit Sl

set_option maxRecDepth 100000 in
set_option maxHeartbeats 1000000 in
theorem new_any (b : Nat) (l : List He) (s : Nat → Int) (w : World) (hn : l.length ≤ 100000) (hS : ST w b l) :
    Calls Try.prog 7 #[.pointer (some ⟨b, 0, none⟩), sty s] w fun e w' => e = .returned (.int .i64 l.length) ∧ ST w' b (newL l s) ∧ Chg b w w' := by
  obtain ⟨p, hS, ht⟩ := hS
  obtain ⟨W, hW⟩ : ∃ W, w.alloc (.cells (styL s).toArray 35) = W := ⟨_, rfl⟩
  have hb : Below w.heap.size w W := by rw [← hW]; exact (Below.refl _ _).alloc (Nat.le_refl _) _
  have hA : SAt W w.heap.size s := by rw [← hW]; exact SAt.new w s
  have hS1 := hS.next hb
  have ht1 := ht.next hb
  have hlt := hS.lt
  have hC1 : Chg b w W := Chg.of_below hb
  clear hS ht hb
  have hlv := live_le l
  have HNL : Hid (l.length = (newL l s).length - 1 ∧ atV (newL l s) = updV (atV l) l.length (some (s, 1)) ∧ liveN (newL l s) = liveN l + 1 ∧ atV l l.length = none) := ⟨by simp [newL], at_new l s, live_new l s, atV_out (Nat.le_refl _)⟩
  have HLN : Hid ((newL l s).length = l.length + 1) := by show _ = _; simp [newL]
  obtain ⟨n, hln⟩ : ∃ n, l.length = n := ⟨_, rfl⟩
  rw [hln] at hS1 hn hlv HNL HLN ⊢
  simp only [styL] at hW
  go_enter Try.func7, Try.ntmps7
  go_upto_region 1 with fail
  clear hW
  obtain ⟨⟨c0, c1, c2⟩, f0, f1, f2⟩ := hS1.cells
  have hw : wrap64 ((n : Int) + 1) = (n : Int) + 1 := by unfold wrap64; omega
  have hS2 := hS1.put2 ((n : Int) + 1)
  have hC2 := hC1.set 2 (.int .i64 ((n : Int) + 1))
  have ht2 := ht1.store hS1 ((Chg.refl b W).set 2 (.int .i64 ((n : Int) + 1)))
  have hA2 : SAt (W.setCell ⟨b, 2, none⟩ (.int .i64 ((n : Int) + 1))) w.heap.size s := Blk.kept hA (grown_set W b 2 _) (fun e => by have := Option.some.inj e; omega)
  clear hA hS1 ht1 hC1
  go_upto_region 3 with fail
  clear c0 c1 c2 f0 f1 f2
  generalize W.setCell _ _ = X at *
  have hp := put_any _ b p (atV l) n (s, 1) (liveN l) ((n : Int) + 1) ((liveN l : Int) + 1) (by rw [HNL.out.2.2.2]; rfl) X.drew (by omega) ⟨by omega, by omega⟩ (show StAt X.drew b p _ _ from hS2) ht2.drew
  obtain ⟨a0, a1, a2, a3, a4, a5, a6, a7⟩ := hA2.cells
  have HeldS : X.drew.cell? ⟨w.heap.size, 0, none⟩ = some (.int .i64 (s 0)) ∧ X.drew.cell? ⟨w.heap.size, 1, none⟩ = some (.int .i64 (s 1)) ∧ X.drew.cell? ⟨w.heap.size, 2, none⟩ = some (.int .i64 (s 2)) ∧ X.drew.cell? ⟨w.heap.size, 3, none⟩ = some (.int .i64 (s 3)) ∧ X.drew.cell? ⟨w.heap.size, 4, none⟩ = some (.int .i64 (s 4)) ∧ X.drew.cell? ⟨w.heap.size, 5, none⟩ = some (.int .i64 (s 5)) ∧ X.drew.cell? ⟨w.heap.size, 6, none⟩ = some (.int .i64 (s 6)) ∧ X.drew.cell? ⟨w.heap.size, 7, none⟩ = some (.int .i64 (s 7)) := ⟨a0, a1, a2, a3, a4, a5, a6, a7⟩
  clear hS2 ht2 hA2
  refine Rg.wpD_begin [0, 1, 2, 3, 4, 5] (fun Y => Y.cell? ⟨w.heap.size, 0, none⟩ = some (.int .i64 (s 0)) ∧ Y.cell? ⟨w.heap.size, 1, none⟩ = some (.int .i64 (s 1)) ∧ Y.cell? ⟨w.heap.size, 2, none⟩ = some (.int .i64 (s 2)) ∧ Y.cell? ⟨w.heap.size, 3, none⟩ = some (.int .i64 (s 3)) ∧ Y.cell? ⟨w.heap.size, 4, none⟩ = some (.int .i64 (s 4)) ∧ Y.cell? ⟨w.heap.size, 5, none⟩ = some (.int .i64 (s 5)) ∧ Y.cell? ⟨w.heap.size, 6, none⟩ = some (.int .i64 (s 6)) ∧ Y.cell? ⟨w.heap.size, 7, none⟩ = some (.int .i64 (s 7))) (by kernel_rfl) ?_
  refine Rg.wpD_load 0 (v := ?_) (by simp only [List.getElem?_toArray, List.getElem?_cons_zero]; rfl) (by kernel_rfl) (by kernel_rfl) (by intro _ _ _ h; exact h) HeldS (by rfl) (fun wz hz => ?_) ?_
  rotate_left
  · first | (go_simp; done) | (go_simp; with_reducible rfl)
  simp only [Act.put, List.setIfInBounds_toArray, List.set_cons_succ, List.set_cons_zero]
  refine Rg.wpD_load 1 (v := ?_) (by simp only [List.getElem?_toArray, List.getElem?_cons_succ, List.getElem?_cons_zero]; rfl) (by kernel_rfl) (by kernel_rfl) (by intro _ _ _ h; exact h) HeldS (by rfl) (fun wz hz => ?_) ?_
  rotate_left
  · first | (go_simp; done) | (go_simp; with_reducible rfl)
  simp only [Act.put, List.setIfInBounds_toArray, List.set_cons_succ, List.set_cons_zero]
  refine Rg.wpD_load 2 (v := ?_) (by simp only [List.getElem?_toArray, List.getElem?_cons_succ, List.getElem?_cons_zero]; rfl) (by kernel_rfl) (by kernel_rfl) (by intro _ _ _ h; exact h) HeldS (by rfl) (fun wz hz => ?_) ?_
  rotate_left
  · first | (go_simp; done) | (go_simp; with_reducible rfl)
  simp only [Act.put, List.setIfInBounds_toArray, List.set_cons_succ, List.set_cons_zero]
  refine Rg.wpD_load 3 (v := ?_) (by simp only [List.getElem?_toArray, List.getElem?_cons_succ, List.getElem?_cons_zero]; rfl) (by kernel_rfl) (by kernel_rfl) (by intro _ _ _ h; exact h) HeldS (by rfl) (fun wz hz => ?_) ?_
  rotate_left
  · first | (go_simp; done) | (go_simp; with_reducible rfl)
  simp only [Act.put, List.setIfInBounds_toArray, List.set_cons_succ, List.set_cons_zero]
  refine Rg.wpD_load 4 (v := ?_) (by simp only [List.getElem?_toArray, List.getElem?_cons_succ, List.getElem?_cons_zero]; rfl) (by kernel_rfl) (by kernel_rfl) (by intro _ _ _ h; exact h) HeldS (by rfl) (fun wz hz => ?_) ?_
  rotate_left
  · first | (go_simp; done) | (go_simp; with_reducible rfl)
  simp only [Act.put, List.setIfInBounds_toArray, List.set_cons_succ, List.set_cons_zero]
  refine Rg.wpD_load 5 (v := ?_) (by simp only [List.getElem?_toArray, List.getElem?_cons_succ, List.getElem?_cons_zero]; rfl) (by kernel_rfl) (by kernel_rfl) (by intro _ _ _ h; exact h) HeldS (by rfl) (fun wz hz => ?_) ?_
  rotate_left
  · first | (go_simp; done) | (go_simp; with_reducible rfl)
  simp only [Act.put, List.setIfInBounds_toArray, List.set_cons_succ, List.set_cons_zero]
  refine Rg.wpD_do 6 (by kernel_rfl) (by simp only [List.getElem?_toArray, List.getElem?_cons_succ, List.getElem?_cons_zero]; rfl) (fun K hK => ?_)
  go_simp
  go_at_call 20
  refine Calls.mono hp ?_
  clear hp
  rintro e w6 ⟨rfl, p', hS6, ht6, hC6⟩
  refine hK _ _ (fun h => absurd h (by decide)) ?_
  clear hK K HeldS a0 a1 a2 a3 a4 a5 a6 a7
  refine Rg.wpD_done (by kernel_rfl) ?_
  have hdr : Chg b X X.drew := ⟨rfl, rfl, rfl, Nat.le_refl _, fun _ _ _ => rfl⟩
  have FIN : Hid (ST w6 b (newL l s) ∧ Chg b w w6) := by
    refine ⟨⟨p', ?_, ?_⟩, (hC2.trans hdr).trans hC6⟩
    · rw [HNL.out.2.2.1, HLN.out]; push_cast; exact hS6
    · rw [HNL.out.2.1]; exact ht6.mono (fun _ _ => trivial)
  clear hS6 ht6 hC6 hC2 hdr
  go_wp2
  go_ret
  exact ⟨rfl, FIN.out⟩

theorem HAt.put8 {W : World} {B : Nat} {h : He} (k : HAt W B h) (m : Int) : HAt (W.setCell ⟨B, 8, none⟩ (.int .i64 m)) B (h.1, m) := blk_put k 8 _
theorem add_len (l : List He) (i d : Int) : (addL l i d).length = l.length := by
  cases e : lookV (atV l) i with
  | none => rw [addL_off e]
  | some x =>
    obtain ⟨k, rfl, hk⟩ := lookV_some e
    rw [addL_at hk, List.length_set]
theorem live_add {l : List He} {k : Nat} {x : He} (hk : atV l k = some x) {d : Int} : liveN (addL l k d) + 1 = liveN l + (if 0 < x.2 + d then 1 else 0) := by
  obtain ⟨h1, h2⟩ := atV_some hk
  have := live_set l k x (x.1, x.2 + d) h1
  rw [addL_at hk]
  rw [if_pos h2] at this
  exact this

set_option maxRecDepth 100000 in
set_option maxHeartbeats 2000000 in
theorem add_any (b n : Nat) (l : List He) (i d : Int) (w : World) (hn : n ≤ 100000) (hf : Few n l) (hd : d = 1 ∨ d = -1) (hi : i ≤ 9223372036854775807) (hS : ST w b l) :
    Calls Try.prog 21 #[.pointer (some ⟨b, 0, none⟩), .int .i64 i, .int .i64 d] w fun e w' => e = .returned (.int .i64 (addR l i)) ∧ ST w' b (addL l i d) ∧ Chg b w w' := by
  have hST := hS
  obtain ⟨p, hS, ht⟩ := hS
  have hfi := find_any _ b p _ i w hi hS.cells.1.1 ht
  have hlv := live_le l
  have hll := hf.len
  have hblt := hS.lt
  cases e : lookV (atV l) i with
  | none =>
    have hR : Hid (addR l i = 6 ∧ addL l i d = l) := ⟨by unfold addR; rw [e], addL_off e⟩
    rw [e] at hfi
    have HS : Hid (ST w b l) := hST
    clear hST hS ht e hf
    go_enter Try.func21, Try.ntmps21
    go_wp2_with fail
    refine hfi.mono ?_
    clear hfi
    rintro e w2 ⟨rfl, hb2⟩
    have hb3 : Below w2.heap.size w2 (w2.alloc (.cells (heL zeroH).toArray 53)) := (Below.refl _ _).alloc (Nat.le_refl _) _
    have hb4 := hb2.trans (hb3.mono hb2.size)
    simp only [heL] at hb4
    clear hb2 hb3
    go_wp2
    go_ret
    rw [hR.out.1, hR.out.2]
    exact ⟨rfl, HS.out.next hb4, Chg.of_below hb4⟩
  | some x =>
    obtain ⟨k, rfl, hk⟩ := lookV_some e
    obtain ⟨h1, h2⟩ := atV_some hk
    obtain ⟨h3, h4⟩ := hf.at h1
    have hat := at_add hk d
    have hla := live_add hk (d := d)
    have hle := add_len l k d
    have hR : addR l k = 0 := by unfold addR; rw [e]
    rw [e] at hfi
    simp only [Option.getD_some, Option.isSome_some] at hfi
    have hks : (atV l k).isSome = true := by rw [hk]; rfl
    have HF : Hid (_ ∧ _ ∧ _ ∧ _ ∧ _ ∧ _ ∧ _) := ⟨hat, hla, hle, hR, hks, hi, hlv⟩
    clear hST e hf h1 hat hla hle hR hks hi hk
    go_enter Try.func21, Try.ntmps21
    go_wp2_with fail
    refine hfi.mono ?_
    clear hfi
    rintro e w2 ⟨rfl, hb2⟩
    have hb3 : Below w2.heap.size w2 (w2.alloc (.cells (heL x).toArray 53)) := (Below.refl _ _).alloc (Nat.le_refl _) _
    have hb4 := hb2.trans (hb3.mono hb2.size)
    have hH := HAt.new w2 x
    have hS4 := hS.next hb4
    have ht4 := ht.low.next hb4
    have hC4 : Chg b w _ := Chg.of_below hb4
    have hbB : b ≠ w2.heap.size := by have := hb2.size; omega
    have hlo : w.heap.size ≤ w2.heap.size := hb2.size
    simp only [heL] at hb4 hH hS4 ht4 hC4
    clear hb2 hb3 hb4 hS ht
    go_upto_region 4 with fail
    generalize w2.alloc _ = X at *
    generalize w2.heap.size = B at *
    have h0m : 0 ≤ x.2 + d := by omega
    obtain ⟨a0, a1, a2, a3, a4, a5, a6, a7, a8⟩ := hH.cells
    obtain ⟨f0, f1, f2, f3, f4, f5, f6, f7, f8⟩ := hH.thaw
    have hH5 := hH.put8 (x.2 + d)
    have g5 := grown_set X B 8 (.int .i64 (x.2 + d))
    have hS5 : StAt (X.setCell ⟨B, 8, none⟩ (.int .i64 (x.2 + d))) b p (liveN l) l.length := Blk.kept hS4 g5 (fun e => hbB (Option.some.inj e))
    have ht5 : Tr (fun r => True ∧ r < w.heap.size) (X.setCell ⟨B, 8, none⟩ (.int .i64 (x.2 + d))) p (atV l) := ht4.kept (fun r hr hlt => g5.block r hlt (fun e => by have := Option.some.inj e; omega))
    have hC5 : Chg b w (X.setCell ⟨B, 8, none⟩ (.int .i64 (x.2 + d))) := ⟨g5.os.trans hC4.os, g5.tape.trans hC4.tape, g5.output.trans hC4.output, by have := g5.size; have := hC4.size; omega, fun r hr hne => (g5.block r (Nat.lt_of_lt_of_le hr hC4.size) (fun e => by have := Option.some.inj e; omega)).trans (hC4.block r hr hne)⟩
    clear hH hS4 ht4 hC4 g5
    go_upto_region 5 with fail
    clear a0 a1 a2 a3 a4 a5 a6 a7 a8 f0 f1 f2 f3 f4 f5 f6 f7 f8
    generalize X.setCell _ _ = Y at *
    generalize hm : x.2 + d = m at h0m hH5 ⊢
    have HM : Hid (x.2 + d = m ∧ 0 ≤ m) := ⟨hm, h0m⟩
    clear hm
    obtain ⟨a0, a1, a2, a3, a4, a5, a6, a7, a8⟩ := hH5.cells
    clear hH5
    by_cases hm0 : m = 0
    · subst hm0
      have hd := drop_any _ b p (atV l) k (liveN l) l.length Y HF.out.2.2.2.2.2.1 ⟨by omega, by omega⟩ hS5 ht5 HF.out.2.2.2.2.1
      clear hS5 ht5
      go_wp2_with fail
      go_at_call 25
      refine Calls.mono hd ?_
      clear hd a0 a1 a2 a3 a4 a5 a6 a7 a8
      rintro e w6 ⟨rfl, p', hS6, ht6, hC6⟩
      have FIN : Hid (ST w6 b (addL l k d) ∧ Chg b w w6) := by
        refine ⟨⟨p', ?_, ?_⟩, hC5.trans hC6⟩
        · have h := HF.out.2.1
          rw [HM.out.1, if_neg (by decide)] at h
          rw [HF.out.2.2.1]
          rw [show ((liveN (addL l k d) : Nat) : Int) = (liveN l : Int) - 1 by omega]
          exact hS6
        · rw [HF.out.1, HM.out.1, if_neg (by decide)]
          exact ht6.mono (fun _ _ => trivial)
      clear hS6 ht6 hC6 hC5
      go_wp2
      go_ret
      rw [HF.out.2.2.2.1]
      exact ⟨rfl, FIN.out⟩
    · have hp := put_any _ b p (atV l) k (x.1, m) (liveN l) l.length (liveN l) (by rw [HF.out.2.2.2.2.1]; rfl) Y.drew HF.out.2.2.2.2.2.1 ⟨by omega, by omega⟩ (show StAt Y.drew b p _ _ from hS5) ht5.drew
      have dm : (m == 0) = false := by simpa using hm0
      have HMP : Hid (0 < m) := by show 0 < m; have := HM.out.2; omega
      clear hS5 ht5
      go_upto_region 7 with fail
      have HeldS : Y.drew.cell? ⟨B, 0, none⟩ = some (.int .i64 (x.1 0)) ∧ Y.drew.cell? ⟨B, 1, none⟩ = some (.int .i64 (x.1 1)) ∧ Y.drew.cell? ⟨B, 2, none⟩ = some (.int .i64 (x.1 2)) ∧ Y.drew.cell? ⟨B, 3, none⟩ = some (.int .i64 (x.1 3)) ∧ Y.drew.cell? ⟨B, 4, none⟩ = some (.int .i64 (x.1 4)) ∧ Y.drew.cell? ⟨B, 5, none⟩ = some (.int .i64 (x.1 5)) ∧ Y.drew.cell? ⟨B, 6, none⟩ = some (.int .i64 (x.1 6)) ∧ Y.drew.cell? ⟨B, 7, none⟩ = some (.int .i64 (x.1 7)) ∧ Y.drew.cell? ⟨B, 8, none⟩ = some (.int .i64 m) := ⟨a0, a1, a2, a3, a4, a5, a6, a7, a8⟩
      refine Rg.wpD_begin [0, 1, 2, 3, 4] (fun Z => Z.cell? ⟨B, 0, none⟩ = some (.int .i64 (x.1 0)) ∧ Z.cell? ⟨B, 1, none⟩ = some (.int .i64 (x.1 1)) ∧ Z.cell? ⟨B, 2, none⟩ = some (.int .i64 (x.1 2)) ∧ Z.cell? ⟨B, 3, none⟩ = some (.int .i64 (x.1 3)) ∧ Z.cell? ⟨B, 4, none⟩ = some (.int .i64 (x.1 4)) ∧ Z.cell? ⟨B, 5, none⟩ = some (.int .i64 (x.1 5)) ∧ Z.cell? ⟨B, 6, none⟩ = some (.int .i64 (x.1 6)) ∧ Z.cell? ⟨B, 7, none⟩ = some (.int .i64 (x.1 7)) ∧ Z.cell? ⟨B, 8, none⟩ = some (.int .i64 m)) (by kernel_rfl) ?_
      refine Rg.wpD_load 0 (v := ?_) (by simp only [List.getElem?_toArray, List.getElem?_cons_zero]; rfl) (by kernel_rfl) (by kernel_rfl) (by intro _ _ _ h; exact h) HeldS (by rfl) (fun wz hz => ?_) ?_
      rotate_left
      · first | (go_simp; done) | (go_simp; with_reducible rfl)
      simp only [Act.put, List.setIfInBounds_toArray, List.set_cons_succ, List.set_cons_zero]
      refine Rg.wpD_load 1 (v := ?_) (by simp only [List.getElem?_toArray, List.getElem?_cons_succ, List.getElem?_cons_zero]; rfl) (by kernel_rfl) (by kernel_rfl) (by intro _ _ _ h; exact h) HeldS (by rfl) (fun wz hz => ?_) ?_
      rotate_left
      · first | (go_simp; done) | (go_simp; with_reducible rfl)
      simp only [Act.put, List.setIfInBounds_toArray, List.set_cons_succ, List.set_cons_zero]
      refine Rg.wpD_load 2 (v := ?_) (by simp only [List.getElem?_toArray, List.getElem?_cons_succ, List.getElem?_cons_zero]; rfl) (by kernel_rfl) (by kernel_rfl) (by intro _ _ _ h; exact h) HeldS (by rfl) (fun wz hz => ?_) ?_
      rotate_left
      · first | (go_simp; done) | (go_simp; with_reducible rfl)
      simp only [Act.put, List.setIfInBounds_toArray, List.set_cons_succ, List.set_cons_zero]
      refine Rg.wpD_load 3 (v := ?_) (by simp only [List.getElem?_toArray, List.getElem?_cons_succ, List.getElem?_cons_zero]; rfl) (by kernel_rfl) (by kernel_rfl) (by intro _ _ _ h; exact h) HeldS (by rfl) (fun wz hz => ?_) ?_
      rotate_left
      · first | (go_simp; done) | (go_simp; with_reducible rfl)
      simp only [Act.put, List.setIfInBounds_toArray, List.set_cons_succ, List.set_cons_zero]
      refine Rg.wpD_load 4 (v := ?_) (by simp only [List.getElem?_toArray, List.getElem?_cons_succ, List.getElem?_cons_zero]; rfl) (by kernel_rfl) (by kernel_rfl) (by intro _ _ _ h; exact h) HeldS (by rfl) (fun wz hz => ?_) ?_
      rotate_left
      · first | (go_simp; done) | (go_simp; with_reducible rfl)
      simp only [Act.put, List.setIfInBounds_toArray, List.set_cons_succ, List.set_cons_zero]
      refine Rg.wpD_do 5 (by kernel_rfl) (by simp only [List.getElem?_toArray, List.getElem?_cons_succ, List.getElem?_cons_zero]; rfl) (fun K hK => ?_)
      go_simp
      go_at_call 20
      refine Calls.mono hp ?_
      clear hp
      rintro e w6 ⟨rfl, p', hS6, ht6, hC6⟩
      refine hK _ _ (fun h => absurd h (by decide)) ?_
      clear hK K HeldS a0 a1 a2 a3 a4 a5 a6 a7 a8
      refine Rg.wpD_done (by kernel_rfl) ?_
      have hdr : Chg b Y Y.drew := ⟨rfl, rfl, rfl, Nat.le_refl _, fun _ _ _ => rfl⟩
      have FIN : Hid (ST w6 b (addL l k d) ∧ Chg b w w6) := by
        refine ⟨⟨p', ?_, ?_⟩, (hC5.trans hdr).trans hC6⟩
        · have h := HF.out.2.1
          rw [HM.out.1, if_pos HMP.out] at h
          rw [HF.out.2.2.1]
          rw [show ((liveN (addL l k d) : Nat) : Int) = (liveN l : Int) by omega]
          exact hS6
        · rw [HF.out.1, HM.out.1, if_pos HMP.out]
          exact ht6.mono (fun _ _ => trivial)
      clear hS6 ht6 hC6 hC5 hdr
      go_wp2
      go_ret
      rw [HF.out.2.2.2.1]
      exact ⟨rfl, FIN.out⟩

set_option maxRecDepth 100000 in
theorem hold_any (b n : Nat) (l : List He) (i : Int) (w : World) (hn : n ≤ 100000) (hf : Few n l) (hi : i ≤ 9223372036854775807) (hS : ST w b l) :
    Calls Try.prog 10 #[.pointer (some ⟨b, 0, none⟩), .int .i64 i] w fun e w' => e = .returned (.int .i64 (addR l i)) ∧ ST w' b (addL l i 1) ∧ Chg b w w' := by
  have ha := add_any b n l i 1 w hn hf (.inl rfl) hi hS
  clear hf hS hi
  generalize addR l i = R at *
  go_enter Try.func10, Try.ntmps10
  go_wp2_with fail
  go_at_call 21
  refine Calls.mono ha ?_
  clear ha
  rintro e w2 ⟨rfl, h2, c2⟩
  go_wp2
  go_ret
  exact ⟨rfl, h2, c2⟩
set_option maxRecDepth 100000 in
theorem release_any (b n : Nat) (l : List He) (i : Int) (w : World) (hn : n ≤ 100000) (hf : Few n l) (hi : i ≤ 9223372036854775807) (hS : ST w b l) :
    Calls Try.prog 12 #[.pointer (some ⟨b, 0, none⟩), .int .i64 i] w fun e w' => e = .returned (.int .i64 (addR l i)) ∧ ST w' b (addL l i (-1)) ∧ Chg b w w' := by
  have ha := add_any b n l i (-1) w hn hf (.inr rfl) hi hS
  clear hf hS hi
  generalize addR l i = R at *
  go_enter Try.func12, Try.ntmps12
  go_wp2_with fail
  go_at_call 21
  refine Calls.mono ha ?_
  clear ha
  rintro e w2 ⟨rfl, h2, c2⟩
  go_wp2
  go_ret
  exact ⟨rfl, h2, c2⟩

end Go.Proofs.Ytiaomdlfccpcmaa.Sto
