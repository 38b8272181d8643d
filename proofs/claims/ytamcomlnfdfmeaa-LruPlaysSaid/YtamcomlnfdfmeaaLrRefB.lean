/- The document's own cache: Get, Put, Keys at every cache. -/
import Derived.Test.YtamcomlnfdfmeaaLrRef
namespace Go.Proofs.Ytamcomlnfdfmeaa.Lr
open Go Go.RowKit Go.Shelf Sl
attribute [local go_sem] Oper.semAt_some

theorem lit_row (w : World) (t : TypeId) (a c : Value) : (w.alloc (.cells #[a, c] t)).ownsRow w.heap.size t 2 (.slice (some ⟨w.heap.size, 0, none⟩) 1 1) 1 [a, c] :=
  ⟨rfl, .inr ⟨w.heap.size, 1, #[a, c], rfl, Nat.le_refl _, World.alloc_heap_new w _, Nat.le_refl _, by unfold maxLen; omega, rfl, rfl⟩⟩
theorem out_none {l : List En} {k : Int} (h : hasV l k = none) : outV k l = l := out_same (has_none h)
/-- k's entry is laid ahead of the others: what lies then, ahead of the store. -/
theorem led_row {w1 w2 w3 : World} {b s : Nat} {v v3 : Value} {l : List En} {k x : Int} (h : RV w1 b s v (outV k l)) (h2 : w1.alloc (.cells #[.int .i64 k, .int .i64 x] 49) = w2)
    (o3 : w3.ownsRow w1.heap.size 49 2 v3 (1 + (outV k l).length) ([.int .i64 k, .int .i64 x] ++ flat (outV k l))) (g3 : w2.grownBy w3 (some w1.heap.size)) :
    (w3.cell? ⟨b, 1, none⟩ = some v ∧ w3.cell? ⟨b, 0, none⟩ = some (.int .i64 s) ∧ w3.frozen? ⟨b, 1, none⟩ = false) ∧ RE w3 v3 (ledV l k x) ∧ w3.heap[b]? = some (.cells #[.int .i64 s, v] 47 (0, 0)) ∧ Below w1.heap.size w1 w3 := by
  have hlt := h.lt
  have hb : Below w1.heap.size w1 w3 := by
    refine ((Below.refl _ w1).alloc (Nat.le_refl _) (.cells #[.int .i64 k, .int .i64 x] 49)).grown (by rw [h2]; exact g3) (by simp) (fun r e => by cases e; exact Nat.le_refl _)
  have h3 : RV w3 b s v (outV k l) := h.next hb
  refine ⟨⟨h3.cells.2.1, h3.cells.1, h3.cells.2.2⟩, ?_, h3.blk, hb⟩
  unfold RE EntR
  rw [show (ledV l k x).length = 1 + (outV k l).length by simp [ledV]; omega]
  exact owns_baseL o3 (Nat.zero_le _)

set_option maxRecDepth 100000 in
set_option maxHeartbeats 1000000 in
theorem refGet_any (b s : Nat) (l : List En) (k : Int) (w : World) (h : RC w b s l) :
    Calls Try.prog 12 #[.pointer (some ⟨b, 0, none⟩), .int .i64 k] w fun e w' => e = .returned (.tuple #[.int .i64 (getR l k).1, .bool (getR l k).2]) ∧ RC w' b s (getL l k) ∧ Fr (fun r => r = b) (fun r => r = b) w w' := by
  obtain ⟨v, hv⟩ := h
  have ht := take_any b s v l k w hv
  have HG : Hid (Good s l ∧ Good s (getL l k)) := ⟨hv.good, hv.good.get k⟩
  obtain ⟨i0, hi, hz0, hz1, hz2⟩ := info_of infoRn
  have hfew : (outV k l).length ≤ 1024 := Nat.le_trans (out_len k l) hv.few
  clear hv
  cases hh : hasV l k with
  | none =>
    have hR : getR l k = (0, false) := by unfold getR; rw [hh]
    have hL : getL l k = l := by unfold getL; rw [hh]
    have hO := out_none hh
    rw [hR, hO] at ht
    rw [hR, hL]
    clear hR hL hO hh
    go_enter Try.func12, Try.ntmps12
    go_wp2_with fail
    go_at_call 18
    refine Calls.mono ht ?_
    clear ht
    rintro e w1 ⟨rfl, v1, h1, f1⟩
    go_wp2
    go_ret2
    exact ⟨rfl, ⟨_, h1⟩, f1⟩
  | some e0 =>
    have hR : getR l k = (e0.2, true) := by unfold getR; rw [hh]
    have hL : getL l k = ledV l k e0.2 := by unfold getL; rw [hh]
    rw [hL] at HG
    rw [hR] at ht
    rw [hR, hL]
    clear hR hL hh
    go_enter Try.func12, Try.ntmps12
    go_wp2_with fail
    go_at_call 18
    refine Calls.mono ht ?_
    clear ht
    rintro e w1 ⟨rfl, v1, h1, f1⟩
    have H1 : Hid (_ ∧ _) := ⟨h1, f1⟩
    obtain ⟨w2, hw2⟩ : ∃ w2, w1.alloc (.cells #[.int .i64 k, .int .i64 e0.2] 49) = w2 := ⟨_, rfl⟩
    have HW : Hid (_ = _) := hw2
    have b2 : Below w1.heap.size w1 w2 := by rw [← hw2]; exact (Below.refl _ _).alloc (Nat.le_refl _) _
    have h2 : RV w2 b s v1 (outV k l) := h1.next b2
    have hlit : w2.ownsRow w1.heap.size 49 2 (.slice (some ⟨w1.heap.size, 0, none⟩) 1 1) 1 [.int .i64 k, .int .i64 e0.2] := by rw [← hw2]; exact lit_row _ _ _ _
    have hsrc := owns_src h2.row
    obtain ⟨_, c1, _⟩ := h2.cells
    have hb2 := b2.size
    obtain ⟨m, hm⟩ : ∃ m, (outV k l).length = m := ⟨_, rfl⟩
    have HM : Hid ((outV k l).length = m) := hm
    have hfl := flat_len (outV k l)
    rw [hm] at hsrc hfew hfl
    have HF1 : Hid (∀ v3 w3, w3.ownsRow w1.heap.size 49 2 v3 (1 + m) ([.int .i64 k, .int .i64 e0.2] ++ flat (outV k l)) → w2.grownBy w3 (some w1.heap.size) →
        (w3.cell? ⟨b, 1, none⟩ = some v1 ∧ w3.frozen? ⟨b, 1, none⟩ = false) ∧ (RV (w3.setCell ⟨b, 1, none⟩ v3) b s v3 (ledV l k e0.2) ∧ Fr (fun r => r = b) (fun r => r = b) w (w3.setCell ⟨b, 1, none⟩ v3))) := by
      intro v3 w3 o3 g3
      rw [← hm] at o3
      obtain ⟨⟨z1, z0, z2⟩, z3, z4, z5⟩ := led_row h1 hw2 o3 g3
      refine ⟨⟨z1, z2⟩, (h1.next z5).set (by decide) z3 HG.out.2, ?_⟩
      have hbl := h1.lt
      refine (f1.trans ((Fr.of_below z5 (fun r e => by rw [e]; exact hbl)).names (E := fun r => r = b) (E' := fun r => r = b) (fun _ e => e) (fun r e => ⟨.inl e, by have := z5.size; omega⟩))).grown (setCell_grown _ _ _ _) (fun r e => by cases e; exact .inl rfl)
    have hbw := h1.lt
    clear h1 f1 b2 h2 hm
    go_wp2_with (at_builtin; refine Rg.wpList_append_src _ rfl _ _ 45 rfl w1.heap.size 49 i0 _ 2 16 Try.underlying45 hi hz0 hz1 hz2 rfl (by decide) (.slice (some ⟨w1.heap.size, 0, none⟩) 1 1) 1 [.int .i64 k, .int .i64 e0.2] rfl hlit v1 m (flat (outV k l)) rfl hfl hsrc flat_one (by unfold maxLen; omega) (by omega) hb2 ?_; intro v3 w3 hown3 hgrow3; obtain ⟨⟨z1, z2⟩, z3⟩ := HF1.out v3 w3 hown3 hgrow3; have Z : Hid (_ ∧ _) := z3; clear z3; obtain ⟨q3, c3, rfl⟩ := owns_form hown3)
    go_wp2
    go_ret2
    exact ⟨rfl, ⟨_, Z.out.1⟩, Z.out.2⟩

theorem led_over {s : Nat} {l : List En} (hg : Good s l) (k x : Int) : (ledV l k x).length ≤ s + 1 := Nat.le_trans (led_len l k x) (by have := hg.few; omega)

set_option maxRecDepth 100000 in
set_option maxHeartbeats 1000000 in
theorem refPut_any (b s : Nat) (l : List En) (k x : Int) (w : World) (h : RC w b s l) :
    Calls Try.prog 10 #[.pointer (some ⟨b, 0, none⟩), .int .i64 k, .int .i64 x] w fun e w' => e = .returned (.tuple #[.int .i64 (putR s l k x).1, .bool (putR s l k x).2]) ∧ RC w' b s (putL s l k x) ∧ Fr (fun r => r = b) (fun r => r = b) w w' := by
  obtain ⟨v, hv⟩ := h
  have ht := take_any b s v l k w hv
  have HG : Hid (Good s l ∧ Good s (putL s l k x) ∧ (ledV l k x).length ≤ s + 1) := ⟨hv.good, hv.good.put k x, led_over hv.good k x⟩
  obtain ⟨i0, hi, hz0, hz1, hz2⟩ := info_of infoRn
  have hfew : (outV k l).length ≤ 1024 := Nat.le_trans (out_len k l) hv.few
  have hsm := hv.small
  generalize getR l k = RR at *
  clear hv
  go_enter Try.func10, Try.ntmps10
  go_wp2_with fail
  go_at_call 18
  refine Calls.mono ht ?_
  clear ht
  rintro e w1 ⟨rfl, v1, h1, f1⟩
  obtain ⟨w2, hw2⟩ : ∃ w2, w1.alloc (.cells #[.int .i64 k, .int .i64 x] 49) = w2 := ⟨_, rfl⟩
  have b2 : Below w1.heap.size w1 w2 := by rw [← hw2]; exact (Below.refl _ _).alloc (Nat.le_refl _) _
  have h2 : RV w2 b s v1 (outV k l) := h1.next b2
  have hlit : w2.ownsRow w1.heap.size 49 2 (.slice (some ⟨w1.heap.size, 0, none⟩) 1 1) 1 [.int .i64 k, .int .i64 x] := by rw [← hw2]; exact lit_row _ _ _ _
  have hsrc := owns_src h2.row
  obtain ⟨_, c1, _⟩ := h2.cells
  have hb2 := b2.size
  obtain ⟨m, hm⟩ : ∃ m, (outV k l).length = m := ⟨_, rfl⟩
  have hled : (ledV l k x).length = m + 1 := by simp [ledV, hm]
  have hms : m ≤ s := by have := HG.out.2.2; omega
  have HM : Hid ((outV k l).length = m ∧ (ledV l k x).length = m + 1) := ⟨hm, hled⟩
  have hfl := flat_len (outV k l)
  rw [hm] at hsrc hfew hfl
  have HF1 : Hid (∀ v3 w3, w3.ownsRow w1.heap.size 49 2 v3 (1 + m) ([.int .i64 k, .int .i64 x] ++ flat (outV k l)) → w2.grownBy w3 (some w1.heap.size) →
      (w3.cell? ⟨b, 1, none⟩ = some v1 ∧ w3.frozen? ⟨b, 1, none⟩ = false) ∧ (w3.setCell ⟨b, 1, none⟩ v3).heap[b]? = some (.cells #[.int .i64 s, v3] 47 (0, 0)) ∧ RE (w3.setCell ⟨b, 1, none⟩ v3) v3 (ledV l k x) ∧ Fr (fun r => r = b) (fun r => r = b) w (w3.setCell ⟨b, 1, none⟩ v3)) := by
    intro v3 w3 o3 g3
    rw [← hm] at o3
    obtain ⟨⟨z1, z0, z2⟩, z3, z4, z5⟩ := led_row h1 hw2 o3 g3
    have hbl := h1.lt
    have hblk := (Array.getElem?_eq_some_iff.1 z4).2
    refine ⟨⟨z1, z2⟩, ?_, z3.kept (fun r e => ?_), ?_⟩
    · have hlt : b < w3.heap.size := (Array.getElem?_eq_some_iff.1 z4).1
      simp [World.setCell, hlt, Array.getElem_modify, hblk]
    · have hne : r ≠ b := fun e' => z3.ne z4 (by decide) (by rw [e, e'])
      exact (setCell_grown _ _ _ _).block r (z3.lt e) (fun e' => hne (Option.some.inj e'))
    · refine (f1.trans ((Fr.of_below z5 (fun r e => by rw [e]; exact hbl)).names (E := fun r => r = b) (E' := fun r => r = b) (fun _ e => e) (fun r e => ⟨.inl e, by have := z5.size; omega⟩))).grown (setCell_grown _ _ _ _) (fun r e => by cases e; exact .inl rfl)
  have hbw := h1.lt
  clear h1 f1 b2 h2 hm hled
  go_upto_region 3 with (at_builtin; refine Rg.wpList_append_src _ rfl _ _ 45 rfl w1.heap.size 49 i0 _ 2 16 Try.underlying45 hi hz0 hz1 hz2 rfl (by decide) (.slice (some ⟨w1.heap.size, 0, none⟩) 1 1) 1 [.int .i64 k, .int .i64 x] rfl hlit v1 m (flat (outV k l)) rfl hfl hsrc flat_one (by unfold maxLen; omega) (by omega) hb2 ?_; intro v3 w3 hown3 hgrow3; obtain ⟨⟨z1, z2⟩, z3⟩ := HF1.out v3 w3 hown3 hgrow3; have Z : Hid (_ ∧ _ ∧ _) := z3; clear z3; obtain ⟨q3, c3, rfl⟩ := owns_form hown3)
  obtain ⟨X, hX⟩ : ∃ X, w3.setCell ⟨b, 1, none⟩ (.slice q3 (1 + m) c3) = X := ⟨_, rfl⟩
  rw [hX] at Z ⊢
  obtain ⟨M, hM⟩ : ∃ M, 1 + m = M := ⟨_, rfl⟩
  rw [hM] at Z ⊢
  have a0 : X.cell? ⟨b, 0, none⟩ = some (.int .i64 s) := by simp [World.cell?, Z.out.1]
  have a1 : X.cell? ⟨b, 1, none⟩ = some (.slice q3 M c3) := by simp [World.cell?, Z.out.1]
  have a2 : X.frozen? ⟨b, 1, none⟩ = false := by simp [World.frozen?, Z.out.1]
  have hMl : (ledV l k x).length = M := by rw [HM.out.2]; omega
  have hMs : M ≤ s + 1 := by omega
  clear hX hown3 hgrow3 z1 z2 hlit hsrc c1 hb2 hfl HF1 hw2 HM hfew hms
  by_cases hc : s < M
  · obtain rfl : M = s + 1 := by omega
    obtain ⟨e, he⟩ : ∃ e, (ledV l k x)[s]? = some e := ⟨_, List.getElem?_eq_getElem (by omega)⟩
    obtain ⟨g, rfl, a3, _⟩ := Z.out.2.1.get he
    have hR : Hid (putR s l k x = (e.1, true)) := by show _ = _; unfold putR; rw [he]
    have hcap : Hid ((s : Int) ≤ (c3 : Int)) := by
      have := Z.out.2.1
      rcases this.2 with ⟨h0, _⟩ | ⟨g', c', cur, e', _, _, h1, _⟩
      · cases h0
      · cases e'; show _ ≤ _; omega
    have d : decide ((s : Int) < (s : Int) + 1) = true := decide_eq_true (by omega)
    have hlt1 : (s : Int) < (s : Int) + 1 := by omega
    have hwr : IntKind.i64.wrap (s : Int) = (s : Int) := by rw [IntKind.wrap_i64]; omega
    have FIN : Hid (RV (X.setCell ⟨b, 1, none⟩ (.slice (some ⟨g, 0, none⟩) s c3)) b s (.slice (some ⟨g, 0, none⟩) s c3) (putL s l k x) ∧ Fr (fun r => r = b) (fun r => r = b) w (X.setCell ⟨b, 1, none⟩ (.slice (some ⟨g, 0, none⟩) s c3))) := by
      have hrow : RE X (.slice (some ⟨g, 0, none⟩) s c3) (putL s l k x) := by
        have h := owns_prefix (n := s) (show X.ownsRow 0 49 2 (.slice (some ⟨g, 0, none⟩) (s + 1) c3) (s + 1) (flat (ledV l k x)) from by
          have h := Z.out.2.1
          unfold RE EntR at h
          rwa [hMl] at h) hMl.symm (by omega)
        unfold RE EntR
        rw [show (putL s l k x).length = s by unfold putL; rw [List.length_take]; omega]
        exact h
      refine ⟨⟨?_, hrow.kept (fun r e' => ?_), HG.out.2.1, hsm⟩, Z.out.2.2.grown (setCell_grown _ _ _ _) (fun r e' => by cases e'; exact .inl rfl)⟩
      · have hlt : b < X.heap.size := (Array.getElem?_eq_some_iff.1 Z.out.1).1
        have hblk := (Array.getElem?_eq_some_iff.1 Z.out.1).2
        simp [World.setCell, hlt, Array.getElem_modify, hblk]
      · have hne : r ≠ b := fun e2 => hrow.ne Z.out.1 (by decide) (by rw [e', e2])
        exact (setCell_grown _ _ _ _).block r (hrow.lt e') (fun e2 => hne (Option.some.inj e2))
    clear he hMl hMs hc
    have HeldS : X.drew.cell? ⟨b, 0, none⟩ = some (.int .i64 s) ∧ X.drew.cell? ⟨b, 1, none⟩ = some (.slice (some ⟨g, 0, none⟩) (s + 1) c3) := ⟨a0, a1⟩
    refine Rg.wpD_begin [0, 1, 2, 3, 4, 5, 6, 7, 8, 9] (fun Y => Y.cell? ⟨b, 0, none⟩ = some (.int .i64 s) ∧ Y.cell? ⟨b, 1, none⟩ = some (.slice (some ⟨g, 0, none⟩) (s + 1) c3)) (by kernel_rfl) ?_
    refine Rg.wpD_load 0 (v := ?_) (by simp only [List.getElem?_toArray, List.getElem?_cons_zero]; rfl) (by kernel_rfl) (by kernel_rfl) (by intro _ _ _ h; exact h) HeldS (by rfl) (fun wz hz => ?_) ?_
    rotate_left
    · first | (go_simp; done) | (go_simp; with_reducible rfl)
    simp only [Act.put, List.setIfInBounds_toArray, List.set_cons_succ, List.set_cons_zero]
    refine Rg.wpD_load 1 (v := ?_) (by simp only [List.getElem?_toArray, List.getElem?_cons_succ, List.getElem?_cons_zero]; rfl) (by kernel_rfl) (by kernel_rfl) (by intro _ _ _ h; exact h) HeldS (by rfl) (fun wz hz => ?_) ?_
    rotate_left
    · first | (go_simp; done) | (go_simp; with_reducible rfl)
    simp only [Act.put, List.setIfInBounds_toArray, List.set_cons_succ, List.set_cons_zero]
    refine Rg.wpD_load 2 (v := ?_) (by simp only [List.getElem?_toArray, List.getElem?_cons_succ, List.getElem?_cons_zero]; rfl) (by kernel_rfl) (by kernel_rfl) (by intro _ _ _ h; exact h) HeldS (by rfl) (fun wz hz => ?_) ?_
    rotate_left
    · first | (go_simp; done) | (go_simp; with_reducible rfl)
    simp only [Act.put, List.setIfInBounds_toArray, List.set_cons_succ, List.set_cons_zero]
    refine Rg.wpD_load 3 (v := ?_) (by simp only [List.getElem?_toArray, List.getElem?_cons_succ, List.getElem?_cons_zero]; rfl) (by kernel_rfl) (by kernel_rfl) (by intro _ _ _ h; exact h) HeldS (by rfl) (fun wz hz => ?_) ?_
    rotate_left
    · first | (go_simp; done) | (go_simp; with_reducible rfl)
    simp only [Act.put, List.setIfInBounds_toArray, List.set_cons_succ, List.set_cons_zero]
    refine Rg.wpD_load 4 (v := ?_) (by simp only [List.getElem?_toArray, List.getElem?_cons_succ, List.getElem?_cons_zero]; rfl) (by kernel_rfl) (by kernel_rfl) (by intro _ _ _ h; exact h) HeldS (by rfl) (fun wz hz => ?_) ?_
    rotate_left
    · first | (go_simp; done) | (go_simp; with_reducible rfl)
    simp only [Act.put, List.setIfInBounds_toArray, List.set_cons_succ, List.set_cons_zero]
    refine Rg.wpD_load 5 (v := ?_) (by simp only [List.getElem?_toArray, List.getElem?_cons_succ, List.getElem?_cons_zero]; rfl) (by kernel_rfl) (by kernel_rfl) (by intro _ _ _ h; exact h) HeldS (by rfl) (fun wz hz => ?_) ?_
    rotate_left
    · first | (go_simp; done) | (go_simp; with_reducible rfl)
    simp only [Act.put, List.setIfInBounds_toArray, List.set_cons_succ, List.set_cons_zero]
    refine Rg.wpD_load 6 (v := ?_) (by simp only [List.getElem?_toArray, List.getElem?_cons_succ, List.getElem?_cons_zero]; rfl) (by kernel_rfl) (by kernel_rfl) (by intro _ _ _ h; exact h) HeldS (by rfl) (fun wz hz => ?_) ?_
    rotate_left
    · first | (go_simp; done) | (go_simp; with_reducible rfl)
    simp only [Act.put, List.setIfInBounds_toArray, List.set_cons_succ, List.set_cons_zero]
    refine Rg.wpD_load 7 (v := ?_) (by simp only [List.getElem?_toArray, List.getElem?_cons_succ, List.getElem?_cons_zero]; rfl) (by kernel_rfl) (by kernel_rfl) (by intro _ _ _ h; exact h) HeldS (by rfl) (fun wz hz => ?_) ?_
    rotate_left
    · first | (go_simp; done) | (go_simp; with_reducible rfl)
    simp only [Act.put, List.setIfInBounds_toArray, List.set_cons_succ, List.set_cons_zero]
    refine Rg.wpD_load 8 (v := ?_) (by simp only [List.getElem?_toArray, List.getElem?_cons_succ, List.getElem?_cons_zero]; rfl) (by kernel_rfl) (by kernel_rfl) (by intro _ _ _ h; exact h) HeldS (by rfl) (fun wz hz => ?_) ?_
    rotate_left
    · first | (go_simp; done) | (go_simp; with_reducible rfl)
    simp only [Act.put, List.setIfInBounds_toArray, List.set_cons_succ, List.set_cons_zero]
    refine Rg.wpD_load 9 (v := ?_) (by simp only [List.getElem?_toArray, List.getElem?_cons_succ, List.getElem?_cons_zero]; rfl) (by kernel_rfl) (by kernel_rfl) (by intro _ _ _ h; exact h) HeldS (by rfl) (fun wz hz => ?_) ?_
    rotate_left
    · first | (go_simp; done) | (go_simp; with_reducible rfl)
    simp only [Act.put, List.setIfInBounds_toArray, List.set_cons_succ, List.set_cons_zero]
    refine Rg.wpD_done (by kernel_rfl) ?_
    clear HeldS
    go_upto_region 4 with fail
    have HeldS : X.drew.drew.cell? ⟨b, 0, none⟩ = some (.int .i64 s) ∧ X.drew.drew.cell? ⟨b, 1, none⟩ = some (.slice (some ⟨g, 0, none⟩) (s + 1) c3) ∧ X.drew.drew.cell? ⟨g, s * 2, none⟩ = some (.int .i64 e.1) := ⟨a0, a1, a3⟩
    refine Rg.wpD_begin [0, 1, 2, 3, 4, 5, 6, 7, 8, 9, 10, 11, 12, 13] (fun Y => Y.cell? ⟨b, 0, none⟩ = some (.int .i64 s) ∧ Y.cell? ⟨b, 1, none⟩ = some (.slice (some ⟨g, 0, none⟩) (s + 1) c3) ∧ Y.cell? ⟨g, s * 2, none⟩ = some (.int .i64 e.1)) (by kernel_rfl) ?_
    refine Rg.wpD_load 0 (v := ?_) (by simp only [List.getElem?_toArray, List.getElem?_cons_zero]; rfl) (by kernel_rfl) (by kernel_rfl) (by intro _ _ _ h; exact h) HeldS (by rfl) (fun wz hz => ?_) ?_
    rotate_left
    · first | (go_simp; done) | (go_simp; with_reducible rfl)
    simp only [Act.put, List.setIfInBounds_toArray, List.set_cons_succ, List.set_cons_zero]
    refine Rg.wpD_load 1 (v := ?_) (by simp only [List.getElem?_toArray, List.getElem?_cons_succ, List.getElem?_cons_zero]; rfl) (by kernel_rfl) (by kernel_rfl) (by intro _ _ _ h; exact h) HeldS (by rfl) (fun wz hz => ?_) ?_
    rotate_left
    · first | (go_simp; done) | (go_simp; with_reducible rfl)
    simp only [Act.put, List.setIfInBounds_toArray, List.set_cons_succ, List.set_cons_zero]
    refine Rg.wpD_load 2 (v := ?_) (by simp only [List.getElem?_toArray, List.getElem?_cons_succ, List.getElem?_cons_zero]; rfl) (by kernel_rfl) (by kernel_rfl) (by intro _ _ _ h; exact h) HeldS (by rfl) (fun wz hz => ?_) ?_
    rotate_left
    · first | (go_simp; done) | (go_simp; with_reducible rfl)
    simp only [Act.put, List.setIfInBounds_toArray, List.set_cons_succ, List.set_cons_zero]
    refine Rg.wpD_load 3 (v := ?_) (by simp only [List.getElem?_toArray, List.getElem?_cons_succ, List.getElem?_cons_zero]; rfl) (by kernel_rfl) (by kernel_rfl) (by intro _ _ _ h; exact h) HeldS (by rfl) (fun wz hz => ?_) ?_
    rotate_left
    · first | (go_simp; done) | (go_simp; with_reducible rfl)
    simp only [Act.put, List.setIfInBounds_toArray, List.set_cons_succ, List.set_cons_zero]
    refine Rg.wpD_load 4 (v := ?_) (by simp only [List.getElem?_toArray, List.getElem?_cons_succ, List.getElem?_cons_zero]; rfl) (by kernel_rfl) (by kernel_rfl) (by intro _ _ _ h; exact h) HeldS (by rfl) (fun wz hz => ?_) ?_
    rotate_left
    · first | (go_simp; done) | (go_simp; with_reducible rfl)
    simp only [Act.put, List.setIfInBounds_toArray, List.set_cons_succ, List.set_cons_zero]
    refine Rg.wpD_load 5 (v := ?_) (by simp only [List.getElem?_toArray, List.getElem?_cons_succ, List.getElem?_cons_zero]; rfl) (by kernel_rfl) (by kernel_rfl) (by intro _ _ _ h; exact h) HeldS (by rfl) (fun wz hz => ?_) ?_
    rotate_left
    · first | (go_simp; done) | (go_simp; with_reducible rfl)
    simp only [Act.put, List.setIfInBounds_toArray, List.set_cons_succ, List.set_cons_zero]
    refine Rg.wpD_load 6 (v := ?_) (by simp only [List.getElem?_toArray, List.getElem?_cons_succ, List.getElem?_cons_zero]; rfl) (by kernel_rfl) (by kernel_rfl) (by intro _ _ _ h; exact h) HeldS (by rfl) (fun wz hz => ?_) ?_
    rotate_left
    · first | (go_simp; done) | (go_simp; with_reducible rfl)
    simp only [Act.put, List.setIfInBounds_toArray, List.set_cons_succ, List.set_cons_zero]
    refine Rg.wpD_load 7 (v := ?_) (by simp only [List.getElem?_toArray, List.getElem?_cons_succ, List.getElem?_cons_zero]; rfl) (by kernel_rfl) (by kernel_rfl) (by intro _ _ _ h; exact h) HeldS (by rfl) (fun wz hz => ?_) ?_
    rotate_left
    · first | (go_simp; done) | (go_simp; with_reducible rfl)
    simp only [Act.put, List.setIfInBounds_toArray, List.set_cons_succ, List.set_cons_zero]
    refine Rg.wpD_load 8 (v := ?_) (by simp only [List.getElem?_toArray, List.getElem?_cons_succ, List.getElem?_cons_zero]; rfl) (by kernel_rfl) (by kernel_rfl) (by intro _ _ _ h; exact h) HeldS (by rfl) (fun wz hz => ?_) ?_
    rotate_left
    · first | (go_simp; done) | (go_simp; with_reducible rfl)
    simp only [Act.put, List.setIfInBounds_toArray, List.set_cons_succ, List.set_cons_zero]
    refine Rg.wpD_load 9 (v := ?_) (by simp only [List.getElem?_toArray, List.getElem?_cons_succ, List.getElem?_cons_zero]; rfl) (by kernel_rfl) (by kernel_rfl) (by intro _ _ _ h; exact h) HeldS (by rfl) (fun wz hz => ?_) ?_
    rotate_left
    · first | (go_simp; done) | (go_simp; with_reducible rfl)
    simp only [Act.put, List.setIfInBounds_toArray, List.set_cons_succ, List.set_cons_zero]
    refine Rg.wpD_load 10 (v := ?_) (by simp only [List.getElem?_toArray, List.getElem?_cons_succ, List.getElem?_cons_zero]; rfl) (by kernel_rfl) (by kernel_rfl) (by intro _ _ _ h; exact h) HeldS (by rfl) (fun wz hz => ?_) ?_
    rotate_left
    · first | (go_simp; done) | (go_simp; with_reducible rfl)
    simp only [Act.put, List.setIfInBounds_toArray, List.set_cons_succ, List.set_cons_zero]
    refine Rg.wpD_load 11 (v := ?_) (by simp only [List.getElem?_toArray, List.getElem?_cons_succ, List.getElem?_cons_zero]; rfl) (by kernel_rfl) (by kernel_rfl) (by intro _ _ _ h; exact h) HeldS (by rfl) (fun wz hz => ?_) ?_
    rotate_left
    · first | (go_simp; done) | (go_simp; with_reducible rfl)
    simp only [Act.put, List.setIfInBounds_toArray, List.set_cons_succ, List.set_cons_zero]
    refine Rg.wpD_load 12 (v := ?_) (by simp only [List.getElem?_toArray, List.getElem?_cons_succ, List.getElem?_cons_zero]; rfl) (by kernel_rfl) (by kernel_rfl) (by intro _ _ _ h; exact h) HeldS (by rfl) (fun wz hz => ?_) ?_
    rotate_left
    · first | (go_simp; done) | (go_simp; with_reducible rfl)
    simp only [Act.put, List.setIfInBounds_toArray, List.set_cons_succ, List.set_cons_zero]
    refine Rg.wpD_load 13 (v := ?_) (by simp only [List.getElem?_toArray, List.getElem?_cons_succ, List.getElem?_cons_zero]; rfl) (by kernel_rfl) (by kernel_rfl) (by intro _ _ _ h; exact h) HeldS (by rfl) (fun wz hz => ?_) ?_
    rotate_left
    · first | (go_simp; done) | (go_simp; with_reducible rfl)
    simp only [Act.put, List.setIfInBounds_toArray, List.set_cons_succ, List.set_cons_zero]
    refine Rg.wpD_done (by kernel_rfl) ?_
    clear HeldS
    go_upto_region 5 with fail
    have HeldS : X.drew.drew.drew.cell? ⟨b, 0, none⟩ = some (.int .i64 s) ∧ X.drew.drew.drew.cell? ⟨b, 1, none⟩ = some (.slice (some ⟨g, 0, none⟩) (s + 1) c3) ∧ X.drew.drew.drew.cell? ⟨g, s * 2, none⟩ = some (.int .i64 e.1) := ⟨a0, a1, a3⟩
    have hcap' := hcap.out
    have d3 : X.drew.drew.drew.cell? ⟨b, 1, none⟩ = some (.slice (some ⟨g, 0, none⟩) (s + 1) c3) := a1
    have d4 : X.drew.drew.drew.frozen? ⟨b, 1, none⟩ = false := a2
    refine Rg.wpD_begin [0, 1, 2, 3, 4, 5, 6, 7, 8, 9, 10, 11, 12, 13] (fun Y => Y.cell? ⟨b, 0, none⟩ = some (.int .i64 s) ∧ Y.cell? ⟨b, 1, none⟩ = some (.slice (some ⟨g, 0, none⟩) (s + 1) c3) ∧ Y.cell? ⟨g, s * 2, none⟩ = some (.int .i64 e.1)) (by kernel_rfl) ?_
    refine Rg.wpD_load 0 (v := ?_) (by simp only [List.getElem?_toArray, List.getElem?_cons_zero]; rfl) (by kernel_rfl) (by kernel_rfl) (by intro _ _ _ h; exact h) HeldS (by rfl) (fun wz hz => ?_) ?_
    rotate_left
    · first | (go_simp; done) | (go_simp; with_reducible rfl)
    simp only [Act.put, List.setIfInBounds_toArray, List.set_cons_succ, List.set_cons_zero]
    refine Rg.wpD_load 1 (v := ?_) (by simp only [List.getElem?_toArray, List.getElem?_cons_succ, List.getElem?_cons_zero]; rfl) (by kernel_rfl) (by kernel_rfl) (by intro _ _ _ h; exact h) HeldS (by rfl) (fun wz hz => ?_) ?_
    rotate_left
    · first | (go_simp; done) | (go_simp; with_reducible rfl)
    simp only [Act.put, List.setIfInBounds_toArray, List.set_cons_succ, List.set_cons_zero]
    refine Rg.wpD_load 2 (v := ?_) (by simp only [List.getElem?_toArray, List.getElem?_cons_succ, List.getElem?_cons_zero]; rfl) (by kernel_rfl) (by kernel_rfl) (by intro _ _ _ h; exact h) HeldS (by rfl) (fun wz hz => ?_) ?_
    rotate_left
    · first | (go_simp; done) | (go_simp; with_reducible rfl)
    simp only [Act.put, List.setIfInBounds_toArray, List.set_cons_succ, List.set_cons_zero]
    refine Rg.wpD_load 3 (v := ?_) (by simp only [List.getElem?_toArray, List.getElem?_cons_succ, List.getElem?_cons_zero]; rfl) (by kernel_rfl) (by kernel_rfl) (by intro _ _ _ h; exact h) HeldS (by rfl) (fun wz hz => ?_) ?_
    rotate_left
    · first | (go_simp; done) | (go_simp; with_reducible rfl)
    simp only [Act.put, List.setIfInBounds_toArray, List.set_cons_succ, List.set_cons_zero]
    refine Rg.wpD_load 4 (v := ?_) (by simp only [List.getElem?_toArray, List.getElem?_cons_succ, List.getElem?_cons_zero]; rfl) (by kernel_rfl) (by kernel_rfl) (by intro _ _ _ h; exact h) HeldS (by rfl) (fun wz hz => ?_) ?_
    rotate_left
    · first | (go_simp; done) | (go_simp; with_reducible rfl)
    simp only [Act.put, List.setIfInBounds_toArray, List.set_cons_succ, List.set_cons_zero]
    refine Rg.wpD_load 5 (v := ?_) (by simp only [List.getElem?_toArray, List.getElem?_cons_succ, List.getElem?_cons_zero]; rfl) (by kernel_rfl) (by kernel_rfl) (by intro _ _ _ h; exact h) HeldS (by rfl) (fun wz hz => ?_) ?_
    rotate_left
    · first | (go_simp; done) | (go_simp; with_reducible rfl)
    simp only [Act.put, List.setIfInBounds_toArray, List.set_cons_succ, List.set_cons_zero]
    refine Rg.wpD_load 6 (v := ?_) (by simp only [List.getElem?_toArray, List.getElem?_cons_succ, List.getElem?_cons_zero]; rfl) (by kernel_rfl) (by kernel_rfl) (by intro _ _ _ h; exact h) HeldS (by rfl) (fun wz hz => ?_) ?_
    rotate_left
    · first | (go_simp; done) | (go_simp; with_reducible rfl)
    simp only [Act.put, List.setIfInBounds_toArray, List.set_cons_succ, List.set_cons_zero]
    refine Rg.wpD_load 7 (v := ?_) (by simp only [List.getElem?_toArray, List.getElem?_cons_succ, List.getElem?_cons_zero]; rfl) (by kernel_rfl) (by kernel_rfl) (by intro _ _ _ h; exact h) HeldS (by rfl) (fun wz hz => ?_) ?_
    rotate_left
    · first | (go_simp; done) | (go_simp; with_reducible rfl)
    simp only [Act.put, List.setIfInBounds_toArray, List.set_cons_succ, List.set_cons_zero]
    refine Rg.wpD_load 8 (v := ?_) (by simp only [List.getElem?_toArray, List.getElem?_cons_succ, List.getElem?_cons_zero]; rfl) (by kernel_rfl) (by kernel_rfl) (by intro _ _ _ h; exact h) HeldS (by rfl) (fun wz hz => ?_) ?_
    rotate_left
    · first | (go_simp; done) | (go_simp; with_reducible rfl)
    simp only [Act.put, List.setIfInBounds_toArray, List.set_cons_succ, List.set_cons_zero]
    refine Rg.wpD_load 9 (v := ?_) (by simp only [List.getElem?_toArray, List.getElem?_cons_succ, List.getElem?_cons_zero]; rfl) (by kernel_rfl) (by kernel_rfl) (by intro _ _ _ h; exact h) HeldS (by rfl) (fun wz hz => ?_) ?_
    rotate_left
    · first | (go_simp; done) | (go_simp; with_reducible rfl)
    simp only [Act.put, List.setIfInBounds_toArray, List.set_cons_succ, List.set_cons_zero]
    refine Rg.wpD_load 10 (v := ?_) (by simp only [List.getElem?_toArray, List.getElem?_cons_succ, List.getElem?_cons_zero]; rfl) (by kernel_rfl) (by kernel_rfl) (by intro _ _ _ h; exact h) HeldS (by rfl) (fun wz hz => ?_) ?_
    rotate_left
    · first | (go_simp; done) | (go_simp; with_reducible rfl)
    simp only [Act.put, List.setIfInBounds_toArray, List.set_cons_succ, List.set_cons_zero]
    refine Rg.wpD_load 11 (v := ?_) (by simp only [List.getElem?_toArray, List.getElem?_cons_succ, List.getElem?_cons_zero]; rfl) (by kernel_rfl) (by kernel_rfl) (by intro _ _ _ h; exact h) HeldS (by rfl) (fun wz hz => ?_) ?_
    rotate_left
    · first | (go_simp; done) | (go_simp; with_reducible rfl)
    simp only [Act.put, List.setIfInBounds_toArray, List.set_cons_succ, List.set_cons_zero]
    refine Rg.wpD_load 12 (v := ?_) (by simp only [List.getElem?_toArray, List.getElem?_cons_succ, List.getElem?_cons_zero]; rfl) (by kernel_rfl) (by kernel_rfl) (by intro _ _ _ h; exact h) HeldS (by rfl) (fun wz hz => ?_) ?_
    rotate_left
    · first | (go_simp; done) | (go_simp; with_reducible rfl)
    simp only [Act.put, List.setIfInBounds_toArray, List.set_cons_succ, List.set_cons_zero]
    refine Rg.wpD_load 13 (v := ?_) (by simp only [List.getElem?_toArray, List.getElem?_cons_succ, List.getElem?_cons_zero]; rfl) (by kernel_rfl) (by kernel_rfl) (by intro _ _ _ h; exact h) HeldS (by rfl) (fun wz hz => ?_) ?_
    rotate_left
    · first | (go_simp; done) | (go_simp; with_reducible rfl)
    simp only [Act.put, List.setIfInBounds_toArray, List.set_cons_succ, List.set_cons_zero]
    clear HeldS
    refine Rg.wpD_do 14 (by kernel_rfl) (by simp only [List.getElem?_toArray, List.getElem?_cons_succ, List.getElem?_cons_zero]; rfl) (fun K hK => ?_)
    go_simp
    refine hK _ _ (fun h => absurd h (by decide)) ?_
    clear hK K
    refine Rg.wpD_done (by kernel_rfl) ?_
    go_wp2
    go_ret2
    refine ⟨by rw [show putR s l k x = _ from hR.out]; rfl, ⟨_, FIN.out.1.kept rfl (fun _ _ => rfl)⟩, ?_⟩
    have hf := FIN.out.2
    exact ⟨hf.os, hf.tape, hf.output, hf.size, hf.block, hf.grow, hf.lt⟩
  · have hR : Hid (putR s l k x = (0, false)) := by show _ = _; unfold putR; rw [List.getElem?_eq_none (by omega)]
    have hL : putL s l k x = ledV l k x := by unfold putL; rw [List.take_of_length_le (by omega)]
    have FIN : Hid (RV X b s (.slice q3 M c3) (putL s l k x) ∧ Fr (fun r => r = b) (fun r => r = b) w X) := ⟨⟨Z.out.1, by rw [hL]; exact Z.out.2.1, HG.out.2.1, hsm⟩, Z.out.2.2⟩
    have hle : (M : Int) ≤ (s : Int) := by omega
    have d : decide ((s : Int) < (M : Int)) = false := decide_eq_false (by omega)
    have d' : decide (s < M) = false := decide_eq_false hc
    clear hMl hMs hc hL
    have HeldS : X.drew.cell? ⟨b, 0, none⟩ = some (.int .i64 s) ∧ X.drew.cell? ⟨b, 1, none⟩ = some (.slice q3 M c3) := ⟨a0, a1⟩
    refine Rg.wpD_begin [0, 1, 2, 3, 4, 5, 6, 7, 8, 9] (fun Y => Y.cell? ⟨b, 0, none⟩ = some (.int .i64 s) ∧ Y.cell? ⟨b, 1, none⟩ = some (.slice q3 M c3)) (by kernel_rfl) ?_
    refine Rg.wpD_load 0 (v := ?_) (by simp only [List.getElem?_toArray, List.getElem?_cons_zero]; rfl) (by kernel_rfl) (by kernel_rfl) (by intro _ _ _ h; exact h) HeldS (by rfl) (fun wz hz => ?_) ?_
    rotate_left
    · first | (go_simp; done) | (go_simp; with_reducible rfl)
    simp only [Act.put, List.setIfInBounds_toArray, List.set_cons_succ, List.set_cons_zero]
    refine Rg.wpD_load 1 (v := ?_) (by simp only [List.getElem?_toArray, List.getElem?_cons_succ, List.getElem?_cons_zero]; rfl) (by kernel_rfl) (by kernel_rfl) (by intro _ _ _ h; exact h) HeldS (by rfl) (fun wz hz => ?_) ?_
    rotate_left
    · first | (go_simp; done) | (go_simp; with_reducible rfl)
    simp only [Act.put, List.setIfInBounds_toArray, List.set_cons_succ, List.set_cons_zero]
    refine Rg.wpD_load 2 (v := ?_) (by simp only [List.getElem?_toArray, List.getElem?_cons_succ, List.getElem?_cons_zero]; rfl) (by kernel_rfl) (by kernel_rfl) (by intro _ _ _ h; exact h) HeldS (by rfl) (fun wz hz => ?_) ?_
    rotate_left
    · first | (go_simp; done) | (go_simp; with_reducible rfl)
    simp only [Act.put, List.setIfInBounds_toArray, List.set_cons_succ, List.set_cons_zero]
    refine Rg.wpD_load 3 (v := ?_) (by simp only [List.getElem?_toArray, List.getElem?_cons_succ, List.getElem?_cons_zero]; rfl) (by kernel_rfl) (by kernel_rfl) (by intro _ _ _ h; exact h) HeldS (by rfl) (fun wz hz => ?_) ?_
    rotate_left
    · first | (go_simp; done) | (go_simp; with_reducible rfl)
    simp only [Act.put, List.setIfInBounds_toArray, List.set_cons_succ, List.set_cons_zero]
    refine Rg.wpD_load 4 (v := ?_) (by simp only [List.getElem?_toArray, List.getElem?_cons_succ, List.getElem?_cons_zero]; rfl) (by kernel_rfl) (by kernel_rfl) (by intro _ _ _ h; exact h) HeldS (by rfl) (fun wz hz => ?_) ?_
    rotate_left
    · first | (go_simp; done) | (go_simp; with_reducible rfl)
    simp only [Act.put, List.setIfInBounds_toArray, List.set_cons_succ, List.set_cons_zero]
    refine Rg.wpD_load 5 (v := ?_) (by simp only [List.getElem?_toArray, List.getElem?_cons_succ, List.getElem?_cons_zero]; rfl) (by kernel_rfl) (by kernel_rfl) (by intro _ _ _ h; exact h) HeldS (by rfl) (fun wz hz => ?_) ?_
    rotate_left
    · first | (go_simp; done) | (go_simp; with_reducible rfl)
    simp only [Act.put, List.setIfInBounds_toArray, List.set_cons_succ, List.set_cons_zero]
    refine Rg.wpD_load 6 (v := ?_) (by simp only [List.getElem?_toArray, List.getElem?_cons_succ, List.getElem?_cons_zero]; rfl) (by kernel_rfl) (by kernel_rfl) (by intro _ _ _ h; exact h) HeldS (by rfl) (fun wz hz => ?_) ?_
    rotate_left
    · first | (go_simp; done) | (go_simp; with_reducible rfl)
    simp only [Act.put, List.setIfInBounds_toArray, List.set_cons_succ, List.set_cons_zero]
    refine Rg.wpD_load 7 (v := ?_) (by simp only [List.getElem?_toArray, List.getElem?_cons_succ, List.getElem?_cons_zero]; rfl) (by kernel_rfl) (by kernel_rfl) (by intro _ _ _ h; exact h) HeldS (by rfl) (fun wz hz => ?_) ?_
    rotate_left
    · first | (go_simp; done) | (go_simp; with_reducible rfl)
    simp only [Act.put, List.setIfInBounds_toArray, List.set_cons_succ, List.set_cons_zero]
    refine Rg.wpD_load 8 (v := ?_) (by simp only [List.getElem?_toArray, List.getElem?_cons_succ, List.getElem?_cons_zero]; rfl) (by kernel_rfl) (by kernel_rfl) (by intro _ _ _ h; exact h) HeldS (by rfl) (fun wz hz => ?_) ?_
    rotate_left
    · first | (go_simp; done) | (go_simp; with_reducible rfl)
    simp only [Act.put, List.setIfInBounds_toArray, List.set_cons_succ, List.set_cons_zero]
    refine Rg.wpD_load 9 (v := ?_) (by simp only [List.getElem?_toArray, List.getElem?_cons_succ, List.getElem?_cons_zero]; rfl) (by kernel_rfl) (by kernel_rfl) (by intro _ _ _ h; exact h) HeldS (by rfl) (fun wz hz => ?_) ?_
    rotate_left
    · first | (go_simp; done) | (go_simp; with_reducible rfl)
    simp only [Act.put, List.setIfInBounds_toArray, List.set_cons_succ, List.set_cons_zero]
    refine Rg.wpD_done (by kernel_rfl) ?_
    clear HeldS
    go_wp2
    go_ret2
    refine ⟨by rw [show putR s l k x = _ from hR.out]; rfl, ⟨_, FIN.out.1.kept rfl (fun _ _ => rfl)⟩, ?_⟩
    have hf := FIN.out.2
    exact ⟨hf.os, hf.tape, hf.output, hf.size, hf.block, hf.grow, hf.lt⟩

set_option maxRecDepth 100000 in
set_option maxHeartbeats 1000000 in
theorem refKeys_any (b s : Nat) (l : List En) (w : World) (h : RC w b s l) :
    Calls Try.prog 15 #[.pointer (some ⟨b, 0, none⟩)] w fun e w' => ∃ v', e = .returned v' ∧ NumR w.heap.size w' v' (keysV l) ∧ Below w.heap.size w w' := by
  obtain ⟨v, h⟩ := h
  obtain ⟨p, cap, rfl⟩ := h.row.form
  have H : Hid (RV w b s (.slice p l.length cap) l) := h
  have hfew := h.few
  obtain ⟨i0, hi, hz0, hz1, hz2⟩ := info_of infoI
  clear h
  go_enter Try.func15, Try.ntmps15
  go_wp2_with fail
  go_loopw [3, 4] (fun x y wr => ∃ i : Nat, y = .int .i64 i ∧ i ≤ l.length ∧ NumR w.heap.size wr x (keysV (l.take i)) ∧ Below w.heap.size w wr) (fun _ y _ => l.length - (intOf y).toNat)
  case atStart => exact ⟨0, rfl, Nat.zero_le _, World.ownsRow_nil _ _ _ _, Below.refl _ _⟩
  case round =>
    obtain ⟨i, rfl, hil, hr, hb⟩ := hrel
    obtain ⟨q, cq, rfl⟩ := owns_form hr
    have HR : Hid (NumR w.heap.size wr _ (keysV (l.take i)) ∧ Below w.heap.size w wr) := ⟨hr, hb⟩
    have hv := H.out.next hb
    obtain ⟨_, c1, _⟩ := hv.cells
    have hsz := hb.size
    by_cases hlt : i < l.length
    · have d : decide (i < l.length) = true := by simpa using hlt
      obtain ⟨⟨y1, y2⟩, hy⟩ : ∃ y, l[i]? = some y := ⟨_, List.getElem?_eq_getElem hlt⟩
      obtain ⟨g, rfl, e1, _⟩ := hv.row.get hy
      simp only at e1
      have hii : (i : Int) < (l.length : Int) := by omega
      have hkk : keysV (l.take (i + 1)) = keysV (l.take i) ++ [y1] := by rw [List.take_add_one, hy]; simp [keysV]
      have HK : Hid (_ = _) := hkk
      have hkl : (keysV (l.take i)).length ≤ 1024 := by rw [keys_len, List.length_take]; omega
      generalize keysV (l.take i) = ks at *
      obtain ⟨m, hm⟩ : ∃ m, ks.length = m := ⟨_, rfl⟩
      have HM : Hid (ks.length = m) := hm
      unfold NumR at hr
      rw [hm] at hr hkl HR ⊢
      have HN : Hid (i < l.length) := hlt
      clear hv hy hkk hm hb hil hlt
      go_wp2_with (at_builtin; refine wpList_append_own_at _ rfl _ _ 33 rfl w.heap.size 3 i0 (.int .i64 0) 1 8 Try.underlying33 hi hz0 hz1 hz2 rfl (by decide) (.slice q m cq) m _ rfl (hr.alloc _) ⟨wr.heap.size, 0, none⟩ 1 1 [.int .i64 y1] rfl rfl (one_newL _ _ _) (by simp [Value.oneCell']) (by unfold maxLen; omega) (by omega) (by simp; omega) ?_; intro v' w3 hown3 hgrow3 _hnil3 _hat3)
      go_roundw
      case rel =>
        refine ⟨i + 1, by go_num, HN.out, ?_, ?_⟩
        · rw [HK.out]
          unfold NumR
          rw [show (ks ++ [y1]).length = m + 1 by simp; exact HM.out, List.map_append]
          exact hown3
        · exact (HR.out.2.alloc hsz _).grown hgrow3 (by simp; omega) (fun r e => (owns_lt hr e).1)
      case measure => have := HN.out; simp [intOf] <;> omega
    · have d : decide (i < l.length) = false := by simpa using hlt
      obtain rfl : i = l.length := by omega
      rw [List.take_length] at HR ⊢
      clear hil hlt hb hr hv
      go_wp2
      go_ret
      exact ⟨_, rfl, HR.out.1, HR.out.2⟩

end Go.Proofs.Ytamcomlnfdfmeaa.Lr
