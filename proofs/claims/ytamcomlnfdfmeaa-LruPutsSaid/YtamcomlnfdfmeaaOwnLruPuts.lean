/- For every size, every row of calls, every key and every two values: the law tapestrierlaw18.LruPuts returns true and leaves its arguments as they were; no condition. -/
import Derived.Test.YtamcomlnfdfmeaaLrUse
import Derived.Test.YtamcomlnfdfmeaaLrArgs
import Derived.Test.YtamcomlnfdfmeaaLrAgain
namespace Go.Proofs.Ytamcomlnfdfmeaa
open Go.Proofs.Ytamcomlnfdfmeaa.Tre
open Go Go.ChangeShapes Go.WideShapes Go.ChangeAt Go.RowKit Bl Wg Lr

set_option maxRecDepth 100000 in
set_option maxHeartbeats 2000000 in
theorem lruPuts_walk (w : World) (n : Int) (_h0 : (Lit.int .i64 n).wf = true) (v : Value) (l : List Ac) (hl : Acts18R w v l) (k : Int) (_h2 : (Lit.int .i64 k).wf = true) (a : Int) (_h3 : (Lit.int .i64 a).wf = true) (b : Int) (_h4 : (Lit.int .i64 b).wf = true) :
    Calls Try.prog 5 #[.int .i64 n, v, .int .i64 k, .int .i64 a, .int .i64 b] w fun e w' => e = .returned (.bool true) ∧ Below w.heap.size w w' := by
  have hal := Lr.alive_any w
  obtain ⟨p, cap, rfl⟩ := RowT.len hl
  have HR : Hid (Acts18R w (.slice p l.length cap) l) := hl
  have hmx := RowT.short hl
  unfold maxLen at hmx
  clear hl
  go_enter Try.func5, Try.ntmps5
  go_wp2_with fail
  go_at_call 6
  refine Calls.mono hal ?_
  clear hal _h0 _h2 _h3 _h4
  rintro e w1 ⟨rfl, b1⟩
  by_cases g1 : n < 1
  · have d1 : decide (n < 1) = true := by simpa using g1
    clear g1
    go_wp2
    go_ret
    exact ⟨rfl, b1⟩
  have d1 : decide (n < 1) = false := by simpa using g1
  by_cases g2 : 20 < n
  · have d2 : decide (20 < n) = true := by simpa using g2
    clear g1 g2
    go_wp2
    go_ret
    exact ⟨rfl, b1⟩
  have d2 : decide (20 < n) = false := by simpa using g2
  by_cases g3 : 60 < l.length
  · have d3 : decide (60 < l.length) = true := by simpa using g3
    have d3' : decide ((60 : Int) < (l.length : Int)) = true := by simp; omega
    clear g1 g2 g3
    go_wp2
    go_ret
    exact ⟨rfl, b1⟩
  have d3 : decide (60 < l.length) = false := by simpa using g3
  have d3' : decide ((60 : Int) < (l.length : Int)) = false := by simp; omega
  have hcut : cutV n = n.toNat := by unfold cutV; omega
  have hn1 : 1 ≤ cutV n := by omega
  have hn2 : ((cutV n : Nat) : Int) = n := by omega
  have hnew := new_any n w1
  have S0 := Mine.new n w w1 b1
  have HN : Hid (1 ≤ cutV n ∧ ((cutV n : Nat) : Int) = n) := ⟨hn1, hn2⟩
  generalize cutV n = s at *
  clear g1 g2 g3 b1 hcut hn1 hn2
  go_wp2_with fail
  go_at_call 7
  refine Calls.mono hnew ?_
  clear hnew
  rintro e w2 ⟨rfl, hw2⟩
  rw [← hw2] at S0
  generalize w1.heap.size = c at *
  clear hw2 d1 d2 d3 d3'
  go_wp2_with fail
  go_loopw [13] (fun x wr => ∃ (i : Nat) (ls : List En), x = .int .i64 i ∧ i ≤ l.length ∧ Mine w c s ls wr) (fun x _ => l.length - (intOf x).toNat)
  case atStart => exact ⟨0, [], rfl, Nat.zero_le _, S0⟩
  case round =>
    clear S0
    obtain ⟨i, ls, rfl, hi, S⟩ := hrel
    have HS : Hid (Mine w c s ls wr) := S
    clear S
    by_cases hil : i < l.length
    · have hlt : decide (i < l.length) = true := by simpa using hil
      obtain ⟨⟨f, ka, va⟩, hr⟩ : ∃ r, l[i]? = some r := ⟨_, List.getElem?_eq_getElem hil⟩
      obtain ⟨bb, off, rfl, hcl⟩ := Acts18R.get HR.out hr
      obtain ⟨_, e1, e2⟩ := hcl _ HS.out.below
      simp only at e1 e2
      have hii : (i : Int) < (l.length : Int) := by omega
      have hp := HS.out.next (Below.refl _ wr)
      have hpd : Mine w c s ls wr.drew := HS.out.next ⟨rfl, rfl, rfl, Nat.le_refl _, fun _ _ => rfl⟩
      have hput := hpd.put ka va
      have HIL : Hid (i < l.length) := hil
      have HeldS : wr.drew.cell? ⟨bb, off + i * 3 + 1, none⟩ = some (.int .i64 ka) ∧ wr.drew.cell? ⟨bb, off + i * 3 + 2, none⟩ = some (.int .i64 va) := ⟨e1, e2⟩
      clear hp hpd hcl hr hi hil e1 e2
      go_upto_region 8 with fail
      refine Rg.wpD_begin [0, 1, 2, 3, 4, 5, 6, 7, 8, 9, 10] (fun X => X.cell? ⟨bb, off + i * 3 + 1, none⟩ = some (.int .i64 ka) ∧ X.cell? ⟨bb, off + i * 3 + 2, none⟩ = some (.int .i64 va)) (by kernel_rfl) ?_
      refine Rg.wpD_load 0 (v := ?_) (by simp only [List.getElem?_toArray, List.getElem?_cons_zero]; rfl) (by kernel_rfl) (by kernel_rfl) (by intro _ _ _ h; exact h) HeldS (by rfl) (fun wz hz => ?_) ?_
      rotate_left
      · first | (go_simp; done) | (go_simp; with_reducible rfl)
      simp only [Act.put, List.setIfInBounds_toArray, List.set_cons_succ, List.set_cons_zero]
      refine Rg.wpD_load 1 (v := ?_) (by simp only [List.getElem?_toArray, List.getElem?_cons_succ, List.getElem?_cons_zero]; rfl) (by kernel_rfl) (by kernel_rfl) (by intro _ _ _ h; exact h) HeldS (by rfl) (fun wz hz => ?_) ?_
      rotate_left
      · first | (go_simp; done) | (go_simp; with_reducible rfl)
      simp only [Act.put, List.setIfInBounds_toArray, List.set_cons_succ, List.set_cons_zero]
      refine Rg.wpD_load 2 (v := ?_) (by simp only [List.getElem?_toArray, List.getElem?_cons_succ, List.getElem?_cons_zero]; rfl) (by kernel_rfl) (by kernel_rfl) (by intro _ _ _ h; exact h) HeldS (by rfl) (fun wz hz => ?_) ?_
      rotate_left
      · first | (go_simp; done) | (go_simp; with_reducible rfl)
      simp only [Act.put, List.setIfInBounds_toArray, List.set_cons_succ, List.set_cons_zero]
      refine Rg.wpD_load 3 (v := ?_) (by simp only [List.getElem?_toArray, List.getElem?_cons_succ, List.getElem?_cons_zero]; rfl) (by kernel_rfl) (by kernel_rfl) (by intro _ _ _ h; exact h) HeldS (by rfl) (fun wz hz => ?_) ?_
      rotate_left
      · first | (go_simp; done) | (go_simp; with_reducible rfl)
      simp only [Act.put, List.setIfInBounds_toArray, List.set_cons_succ, List.set_cons_zero]
      refine Rg.wpD_load 4 (v := ?_) (by simp only [List.getElem?_toArray, List.getElem?_cons_succ, List.getElem?_cons_zero]; rfl) (by kernel_rfl) (by kernel_rfl) (by intro _ _ _ h; exact h) HeldS (by rfl) (fun wz hz => ?_) ?_
      rotate_left
      · first | (go_simp; done) | (go_simp; with_reducible rfl)
      simp only [Act.put, List.setIfInBounds_toArray, List.set_cons_succ, List.set_cons_zero]
      refine Rg.wpD_load 5 (v := ?_) (by simp only [List.getElem?_toArray, List.getElem?_cons_succ, List.getElem?_cons_zero]; rfl) (by kernel_rfl) (by kernel_rfl) (by intro _ _ _ h; exact h) HeldS (by rfl) (fun wz hz => ?_) ?_
      rotate_left
      · first | (go_simp; done) | (go_simp; with_reducible rfl)
      simp only [Act.put, List.setIfInBounds_toArray, List.set_cons_succ, List.set_cons_zero]
      refine Rg.wpD_load 6 (v := ?_) (by simp only [List.getElem?_toArray, List.getElem?_cons_succ, List.getElem?_cons_zero]; rfl) (by kernel_rfl) (by kernel_rfl) (by intro _ _ _ h; exact h) HeldS (by rfl) (fun wz hz => ?_) ?_
      rotate_left
      · first | (go_simp; done) | (go_simp; with_reducible rfl)
      simp only [Act.put, List.setIfInBounds_toArray, List.set_cons_succ, List.set_cons_zero]
      refine Rg.wpD_load 7 (v := ?_) (by simp only [List.getElem?_toArray, List.getElem?_cons_succ, List.getElem?_cons_zero]; rfl) (by kernel_rfl) (by kernel_rfl) (by intro _ _ _ h; exact h) HeldS (by rfl) (fun wz hz => ?_) ?_
      rotate_left
      · first | (go_simp; done) | (go_simp; with_reducible rfl)
      simp only [Act.put, List.setIfInBounds_toArray, List.set_cons_succ, List.set_cons_zero]
      refine Rg.wpD_load 8 (v := ?_) (by simp only [List.getElem?_toArray, List.getElem?_cons_succ, List.getElem?_cons_zero]; rfl) (by kernel_rfl) (by kernel_rfl) (by intro _ _ _ h; exact h) HeldS (by rfl) (fun wz hz => ?_) ?_
      rotate_left
      · first | (go_simp; done) | (go_simp; with_reducible rfl)
      simp only [Act.put, List.setIfInBounds_toArray, List.set_cons_succ, List.set_cons_zero]
      refine Rg.wpD_load 9 (v := ?_) (by simp only [List.getElem?_toArray, List.getElem?_cons_succ, List.getElem?_cons_zero]; rfl) (by kernel_rfl) (by kernel_rfl) (by intro _ _ _ h; exact h) HeldS (by rfl) (fun wz hz => ?_) ?_
      rotate_left
      · first | (go_simp; done) | (go_simp; with_reducible rfl)
      simp only [Act.put, List.setIfInBounds_toArray, List.set_cons_succ, List.set_cons_zero]
      refine Rg.wpD_load 10 (v := ?_) (by simp only [List.getElem?_toArray, List.getElem?_cons_succ, List.getElem?_cons_zero]; rfl) (by kernel_rfl) (by kernel_rfl) (by intro _ _ _ h; exact h) HeldS (by rfl) (fun wz hz => ?_) ?_
      rotate_left
      · first | (go_simp; done) | (go_simp; with_reducible rfl)
      simp only [Act.put, List.setIfInBounds_toArray, List.set_cons_succ, List.set_cons_zero]
      clear HeldS
      refine Rg.wpD_do 11 (by kernel_rfl) (by simp only [List.getElem?_toArray, List.getElem?_cons_succ, List.getElem?_cons_zero]; rfl) (fun K hK => ?_)
      go_simp
      refine Calls.mono hput ?_
      clear hput
      rintro e w3 ⟨rfl, S3⟩
      refine hK _ _ (fun h => absurd h (by decide)) ?_
      clear hK K
      refine Rg.wpD_done (by kernel_rfl) ?_
      go_wp2
      go_roundw
      case rel => exact ⟨i + 1, _, by go_num, by have := HIL.out; omega, S3⟩
      case measure => have := HIL.out; simp [intOf] <;> omega
    · have hlt : decide (i < l.length) = false := by simpa using hil
      obtain ⟨t, t1, t2, t3, t4, t5, t6⟩ := put_again HS.out.good HN.out.1 k a b
      have hp := HS.out.put k a
      rw [t1] at hp
      have HT : Hid (t.length + 1 ≤ s) := t2
      clear hi hil t2
      go_wp2_with fail
      go_at_call 9
      refine Calls.mono hp ?_
      clear hp HS t1
      rintro e w3 ⟨rfl, S3⟩
      have hk := S3.keys
      have hc3 := S3.lt
      clear S3
      go_wp2_with fail
      go_at_call 13
      refine Calls.mono hk ?_
      clear hk
      rintro e w4 ⟨v4, rfl, hr4, S4⟩
      have H4 : Hid (IntsR w4 v4 (keysV ((k, a) :: t)) ∧ ∀ r, v4.ownBlock = some r → r ≠ c ∧ r < w4.heap.size) := ⟨hr4.ints, fun r hr => ⟨by have := (Sl.owns_lt hr4 hr).1; omega, (Sl.owns_lt hr4 hr).2⟩⟩
      obtain ⟨q4, c4, rfl⟩ := H4.out.1.len
      have hp := S4.putF k b
      rw [t3, t4] at hp
      clear S4 hr4 hc3 t3 t4
      generalize hm : (keysV ((k, a) :: t)).length = m at *
      have hm0 : 0 < m := by rw [← hm]; simp [keysV]
      have HM : Hid (_ = _) := hm
      clear hm
      go_wp2_with fail
      go_at_call 9
      refine Calls.mono hp ?_
      clear hp
      rintro e w5 ⟨rfl, S5, f5⟩
      have hg := S5.getF k
      rw [t5, t6] at hg
      have H5 : Hid (IntsR w5 (.slice q4 m c4) (keysV ((k, a) :: t)) ∧ ∀ r, (Value.slice q4 m c4).ownBlock = some r → r ≠ c ∧ r < w5.heap.size) := ⟨H4.out.1.kept (fun r hr => f5.block r (H4.out.2 r hr).2 (H4.out.2 r hr).1), fun r hr => ⟨(H4.out.2 r hr).1, Nat.lt_of_lt_of_le (H4.out.2 r hr).2 f5.size⟩⟩
      clear S5 f5 t5 t6 H4
      go_wp2_with fail
      go_at_call 11
      refine Calls.mono hg ?_
      clear hg
      rintro e w6 ⟨rfl, S6, f6⟩
      have hk := S6.keys
      have i6 : IntsR w6 (.slice q4 m c4) (keysV ((k, a) :: t)) := H5.out.1.kept (fun r hr => f6.block r (H5.out.2 r hr).2 (H5.out.2 r hr).1)
      have h6 : ∀ r, (Value.slice q4 m c4).ownBlock = some r → r < w6.heap.size := fun r hr => Nat.lt_of_lt_of_le (H5.out.2 r hr).2 f6.size
      have H6 : Hid (_ ∧ _) := ⟨i6, h6⟩
      have hkk := keys_any c s ((k, b) :: t) w6 S6.at_
      have HS6 : Hid (Mine w c s ((k, b) :: t) w6) := S6
      obtain ⟨b0, off0, rfl, _, _, c0⟩ := i6.get (k := 0) (x := k) rfl
      have hmI : (0 : Int) < (m : Int) := by omega
      have d0 : decide ((0 : Int) < (m : Int)) = true := by simpa using hmI
      have d0' : decide (0 < m) = true := by simpa using hm0
      have dbb : (b == b) = true := by simp
      have dkk : (k == k) = true := by simp
      clear hk S6 f6 H5 i6 h6
      go_wp2_with fail
      go_at_call 13
      refine Calls.mono hkk ?_
      clear hkk
      rintro e w7 ⟨v7, rfl, hr7, b7⟩
      have S7 := HS6.out.next b7
      have i7 : IntsR w7 (.slice (some ⟨b0, off0, none⟩) m c4) (keysV ((k, a) :: t)) := H6.out.1.kept (fun r hr => b7.block r (H6.out.2 r hr))
      have hs := same_yes v7 (.slice (some ⟨b0, off0, none⟩) m c4) (keysV ((k, a) :: t)) w7 (hr7.ints) i7
      have H7 : Hid (_ ∧ _) := ⟨S7, i7⟩
      obtain ⟨q7, c7, rfl⟩ := hr7.ints.len
      clear S7 i7 hr7 b7 c0
      go_wp2_with fail
      go_at_call 14
      refine Calls.mono hs ?_
      clear hs
      rintro e w8 ⟨rfl, b8⟩
      have S8 := H7.out.1.next b8
      obtain ⟨_, _, e0, _, _, c0⟩ := (IntsR.below H7.out.2 b8).get (k := 0) (x := k) rfl
      cases e0
      rw [Nat.add_zero] at c0
      have hln := S8.at_.elim fun v h => len_any c s v ((k, b) :: t) w8 h
      have HS8 : Hid (Mine w c s ((k, b) :: t) w8) := S8
      have dle : decide ((t.length : Int) + 1 ≤ n) = true := by
        have := HN.out.2
        have := HT.out
        simp only [decide_eq_true_eq]; omega
      clear S8 b8
      go_wp2_with fail
      go_at_call 16
      refine Calls.mono hln ?_
      clear hln
      rintro e w9 ⟨rfl, rfl⟩
      go_wp2
      go_ret
      exact ⟨rfl, HS8.out.below⟩


set_option maxRecDepth 100000 in
theorem lruPuts_lifted (os : Os) (started : os.Started) (H : Type) (enc : TypeId × Value → H) :
    ReturnsInHanded {} Try.checked os 5 .any (Rows.lruPutsSpec.pre6 enc Try.prog Try.f5 Rows.lruPutsRow.domain false) (Rows.lruPutsSpec.post enc Try.prog Try.f5 false true false false) := by
  refine returnsInHanded_of_change_sized (C := Try.checked) ownNone started (by kernel_rfl) Try.func5
    (ChangeSpec.witness6 (enc := enc) (C := Try.checked) false ⟨#[], #[.int .i64 0, .slice none 0 0, .int .i64 0, .int .i64 0, .int .i64 0], []⟩ 8 (by kernel_rfl) (by kernel_rfl) (by kernel_rfl) (by kernel_rfl)) ?_
  intro W base args ds gs before hval hW _ hsz0 _
  have hW' := hW
  obtain ⟨p, q, hA0, hV, rfl, hfz, hnd⟩ := hW
  have hA : DataW.TrodAll enc Try.prog W 0 (fun _ => true) true Try.f5.params.toList args.toList ds p := hA0
  rw [Try.params5] at hA hval hsz0
  obtain ⟨v0, vs0, d0, ds0, p0, q0, hargs, rfl, rfl, h0, r0⟩ := trodAll_cons hA
  obtain ⟨v1, vs1, d1, ds1, p1, q1, rfl, rfl, rfl, h1, r1⟩ := trodAll_cons r0
  obtain ⟨v2, vs2, d2, ds2, p2, q2, rfl, rfl, rfl, h2, r2⟩ := trodAll_cons r1
  obtain ⟨v3, vs3, d3, ds3, p3, q3, rfl, rfl, rfl, h3, r3⟩ := trodAll_cons r2
  obtain ⟨v4, vs4, d4, ds4, p4, q4, rfl, rfl, rfl, h4, r4⟩ := trodAll_cons r3
  obtain ⟨rfl, rfl, rfl⟩ := trodAll_nil r4
  obtain rfl : args = #[v0, v1, v2, v3, v4] := by cases args; simp_all
  obtain ⟨rfl, rfl⟩ := trodVars_none hV
  have hsz := List.all_eq_true.1 hsz0
  obtain ⟨a0, rfl, rfl, rfl, w0⟩ := open_int Try.underlying3 (hval 0 3 v0 rfl rfl) h0
  obtain ⟨a1, len1, cap1, rfl⟩ := okWide_slice Try.underlying22 (hval 1 22 v1 rfl rfl)
  have k1 := h1
  have lt1 : ∀ x ∈ p1, x.block < W.heap.size := by obtain ⟨m, hm⟩ := k1; exact DataW.trod_lt m _ _ _ hm
  obtain ⟨z1, w1⟩ := acts18At_of_reads k1 (fun n hn => by simpa using hsz n (DataW.weights_mem_each (j := 1) rfl rfl n hn))
  obtain ⟨a2, rfl, rfl, rfl, w2⟩ := open_int Try.underlying3 (hval 2 3 v2 rfl rfl) h2
  obtain ⟨a3, rfl, rfl, rfl, w3⟩ := open_int Try.underlying3 (hval 3 3 v3 rfl rfl) h3
  obtain ⟨a4, rfl, rfl, rfl, w4⟩ := open_int Try.underlying3 (hval 4 3 v4 rfl rfl) h4
  clear hA0
  refine (lruPuts_walk W a0 w0 _ z1 w1 a2 w2 a3 w3 a4 w4).mono fun e W' ⟨he, bel⟩ => ?_
  subst he
  exact ⟨_, rfl, _, _, _, [], _, [], hW', trodAll_mk1 (shut_bool Try.underlying4 _), (trodAll_cons_mk (shut_int Try.underlying3 w0) (trodAll_cons_mk (Below.trod laidOut (by kernel_rfl) (of_decide_eq_true (by kernel_rfl)) k1 bel lt1) (trodAll_cons_mk (shut_int Try.underlying3 w2) (trodAll_cons_mk (shut_int Try.underlying3 w3) (trodAll_cons_mk (shut_int Try.underlying3 w4) trodAll_mk0))))), rfl, bel.frame _, fun h => by cases h⟩

theorem lruPuts_said : Rows.LruPutsSaid :=
  OpenClaim.holds_of_wide 5 Try.f5 rfl rfl rfl rfl rfl rfl rfl ⟨rfl, rfl, rfl, rfl, rfl⟩ rfl rfl rfl rfl rfl (by kernel_rfl) Try.func5 (by kernel_rfl)
    (of_decide_eq_true (by kernel_rfl)) (by unfold Func.isWrapper; first | (rw [if_pos (by decide +kernel)]; kernel_rfl) | (rw [if_neg (by decide +kernel)]; exact ⟨rfl, rfl⟩))
    (fun os started H enc _ => lruPuts_lifted os started H enc)
#print axioms lruPuts_said

end Go.Proofs.Ytamcomlnfdfmeaa
