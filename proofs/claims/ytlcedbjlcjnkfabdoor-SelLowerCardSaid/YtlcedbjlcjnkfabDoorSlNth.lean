/- The reader of selectors: the number of a child, attributes. -/
import Derived.Test.YtlcedbjlcjnkfabDoorSlUnit
namespace Go.Proofs.YtlcedbjlcjnkfabDoor.Sl
open Go Go.RowKit Go.Shelf

set_option maxRecDepth 100000 in
set_option maxHeartbeats 2000000 in
theorem nth_any (n₀ R : Nat) (v : Value) (ts : List Bt) (a : Nat) (deep : Int) (w : World) (hP : Rd n₀ w R v ts a deep) (hG : Good ts) :
    Calls Tryd.prog 58 #[.pointer (some ⟨R, 0, none⟩)] w fun e w' => ((∃ A B b, nthV (ts.drop a) = some (A, B, ts.drop b) ∧ e = .returned (.tuple #[psV 6 A B (.slice none 0 0), .bool true]) ∧ Rd n₀ w' R v ts b deep) ∨ (nthV (ts.drop a) = none ∧ (∃ k x y, e = .returned (.tuple #[psV k x y (.slice none 0 0), .bool false])) ∧ ∃ b, Rd n₀ w' R v ts b deep)) ∧ But R w w' := by
  have hR := hP.lt
  have hlo := hP.low
  obtain ⟨b0, kZ⟩ := ps_new w
  have hP0 := hP.below b0
  unfold psV
  go_enter Tryd.func58, Tryd.ntmps58
  go_upto_region 1 with fail
  generalize w.alloc (.cells #[.int .i64 0, .int .i64 0, .int .i64 0, .slice none 0 0] 43) = W0 at *
  have b1 : Below W0.heap.size W0 (W0.alloc (.cells #[.int .i64 1, .int .i64 6] 3)) := (Below.refl _ _).alloc (Nat.le_refl _) _
  have h1 := pullAmid_any n₀ R v ts a deep (W0.alloc (.cells #[.int .i64 1, .int .i64 6] 3)) (hP0.below b1) (.slice (some ⟨W0.heap.size, 0, none⟩) 2 2) [1, 6] (ints_amid W0 R [1, 6] (by simp) hP0.lt n₀) (by simp) rfl
  have hb1 : But R w (W0.alloc (.cells #[.int .i64 1, .int .i64 6] 3)) := (Kept.of_below b0).trans (.of_below b1)
  have kZ1 := kZ.below b1 kZ.lt
  go_wp2_with fail
  refine h1.mono ?_
  clear h1
  rintro e w1 ⟨⟨b, hdb, hcs⟩, hbk⟩
  replace kZ1 := hbk.blk kZ1 (by omega)
  replace hb1 := hb1.trans hbk
  clear kZ b0 b1 hbk hP0 hP
  have hw1 := kZ1.lt
  rcases hcs with ⟨d, hc, hlt, hdd, rfl, hP1⟩ | ⟨d, hc, rfl, hP1⟩
  · have hg := hG.at b
    obtain ⟨T, hT⟩ : ∃ T, at' ts b = T := ⟨_, rfl⟩
    obtain ⟨E, hE⟩ : ∃ E, at' ts d = E := ⟨_, rfl⟩
    have hbad : abV T = none → nthV (ts.drop a) = none := fun h => nth_bad hdb (by rw [hT]; exact h)
    have hsome : ∀ x : Int × Int, abV T = some x → nthV (ts.drop a) = if E.kind = 17 then some (x.1, x.2, ts.drop (d + 1)) else none := fun x h => by
      rw [nth_some hdb (by rw [hT]; exact h) hdd, hE]
    have hab : abV T = if T.kind = 1 ∧ lowOf T = oddT then some (2, 1) else if T.kind = 1 ∧ lowOf T = evenT then some (2, 0) else if T.kind = 6 ∧ T.whole = true then some (0, T.n.tdiv 1000) else none := rfl
    rw [hT] at hg hc ⊢
    have hc' : T.kind = 1 ∨ T.kind = 6 := by simpa using hc
    clear hc hT
    obtain ⟨bO, kO⟩ := tok_new w1 T
    have hP2 := hP1.below bO
    have hb2 : But R w _ := hb1.trans (.of_below bO)
    replace kZ1 := kZ1.below bO hw1
    have hR1 := hP1.lt
    unfold tkV
    go_upto_region 2 with fail
    generalize w1.alloc (.cells #[.int .i64 T.kind, .string T.text, .int .i64 T.n, .bool T.whole, .int .i64 T.c] 60) = w2 at *
    have h3 := passes_any n₀ R v ts d deep 17 w2 hP2 (by decide)
    rw [hE] at h3
    by_cases h17 : E.kind = 17
    · rw [decide_eq_true h17, if_pos h17] at h3
      simp only [h17, if_true] at hsome
      clear h17 hE
      go_wp2_with fail
      refine h3.mono ?_
      clear h3
      rintro e w3 ⟨rfl, hP3, hb3⟩
      replace kO := hb3.blk kO (by omega)
      replace kZ1 := hb3.blk kZ1 (by omega)
      replace hb3 := hb2.trans hb3
      obtain ⟨⟨t0, t1, t2, t3, t4⟩, _⟩ := blk5 kO
      obtain ⟨⟨z0, z1, z2, z3⟩, f0, f1, f2, f3⟩ := blk4 kZ1
      by_cases h6 : T.kind = 6
      · have hn := tdiv_wrap hg.2.1 hg.2.2
        rw [h6] at t0
        cases hw : T.whole with
        | true =>
          have hv := hsome (0, T.n.tdiv 1000) (by rw [hab, if_neg (by omega), if_neg (by omega), if_pos ⟨h6, hw⟩])
          rw [hw] at t3
          clear hbad hsome hab h6 hw
          go_wp2
          go_region_law (fail)
          all_goals
            go_wp2
            refine bodyPost_ret (results_struct_tmp rfl _ _ w.heap.size _ rfl (load_ps (blk_set4 kZ1 (.int .i64 6) (.int .i64 0) (.int .i64 (T.n.tdiv 1000)) (.slice none 0 0)))) rfl ?_
            exact ⟨.inl ⟨0, T.n.tdiv 1000, d + 1, hv, rfl, Rd.drew (hP3.other4 (C := w.heap.size) (by omega) (by omega) _ _ _ _)⟩, (hb3.fresh4 (Nat.le_refl _) _ _ _ _).drew⟩
        | false =>
          have hv := hbad (by rw [hab, if_neg (by omega), if_neg (by omega), if_neg (by rw [hw]; simp)])
          rw [hw] at t3
          clear hbad hsome hab h6 hw
          go_wp2
          go_region_law (fail)
          all_goals
            go_wp2
            refine bodyPost_ret (results_struct_tmp rfl _ _ w.heap.size _ rfl (load_ps (blk_set4 kZ1 (.int .i64 6) (.int .i64 0) (.int .i64 (T.n.tdiv 1000)) (.slice none 0 0)))) rfl ?_
            exact ⟨.inr ⟨hv, ⟨6, 0, T.n.tdiv 1000, rfl⟩, d + 1, Rd.drew (hP3.other4 (C := w.heap.size) (by omega) (by omega) _ _ _ _)⟩, (hb3.fresh4 (Nat.le_refl _) _ _ _ _).drew⟩
      · have h1 : T.kind = 1 := by omega
        rw [h1] at t0
        have hlow := Lw.lower_any T.text w3 (by unfold maxLen; omega)
        have hlw : lowOf T = Lw.low T.text.data.toList := rfl
        have hz : (⟨(Lw.low T.text.data.toList).toArray⟩ : ByteArray).data.toList = lowOf T := rfl
        obtain ⟨z, hzz⟩ : ∃ z : ByteArray, (⟨(Lw.low T.text.data.toList).toArray⟩ : ByteArray) = z := ⟨_, rfl⟩
        rw [hzz] at hlow hz
        clear hlw hzz
        rw [← hz] at hab
        have ho1 : z.data.toList = oddT → abV T = some (2, 1) := fun h => by rw [hab, if_pos ⟨h1, h⟩]
        have he1 : ¬ z.data.toList = oddT → z.data.toList = evenT → abV T = some (2, 0) := fun h h' => by rw [hab, if_neg (fun x => h x.2), if_pos ⟨h1, h'⟩]
        have hn1 : ¬ z.data.toList = oddT → ¬ z.data.toList = evenT → abV T = none := fun h h' => by rw [hab, if_neg (fun x => h x.2), if_neg (fun x => h' x.2), if_neg (by omega)]
        clear hab h6 h1 hz
        by_cases go : z.data.toList = oddT
        · have hv := hsome _ (ho1 go)
          clear hbad hsome ho1 he1 hn1
          obtain rfl := str_is go
          unfold oddT at hlow
          clear go
          go_wp2_with fail
          refine hlow.mono ?_
          clear hlow
          rintro e w4 ⟨rfl, b4⟩
          replace kZ1 := kZ1.below b4 kZ1.lt
          obtain ⟨⟨z0, z1, z2, z3⟩, f0, f1, f2, f3⟩ := blk4 kZ1
          go_wp2
          refine bodyPost_ret (results_struct_tmp rfl _ _ w.heap.size _ rfl (load_ps (blk_set4 kZ1 (.int .i64 6) (.int .i64 2) (.int .i64 1) (.slice none 0 0)))) rfl ?_
          exact ⟨.inl ⟨2, 1, d + 1, hv, rfl, (hP3.below b4).other4 (by omega) (by omega) _ _ _ _⟩, (hb3.trans (.of_below b4)).fresh4 (Nat.le_refl _) _ _ _ _⟩
        · by_cases ge : z.data.toList = evenT
          · have hv := hsome _ (he1 go ge)
            clear hbad hsome ho1 he1 hn1 go
            obtain rfl := str_is ge
            unfold evenT at hlow
            clear ge
            go_wp2_with fail
            refine hlow.mono ?_
            clear hlow
            rintro e w4 ⟨rfl, b4⟩
            replace kZ1 := kZ1.below b4 kZ1.lt
            obtain ⟨⟨z0, z1, z2, z3⟩, f0, f1, f2, f3⟩ := blk4 kZ1
            go_wp2
            refine bodyPost_ret (results_struct_tmp rfl _ _ w.heap.size _ rfl (load_ps (blk_set4 kZ1 (.int .i64 6) (.int .i64 2) (.int .i64 0) (.slice none 0 0)))) rfl ?_
            exact ⟨.inl ⟨2, 0, d + 1, hv, rfl, (hP3.below b4).other4 (by omega) (by omega) _ _ _ _⟩, (hb3.trans (.of_below b4)).fresh4 (Nat.le_refl _) _ _ _ _⟩
          · have hv := hbad (hn1 go ge)
            replace go := str_ne go
            replace ge := str_ne ge
            unfold oddT at go
            unfold evenT at ge
            clear hbad hsome ho1 he1 hn1
            go_wp2_with fail
            refine hlow.mono ?_
            clear hlow
            rintro e w4 ⟨rfl, b4⟩
            replace kZ1 := kZ1.below b4 kZ1.lt
            obtain ⟨⟨z0, z1, z2, z3⟩, f0, f1, f2, f3⟩ := blk4 kZ1
            go_wp2
            refine bodyPost_ret (results_struct_tmp rfl _ _ w.heap.size _ rfl (load_ps (blk_set4 kZ1 (.int .i64 0) (.int .i64 0) (.int .i64 0) (.slice none 0 0)))) rfl ?_
            exact ⟨.inr ⟨hv, ⟨0, 0, 0, rfl⟩, d + 1, (hP3.below b4).other4 (by omega) (by omega) _ _ _ _⟩, (hb3.trans (.of_below b4)).fresh4 (Nat.le_refl _) _ _ _ _⟩
    · rw [decide_eq_false h17, if_neg h17] at h3
      have hv : nthV (ts.drop a) = none := by
        cases h : abV T with
        | none => exact hbad h
        | some x => rw [hsome x h, if_neg h17]
      clear h17 hE hbad hsome hab
      go_wp2_with fail
      refine h3.mono ?_
      clear h3
      rintro e w3 ⟨rfl, hP3, hb3⟩
      replace kZ1 := hb3.blk kZ1 (by omega)
      replace hb3 := hb2.trans hb3
      obtain ⟨⟨z0, z1, z2, z3⟩, f0, f1, f2, f3⟩ := blk4 kZ1
      go_wp2
      refine bodyPost_ret (results_struct_tmp rfl _ _ w.heap.size _ rfl (load_ps (blk_set4 kZ1 (.int .i64 0) (.int .i64 0) (.int .i64 0) (.slice none 0 0)))) rfl ?_
      exact ⟨.inr ⟨hv, ⟨0, 0, 0, rfl⟩, d, hP3.other4 (by omega) (by omega) _ _ _ _⟩, hb3.fresh4 (Nat.le_refl _) _ _ _ _⟩
  · have hv : nthV (ts.drop a) = none := nth_bad hdb (by
      have : ¬ ((at' ts b).kind = 1 ∨ (at' ts b).kind = 6) := by simpa using hc
      unfold abV
      rw [if_neg (by omega), if_neg (by omega), if_neg (by omega)])
    obtain ⟨bO, kO⟩ := tok_new w1 zeroT
    unfold zeroT at bO
    replace kZ1 := kZ1.below bO hw1
    have hP2 := hP1.below bO
    have hb2 : But R w _ := hb1.trans (.of_below bO)
    have hR1 := hP1.lt
    clear hc kO
    unfold tkV zeroT
    go_upto_region 2 with fail
    generalize w1.alloc (.cells #[.int .i64 0, .string ⟨#[]⟩, .int .i64 0, .bool false, .int .i64 0] 60) = w2 at *
    obtain ⟨⟨z0, z1, z2, z3⟩, f0, f1, f2, f3⟩ := blk4 kZ1
    go_wp2
    refine bodyPost_ret (results_struct_tmp rfl _ _ w.heap.size _ rfl (load_ps (blk_set4 kZ1 (.int .i64 0) (.int .i64 0) (.int .i64 0) (.slice none 0 0)))) rfl ?_
    exact ⟨.inr ⟨hv, ⟨0, 0, 0, rfl⟩, d, hP2.other4 (by omega) (by omega) _ _ _ _⟩, hb2.fresh4 (Nat.le_refl _) _ _ _ _⟩

end Go.Proofs.YtlcedbjlcjnkfabDoor.Sl
