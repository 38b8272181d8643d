/- The reader of selectors: the number of a child, attributes. -/
import Derived.Test.YtkhgmobependiaaDoorSlUnit
namespace Go.Proofs.YtkhgmobependiaaDoor.Sl
open Go.Proofs.YtkhgmobependiaaDoor.Tre
open Go Go.RowKit Go.Shelf

set_option maxRecDepth 100000 in
set_option maxHeartbeats 2000000 in
theorem nth_any (n₀ R : Nat) (v : Value) (ts : List Bt) (a : Nat) (deep : Int) (w : World) (hP : Rd n₀ w R v ts a deep) (hG : Good ts) :
    Calls Tryd.prog 60 #[.pointer (some ⟨R, 0, none⟩)] w fun e w' => ((∃ A B b, nthV (ts.drop a) = some (A, B, ts.drop b) ∧ e = .returned (.tuple #[psV 6 A B (.slice none 0 0), .bool true]) ∧ Rd n₀ w' R v ts b deep) ∨ (nthV (ts.drop a) = none ∧ (∃ k x y, e = .returned (.tuple #[psV k x y (.slice none 0 0), .bool false])) ∧ ∃ b, Rd n₀ w' R v ts b deep)) ∧ But R w w' := by
  have hR := hP.lt
  have hlo := hP.low
  obtain ⟨b0, kZ⟩ := ps_new w
  have hP0 := hP.below b0
  unfold psV
  go_enter Tryd.func60, Tryd.ntmps60
  go_upto_region 1 with fail
  generalize w.alloc (.cells #[.int .i64 0, .int .i64 0, .int .i64 0, .slice none 0 0] 26) = W0 at *
  have b1 : Below W0.heap.size W0 (W0.alloc (.cells #[.int .i64 1, .int .i64 6] 3)) := (Below.refl _ _).alloc (Nat.le_refl _) _
  have h1 := pullAmid_any n₀ R v ts a deep (W0.alloc (.cells #[.int .i64 1, .int .i64 6] 3)) (hP0.below b1) (.slice (some ⟨W0.heap.size, 0, none⟩) 2 2) [1, 6] (ints_amid W0 R [1, 6] (by simp) hP0.lt n₀) (by simp) rfl
  have hb1 : But R w (W0.alloc (.cells #[.int .i64 1, .int .i64 6] 3)) := (Kept.of_below b0).trans (.of_below b1)
  have kZ1 := kZ.below b1 kZ.lt
  go_wp2_with fail
  refine h1.mono ?_
  clear h1
  rintro e w1 ⟨⟨b, hdb, hcs⟩, hbk⟩
  replace kZ1 := hbk.blk kZ1 (by omega)
  replace hb1 := hb1.trans hbk
  clear kZ b0 b1 hbk hP0 hP
  have hw1 := kZ1.lt
  rcases hcs with ⟨d, hc, hlt, hdd, rfl, hP1⟩ | ⟨d, hc, rfl, hP1⟩
  · have hg := hG.at b
    obtain ⟨T, hT⟩ : ∃ T, at' ts b = T := ⟨_, rfl⟩
    obtain ⟨E, hE⟩ : ∃ E, at' ts d = E := ⟨_, rfl⟩
    have hbad : abV T = none → nthV (ts.drop a) = none := fun h => nth_bad hdb (by rw [hT]; exact h)
    have hsome : ∀ x : Int × Int, abV T = some x → nthV (ts.drop a) = if E.kind = 17 then some (x.1, x.2, ts.drop (d + 1)) else none := fun x h => by
      rw [nth_some hdb (by rw [hT]; exact h) hdd, hE]
    have hab : abV T = if T.kind = 1 ∧ lowOf T = oddT then some (2, 1) else if T.kind = 1 ∧ lowOf T = evenT then some (2, 0) else if T.kind = 6 ∧ T.whole = true then some (0, T.n.tdiv 1000) else none := rfl
    rw [hT] at hg hc ⊢
    have hc' : T.kind = 1 ∨ T.kind = 6 := by simpa using hc
    clear hc hT
    obtain ⟨bO, kO⟩ := tok_new w1 T
    have hP2 := hP1.below bO
    have hb2 : But R w _ := hb1.trans (.of_below bO)
    replace kZ1 := kZ1.below bO hw1
    have hR1 := hP1.lt
    unfold tkV
    go_upto_region 2 with fail
    generalize w1.alloc (.cells #[.int .i64 T.kind, .string T.text, .int .i64 T.n, .bool T.whole, .int .i64 T.c] 58) = w2 at *
    have h3 := passes_any n₀ R v ts d deep 17 w2 hP2 (by decide)
    rw [hE] at h3
    by_cases h17 : E.kind = 17
    · rw [decide_eq_true h17, if_pos h17] at h3
      simp only [h17, if_true] at hsome
      clear h17 hE
      go_wp2_with fail
      refine h3.mono ?_
      clear h3
      rintro e w3 ⟨rfl, hP3, hb3⟩
      replace kO := hb3.blk kO (by omega)
      replace kZ1 := hb3.blk kZ1 (by omega)
      replace hb3 := hb2.trans hb3
      obtain ⟨⟨t0, t1, t2, t3, t4⟩, _⟩ := blk5 kO
      obtain ⟨⟨z0, z1, z2, z3⟩, f0, f1, f2, f3⟩ := blk4 kZ1
      by_cases h6 : T.kind = 6
      · have hn := tdiv_wrap hg.2.1 hg.2.2
        rw [h6] at t0
        cases hw : T.whole with
        | true =>
          have hv := hsome (0, T.n.tdiv 1000) (by rw [hab, if_neg (by omega), if_neg (by omega), if_pos ⟨h6, hw⟩])
          rw [hw] at t3
          clear hbad hsome hab h6 hw
          go_wp2
          go_region_law (fail)
          all_goals
            go_wp2
            refine bodyPost_ret (results_struct_tmp rfl _ _ w.heap.size _ rfl (load_ps (blk_set4 kZ1 (.int .i64 6) (.int .i64 0) (.int .i64 (T.n.tdiv 1000)) (.slice none 0 0)))) rfl ?_
            exact ⟨.inl ⟨0, T.n.tdiv 1000, d + 1, hv, rfl, Rd.drew (hP3.other4 (C := w.heap.size) (by omega) (by omega) _ _ _ _)⟩, (hb3.fresh4 (Nat.le_refl _) _ _ _ _).drew⟩
        | false =>
          have hv := hbad (by rw [hab, if_neg (by omega), if_neg (by omega), if_neg (by rw [hw]; simp)])
          rw [hw] at t3
          clear hbad hsome hab h6 hw
          go_wp2
          go_region_law (fail)
          all_goals
            go_wp2
            refine bodyPost_ret (results_struct_tmp rfl _ _ w.heap.size _ rfl (load_ps (blk_set4 kZ1 (.int .i64 6) (.int .i64 0) (.int .i64 (T.n.tdiv 1000)) (.slice none 0 0)))) rfl ?_
            exact ⟨.inr ⟨hv, ⟨6, 0, T.n.tdiv 1000, rfl⟩, d + 1, Rd.drew (hP3.other4 (C := w.heap.size) (by omega) (by omega) _ _ _ _)⟩, (hb3.fresh4 (Nat.le_refl _) _ _ _ _).drew⟩
      · have h1 : T.kind = 1 := by omega
        rw [h1] at t0
        have hlow := Lw.lower_any T.text w3 (by unfold maxLen; omega)
        have hlw : lowOf T = Lw.low T.text.data.toList := rfl
        have hz : (⟨(Lw.low T.text.data.toList).toArray⟩ : ByteArray).data.toList = lowOf T := rfl
        obtain ⟨z, hzz⟩ : ∃ z : ByteArray, (⟨(Lw.low T.text.data.toList).toArray⟩ : ByteArray) = z := ⟨_, rfl⟩
        rw [hzz] at hlow hz
        clear hlw hzz
        rw [← hz] at hab
        have ho1 : z.data.toList = oddT → abV T = some (2, 1) := fun h => by rw [hab, if_pos ⟨h1, h⟩]
        have he1 : ¬ z.data.toList = oddT → z.data.toList = evenT → abV T = some (2, 0) := fun h h' => by rw [hab, if_neg (fun x => h x.2), if_pos ⟨h1, h'⟩]
        have hn1 : ¬ z.data.toList = oddT → ¬ z.data.toList = evenT → abV T = none := fun h h' => by rw [hab, if_neg (fun x => h x.2), if_neg (fun x => h' x.2), if_neg (by omega)]
        clear hab h6 h1 hz
        by_cases go : z.data.toList = oddT
        · have hv := hsome _ (ho1 go)
          clear hbad hsome ho1 he1 hn1
          obtain rfl := str_is go
          unfold oddT at hlow
          clear go
          go_wp2_with fail
          refine hlow.mono ?_
          clear hlow
          rintro e w4 ⟨rfl, b4⟩
          replace kZ1 := kZ1.below b4 kZ1.lt
          obtain ⟨⟨z0, z1, z2, z3⟩, f0, f1, f2, f3⟩ := blk4 kZ1
          go_wp2
          refine bodyPost_ret (results_struct_tmp rfl _ _ w.heap.size _ rfl (load_ps (blk_set4 kZ1 (.int .i64 6) (.int .i64 2) (.int .i64 1) (.slice none 0 0)))) rfl ?_
          exact ⟨.inl ⟨2, 1, d + 1, hv, rfl, (hP3.below b4).other4 (by omega) (by omega) _ _ _ _⟩, (hb3.trans (.of_below b4)).fresh4 (Nat.le_refl _) _ _ _ _⟩
        · by_cases ge : z.data.toList = evenT
          · have hv := hsome _ (he1 go ge)
            clear hbad hsome ho1 he1 hn1 go
            obtain rfl := str_is ge
            unfold evenT at hlow
            clear ge
            go_wp2_with fail
            refine hlow.mono ?_
            clear hlow
            rintro e w4 ⟨rfl, b4⟩
            replace kZ1 := kZ1.below b4 kZ1.lt
            obtain ⟨⟨z0, z1, z2, z3⟩, f0, f1, f2, f3⟩ := blk4 kZ1
            go_wp2
            refine bodyPost_ret (results_struct_tmp rfl _ _ w.heap.size _ rfl (load_ps (blk_set4 kZ1 (.int .i64 6) (.int .i64 2) (.int .i64 0) (.slice none 0 0)))) rfl ?_
            exact ⟨.inl ⟨2, 0, d + 1, hv, rfl, (hP3.below b4).other4 (by omega) (by omega) _ _ _ _⟩, (hb3.trans (.of_below b4)).fresh4 (Nat.le_refl _) _ _ _ _⟩
          · have hv := hbad (hn1 go ge)
            replace go := str_ne go
            replace ge := str_ne ge
            unfold oddT at go
            unfold evenT at ge
            clear hbad hsome ho1 he1 hn1
            go_wp2_with fail
            refine hlow.mono ?_
            clear hlow
            rintro e w4 ⟨rfl, b4⟩
            replace kZ1 := kZ1.below b4 kZ1.lt
            obtain ⟨⟨z0, z1, z2, z3⟩, f0, f1, f2, f3⟩ := blk4 kZ1
            go_wp2
            refine bodyPost_ret (results_struct_tmp rfl _ _ w.heap.size _ rfl (load_ps (blk_set4 kZ1 (.int .i64 0) (.int .i64 0) (.int .i64 0) (.slice none 0 0)))) rfl ?_
            exact ⟨.inr ⟨hv, ⟨0, 0, 0, rfl⟩, d + 1, (hP3.below b4).other4 (by omega) (by omega) _ _ _ _⟩, (hb3.trans (.of_below b4)).fresh4 (Nat.le_refl _) _ _ _ _⟩
    · rw [decide_eq_false h17, if_neg h17] at h3
      have hv : nthV (ts.drop a) = none := by
        cases h : abV T with
        | none => exact hbad h
        | some x => rw [hsome x h, if_neg h17]
      clear h17 hE hbad hsome hab
      go_wp2_with fail
      refine h3.mono ?_
      clear h3
      rintro e w3 ⟨rfl, hP3, hb3⟩
      replace kZ1 := hb3.blk kZ1 (by omega)
      replace hb3 := hb2.trans hb3
      obtain ⟨⟨z0, z1, z2, z3⟩, f0, f1, f2, f3⟩ := blk4 kZ1
      go_wp2
      refine bodyPost_ret (results_struct_tmp rfl _ _ w.heap.size _ rfl (load_ps (blk_set4 kZ1 (.int .i64 0) (.int .i64 0) (.int .i64 0) (.slice none 0 0)))) rfl ?_
      exact ⟨.inr ⟨hv, ⟨0, 0, 0, rfl⟩, d, hP3.other4 (by omega) (by omega) _ _ _ _⟩, hb3.fresh4 (Nat.le_refl _) _ _ _ _⟩
  · have hv : nthV (ts.drop a) = none := nth_bad hdb (by
      have : ¬ ((at' ts b).kind = 1 ∨ (at' ts b).kind = 6) := by simpa using hc
      unfold abV
      rw [if_neg (by omega), if_neg (by omega), if_neg (by omega)])
    obtain ⟨bO, kO⟩ := tok_new w1 zeroT
    unfold zeroT at bO
    replace kZ1 := kZ1.below bO hw1
    have hP2 := hP1.below bO
    have hb2 : But R w _ := hb1.trans (.of_below bO)
    have hR1 := hP1.lt
    clear hc kO
    unfold tkV zeroT
    go_upto_region 2 with fail
    generalize w1.alloc (.cells #[.int .i64 0, .string ⟨#[]⟩, .int .i64 0, .bool false, .int .i64 0] 58) = w2 at *
    obtain ⟨⟨z0, z1, z2, z3⟩, f0, f1, f2, f3⟩ := blk4 kZ1
    go_wp2
    refine bodyPost_ret (results_struct_tmp rfl _ _ w.heap.size _ rfl (load_ps (blk_set4 kZ1 (.int .i64 0) (.int .i64 0) (.int .i64 0) (.slice none 0 0)))) rfl ?_
    exact ⟨.inr ⟨hv, ⟨0, 0, 0, rfl⟩, d, hP2.other4 (by omega) (by omega) _ _ _ _⟩, hb2.fresh4 (Nat.le_refl _) _ _ _ _⟩

end Go.Proofs.YtkhgmobependiaaDoor.Sl

/- The reader of selectors: attributes. -/
namespace Go.Proofs.YtkhgmobependiaaDoor.Sl
open Go.Proofs.YtkhgmobependiaaDoor.Tre
open Go Go.RowKit Go.Shelf

/-! ### by places -/
theorem attr_noname {ts : List Bt} {a b : Nat} (hb : ts.drop b = dropW (ts.drop a)) (h : ¬ (at' ts b).kind = 1) : attrV (ts.drop a) = none := by
  unfold attrV
  rw [← hb]
  by_cases hl : b < ts.length
  · rw [at_cons hl]
    simp only [if_neg h]
  · rw [List.drop_eq_nil_of_le (by omega)]
theorem attr_has {ts : List Bt} {a b d : Nat} (hb : ts.drop b = dropW (ts.drop a)) (h : (at' ts b).kind = 1) (hd : ts.drop d = dropW (ts.drop (b + 1))) (h2 : (at' ts d).kind = 19) : attrV (ts.drop a) = some (⟨lowS (at' ts b).text, 0, ⟨#[]⟩⟩, ts.drop (d + 1)) := by
  have hl : b < ts.length := at_lt (by rw [h]; decide)
  have hl2 : d < ts.length := at_lt (by rw [h2]; decide)
  unfold attrV
  rw [← hb, at_cons hl]
  simp only [if_pos h, ← hd]
  rw [at_cons hl2]
  simp only [if_pos h2]
theorem attr_noop {ts : List Bt} {a b d : Nat} (hb : ts.drop b = dropW (ts.drop a)) (h : (at' ts b).kind = 1) (hd : ts.drop d = dropW (ts.drop (b + 1))) (h2 : ¬ (at' ts d).kind = 19) (ho : opV (ts.drop d) = none) : attrV (ts.drop a) = none := by
  have hl : b < ts.length := at_lt (by rw [h]; decide)
  unfold attrV
  rw [← hb, at_cons hl]
  simp only [if_pos h, ← hd]
  by_cases hl2 : d < ts.length
  · rw [at_cons hl2] at ho ⊢
    simp only [if_neg h2, ho, Option.bind_none]
  · rw [List.drop_eq_nil_of_le (by omega)]
theorem opV_ne {ts : List Bt} {d : Nat} {o : Int × List Bt} (ho : opV (ts.drop d) = some o) : d < ts.length := by
  by_cases hl : d < ts.length
  · exact hl
  · rw [List.drop_eq_nil_of_le (by omega)] at ho
    cases ho
theorem attr_op {ts : List Bt} {a b d f g : Nat} {o : Int} (hb : ts.drop b = dropW (ts.drop a)) (h : (at' ts b).kind = 1) (hd : ts.drop d = dropW (ts.drop (b + 1))) (h2 : ¬ (at' ts d).kind = 19) (ho : opV (ts.drop d) = some (o, ts.drop f)) (hg : ts.drop g = dropW (ts.drop f)) :
    attrV (ts.drop a) = if (at' ts g).kind = 1 ∨ (at' ts g).kind = 4 then (match dropW (ts.drop (g + 1)) with
      | e :: r6 => if e.kind = 19 then some (⟨lowS (at' ts b).text, o, (at' ts g).text⟩, r6) else none
      | [] => none) else none := by
  have hl : b < ts.length := at_lt (by rw [h]; decide)
  have hl2 := opV_ne ho
  unfold attrV
  rw [← hb, at_cons hl]
  simp only [if_pos h, ← hd]
  rw [at_cons hl2] at ho ⊢
  simp only [if_neg h2, ho, Option.bind_some, ← hg]
  by_cases hl3 : g < ts.length
  · rw [at_cons hl3]
    rfl
  · have hz := at_none (ts := ts) (a := g) (by omega)
    rw [hz.1, hz.2]
    rfl
theorem last_at {ts : List Bt} {j : Nat} {α : Type} (x : α) : (match ts.drop j with
      | e :: r6 => if e.kind = 19 then some (x, r6) else none
      | [] => none) = if (at' ts j).kind = 19 then some (x, ts.drop (j + 1)) else none := by
  by_cases hl : j < ts.length
  · rw [at_cons hl]
  · rw [List.drop_eq_nil_of_le (by omega), (at_none (by omega)).2]
    rfl

theorem infoAt : (Tryd.prog.info? 87).map (·.size) = some 3 := by kernel_rfl
theorem load_at {w : World} {g : Nat} {a b c : Value} (h : Blk w g 87 [a, b, c]) : (loadVar 87 ⟨g, 0, none⟩).run Tryd.prog w = .ok (.agg #[a, b, c]) w :=
  run_loadVar_row w g _ 87 #[a, b, c] (0, 0) _ h Tryd.underlying87 rfl infoAt
/-- An attribute's condition as a value. -/
def atV (n : ByteArray) (o : Int) (t : ByteArray) : Value := .agg #[.string n, .int .i64 o, .string t]

set_option maxRecDepth 100000 in
set_option maxHeartbeats 4000000 in
theorem attribute_any (n₀ R : Nat) (v : Value) (ts : List Bt) (a : Nat) (deep : Int) (w : World) (hP : Rd n₀ w R v ts a deep) (hS : OpsAt n₀ w) (hG : Good ts) :
    Calls Tryd.prog 53 #[.pointer (some ⟨R, 0, none⟩)] w fun e w' => ((∃ x b, attrV (ts.drop a) = some (x, ts.drop b) ∧ e = .returned (.tuple #[atV x.name x.op x.text, .bool true]) ∧ Rd n₀ w' R v ts b deep) ∨ (attrV (ts.drop a) = none ∧ (∃ n o t, e = .returned (.tuple #[atV n o t, .bool false])) ∧ ∃ b, Rd n₀ w' R v ts b deep)) ∧ But R w w' := by
  have hR := hP.lt
  have hlo := hP.low
  have b0 : Below w.heap.size w (w.alloc (.cells #[.string ⟨#[]⟩, .int .i64 0, .string ⟨#[]⟩] 87)) := (Below.refl _ _).alloc (Nat.le_refl _) _
  have kZ : Blk (w.alloc (.cells #[.string ⟨#[]⟩, .int .i64 0, .string ⟨#[]⟩] 87)) w.heap.size 87 [.string ⟨#[]⟩, .int .i64 0, .string ⟨#[]⟩] := Blk.new w 87 _
  have hP0 := hP.below b0
  have hOps : ∀ W', But R w W' → OpsAt n₀ W' := fun W' hb => hS.below (hb.below (by omega) (fun b hb => by omega))
  have HO : Hid (∀ W', But R w W' → OpsAt n₀ W') := hOps
  clear hOps hS
  unfold atV
  go_enter Tryd.func53, Tryd.ntmps53
  go_upto_region 1 with fail
  generalize w.alloc (.cells #[.string ⟨#[]⟩, .int .i64 0, .string ⟨#[]⟩] 87) = W0 at *
  have b1 : Below W0.heap.size W0 (W0.alloc (.cells #[.int .i64 1] 3)) := (Below.refl _ _).alloc (Nat.le_refl _) _
  have h1 := pullAmid_any n₀ R v ts a deep (W0.alloc (.cells #[.int .i64 1] 3)) (hP0.below b1) (.slice (some ⟨W0.heap.size, 0, none⟩) 1 1) [1] (ints_amid W0 R [1] (by simp) hP0.lt n₀) (by simp) rfl
  have hb1 : But R w (W0.alloc (.cells #[.int .i64 1] 3)) := (Kept.of_below b0).trans (.of_below b1)
  have kZ1 := kZ.below b1 kZ.lt
  go_wp2_with fail
  refine h1.mono ?_
  clear h1
  rintro e w1 ⟨⟨b, hdb, hcs⟩, hbk⟩
  replace kZ1 := hbk.blk kZ1 (by omega)
  replace hb1 := hb1.trans hbk
  clear kZ b0 b1 hbk hP0 hP
  have hw1 := kZ1.lt
  rcases hcs with ⟨d, hc, hlt, hdd, rfl, hP1⟩ | ⟨d, hc, rfl, hP1⟩
  · have hg := hG.at b
    have hk1 : (at' ts b).kind = 1 := by simpa using hc
    have hA1 := fun h => attr_has (d := d) hdb hk1 hdd h
    have hA2 := fun h h' => attr_noop (d := d) hdb hk1 hdd h h'
    have hA3 := fun f g o h => attr_op (d := d) (f := f) (g := g) (o := o) hdb hk1 hdd h
    obtain ⟨V, hV⟩ : ∃ V, attrV (ts.drop a) = V := ⟨_, rfl⟩
    rw [hV] at hA1 hA2 hA3
    have HA1 : Hid ((at' ts d).kind = 19 → V = some (⟨lowS (at' ts b).text, 0, ⟨#[]⟩⟩, ts.drop (d + 1))) := hA1
    have HA2 : Hid (¬ (at' ts d).kind = 19 → opV (ts.drop d) = none → V = none) := hA2
    have HA3 : Hid (∀ (f g : Nat) (o : Int), ¬ (at' ts d).kind = 19 → opV (ts.drop d) = some (o, ts.drop f) → ts.drop g = dropW (ts.drop f) → V = if (at' ts g).kind = 1 ∨ (at' ts g).kind = 4 then (match dropW (ts.drop (g + 1)) with
      | e :: r6 => if e.kind = 19 then some (⟨lowS (at' ts b).text, o, (at' ts g).text⟩, r6) else none
      | [] => none) else none) := hA3
    have HV : Hid (attrV (ts.drop a) = V) := hV
    clear hA1 hA2 hA3 hV hc hk1
    generalize at' ts b = T at *
    obtain ⟨bO, kO⟩ := tok_new w1 T
    have hP2 := hP1.below bO
    have hb2 : But R w _ := hb1.trans (.of_below bO)
    replace kZ1 := kZ1.below bO hw1
    have hR1 := hP1.lt
    unfold tkV
    go_upto_region 4 with fail
    generalize w1.alloc (.cells #[.int .i64 T.kind, .string T.text, .int .i64 T.n, .bool T.whole, .int .i64 T.c] 58) = w2 at *
    obtain ⟨⟨t0, t1, t2, t3, t4⟩, _⟩ := blk5 kO
    have hlow := Lw.lower_any T.text w2 (by unfold maxLen; omega)
    rw [show (⟨(Lw.low T.text.data.toList).toArray⟩ : ByteArray) = lowS T.text from rfl] at hlow
    generalize lowS T.text = nm at *
    go_wp2_with fail
    refine hlow.mono ?_
    clear hlow t0 t1 t2 t3 t4 kO
    rintro e w3 ⟨rfl, b3⟩
    replace kZ1 := kZ1.below b3 kZ1.lt
    have hw3 := kZ1.lt
    have bA : Below w3.heap.size w3 (w3.alloc (.cells #[.string nm, .int .i64 0, .string ⟨#[]⟩] 87)) := (Below.refl _ _).alloc (Nat.le_refl _) _
    have kA : Blk (w3.alloc (.cells #[.string nm, .int .i64 0, .string ⟨#[]⟩] 87)) w3.heap.size 87 [.string nm, .int .i64 0, .string ⟨#[]⟩] := Blk.new w3 87 _
    have hP4 := (hP2.below b3).below bA
    have hb4 : But R w _ := (hb2.trans (.of_below b3)).trans (.of_below bA)
    replace kZ1 := kZ1.below bA hw3
    have hR3 := (hP2.below b3).lt
    go_upto_region 5 with fail
    generalize w3.alloc (.cells #[.string nm, .int .i64 0, .string ⟨#[]⟩] 87) = w4 at *
    clear b3 bA bO hP2 hP1 hb1 hb2
    generalize w3.heap.size = BA at *
    have h5 := passes_any n₀ R v ts d deep 19 w4 hP4 (by decide)
    by_cases h19 : (at' ts d).kind = 19
    · rw [decide_eq_true h19, if_pos h19] at h5
      have hv := (show _ → _ from HA1) h19
      clear HA1 HA2 HA3 HO h19
      go_wp2_with fail
      refine h5.mono ?_
      clear h5
      rintro e w5 ⟨rfl, hP5, hb5⟩
      replace kZ1 := hb5.blk kZ1 (by omega)
      replace kA := hb5.blk kA (by omega)
      replace hb5 := hb4.trans hb5
      obtain ⟨⟨a0, a1, a2⟩, _⟩ := blk3 kA
      obtain ⟨⟨z0, z1, z2⟩, f0, f1, f2⟩ := blk3 kZ1
      go_wp2
      refine bodyPost_ret (results_struct_tmp rfl _ _ w.heap.size _ rfl (load_at (blk_set3 kZ1 (.string nm) (.int .i64 0) (.string ⟨#[]⟩)))) rfl ?_
      exact ⟨.inl ⟨⟨nm, 0, ⟨#[]⟩⟩, d + 1, (show _ = _ from HV).trans hv, rfl, hP5.other3 (by omega) (by omega) _ _ _⟩, hb5.fresh3 (Nat.le_refl _) _ _ _⟩
    · rw [decide_eq_false h19, if_neg h19] at h5
      have HA2' : Hid (opV (ts.drop d) = none → V = none) := (show _ → _ from HA2) h19
      have HA3' : Hid (∀ (f g : Nat) (o : Int), opV (ts.drop d) = some (o, ts.drop f) → ts.drop g = dropW (ts.drop f) → V = if (at' ts g).kind = 1 ∨ (at' ts g).kind = 4 then (match dropW (ts.drop (g + 1)) with
        | e :: r6 => if e.kind = 19 then some (⟨nm, o, (at' ts g).text⟩, r6) else none
        | [] => none) else none) := fun f g o => (show ∀ (f g : Nat) (o : Int), _ → _ from HA3) f g o h19
      clear HA1 HA2 HA3 h19
      go_wp2_with fail
      refine h5.mono ?_
      clear h5
      rintro e w5 ⟨rfl, hP5, hb5⟩
      replace kZ1 := hb5.blk kZ1 (by omega)
      replace kA := hb5.blk kA (by omega)
      replace hb5 := hb4.trans hb5
      clear hb4 hP4
      have h6 := operator_any n₀ R v ts d deep w5 hP5 ((show ∀ _, _ → _ from HO) w5 hb5)
      clear HO
      go_wp2_with fail
      refine h6.mono ?_
      clear h6
      rintro e w6 ⟨hcs, hb6⟩
      replace kZ1 := hb6.blk kZ1 (by omega)
      replace kA := hb6.blk kA (by omega)
      replace hb6 := hb5.trans hb6
      clear hb5 hP5
      rcases hcs with ⟨o, f, hov, rfl, hP6⟩ | ⟨hov, ⟨o, rfl⟩, f, hP6⟩
      · have HA4 : Hid (∀ (g : Nat), ts.drop g = dropW (ts.drop f) → V = if (at' ts g).kind = 1 ∨ (at' ts g).kind = 4 then (match dropW (ts.drop (g + 1)) with
          | e :: r6 => if e.kind = 19 then some (⟨nm, o, (at' ts g).text⟩, r6) else none
          | [] => none) else none) := fun g => (show ∀ (f g : Nat) (o : Int), _ → _ from HA3') f g o hov
        clear HA2' HA3' hov
        obtain ⟨⟨a0, a1, a2⟩, g0, g1, g2⟩ := blk3 kA
        have kA7 := blk_put kA 1 (.int .i64 o)
        simp only [List.set_cons_succ, List.set_cons_zero] at kA7
        have hP7 := hP6.other (C := BA) (i := 1) (by omega) (by omega) (.int .i64 o)
        have hb7 := hb6.fresh (C := BA) (i := 1) (by omega) (.int .i64 o)
        have kZ7 := kZ1.kept (grown_set w6 BA 1 (.int .i64 o)) (by simp; omega)
        go_upto_region 10 with fail
        generalize w6.setCell ⟨BA, 1, none⟩ (.int .i64 o) = w7 at *
        clear a0 a1 a2 g0 g1 g2 kA kZ1 hP6 hb6
        have hw7 := kA7.lt
        have b8 : Below w7.heap.size w7 (w7.alloc (.cells #[.int .i64 1, .int .i64 4] 3)) := (Below.refl _ _).alloc (Nat.le_refl _) _
        have h8 := pullAmid_any n₀ R v ts f deep (w7.alloc (.cells #[.int .i64 1, .int .i64 4] 3)) (hP7.below b8) (.slice (some ⟨w7.heap.size, 0, none⟩) 2 2) [1, 4] (ints_amid w7 R [1, 4] (by simp) hP7.lt n₀) (by simp) rfl
        have hb8 : But R w (w7.alloc (.cells #[.int .i64 1, .int .i64 4] 3)) := hb7.trans (.of_below b8)
        replace kZ7 := kZ7.below b8 kZ7.lt
        replace kA7 := kA7.below b8 kA7.lt
        go_wp2_with fail
        refine h8.mono ?_
        clear h8
        rintro e w9 ⟨⟨g, hdg, hcs⟩, hbk⟩
        replace kZ7 := hbk.blk kZ7 (by omega)
        replace kA7 := hbk.blk kA7 (by omega)
        replace hb8 := hb8.trans hbk
        have hv := (show ∀ (g : Nat), _ → _ from HA4) g hdg
        clear HA4 b8 hbk hP7 hb7
        have hw9 := kA7.lt
        have hw9' := kZ7.lt
        rcases hcs with ⟨h, hc, hgl, hdh, rfl, hP9⟩ | ⟨h, hc, rfl, hP9⟩
        · have hk : (at' ts g).kind = 1 ∨ (at' ts g).kind = 4 := by simpa using hc
          rw [if_pos hk, ← hdh, last_at] at hv
          have hgg := hG.at g
          clear hc hk
          generalize at' ts g = X at *
          obtain ⟨bX, kX⟩ := tok_new w9 X
          have hPx := hP9.below bX
          have hbx : But R w _ := hb8.trans (.of_below bX)
          replace kZ7 := kZ7.below bX hw9'
          replace kA7 := kA7.below bX hw9
          unfold tkV
          go_upto_region 11 with fail
          generalize w9.alloc (.cells #[.int .i64 X.kind, .string X.text, .int .i64 X.n, .bool X.whole, .int .i64 X.c] 58) = wx at *
          obtain ⟨⟨t0, t1, t2, t3, t4⟩, _⟩ := blk5 kX
          have hcl := clone_any wx X.text (by omega)
          generalize X.text = tx at *
          go_wp2_with fail
          refine hcl.mono ?_
          clear hcl t0 t1 t2 t3 t4 kX bX
          rintro e wy ⟨rfl, by1⟩
          replace kZ7 := kZ7.below by1 kZ7.lt
          replace kA7 := kA7.below by1 kA7.lt
          replace hPx := hPx.below by1
          replace hbx := hbx.trans (.of_below by1)
          obtain ⟨⟨a0, a1, a2⟩, g0, g1, g2⟩ := blk3 kA7
          have kA8 := blk_put kA7 2 (.string tx)
          simp only [List.set_cons_succ, List.set_cons_zero] at kA8
          have hPz := hPx.other (C := BA) (i := 2) (by omega) (by omega) (.string tx)
          have hbz := hbx.fresh (C := BA) (i := 2) (by omega) (.string tx)
          have kZ8 := kZ7.kept (grown_set wy BA 2 (.string tx)) (by simp; omega)
          clear hP9 hb8 by1
          go_upto_region 12 with fail
          generalize wy.setCell ⟨BA, 2, none⟩ (.string tx) = wz at *
          clear a0 a1 a2 g0 g1 g2 kA7 kZ7 hPx hbx hw9 hw9' hw7
          have HPA := fun X hX => passes_any n₀ R v ts h deep 19 X hX (by decide)
          have hRz := hPz.lt
          have HS : Hid (∀ X, But R wz X → X.cell? ⟨BA, 0, none⟩ = some (.string nm) ∧ X.cell? ⟨BA, 1, none⟩ = some (.int .i64 o) ∧ X.cell? ⟨BA, 2, none⟩ = some (.string tx)) := fun X hX => by
            obtain ⟨⟨u0, u1, u2⟩, _⟩ := blk3 (hX.blk kA8 (by omega))
            exact ⟨u0, u1, u2⟩
          have hbd : But R wz wz.drew := (Kept.refl _ _).drew
          replace HPA := HPA wz.drew (Rd.drew hPz)
          have hZR : w.heap.size ≠ R := by omega
          have hBA1 : BA ≠ w.heap.size := by omega
          have hBA2 : w.heap.size ≠ BA := by omega
          by_cases h19 : (at' ts h).kind = 19
          · rw [decide_eq_true h19, if_pos h19] at HPA
            rw [if_pos h19] at hv
            clear h19
            go_region_held (fun X => X.cell? ⟨BA, 0, none⟩ = some (.string nm) ∧ X.cell? ⟨BA, 1, none⟩ = some (.int .i64 o) ∧ X.cell? ⟨BA, 2, none⟩ = some (.string tx)) (first | exact (show ∀ X : World, But R wz X → X.cell? ⟨BA, 0, none⟩ = some (.string nm) ∧ X.cell? ⟨BA, 1, none⟩ = some (.int .i64 o) ∧ X.cell? ⟨BA, 2, none⟩ = some (.string tx) from HS) _ (by assumption) | go_keep) (first | (go_at_call 12; refine Calls.mono HPA ?_; rintro e wq ⟨rfl, hPq, hbq0⟩; have hbq : But R wz wq := Kept.trans hbd hbq0; obtain ⟨⟨y0, y1, y2⟩, e0, e1, e2⟩ := blk3 (Kept.blk hbq kZ8 hZR)))
            all_goals
              go_wp2
              refine bodyPost_ret (results_struct_tmp rfl _ _ w.heap.size _ rfl (load_at (blk_set3 (hbq.blk kZ8 (by omega)) (.string nm) (.int .i64 o) (.string tx)))) rfl ?_
              exact ⟨.inl ⟨⟨nm, o, tx⟩, h + 1, (show _ = _ from HV).trans hv, rfl, hPq.other3 (C := w.heap.size) (by omega) (by omega) _ _ _⟩, (hbz.trans hbq).fresh3 (Nat.le_refl _) _ _ _⟩
          · rw [decide_eq_false h19, if_neg h19] at HPA
            rw [if_neg h19] at hv
            clear h19
            go_region_held (fun X => X.cell? ⟨BA, 0, none⟩ = some (.string nm) ∧ X.cell? ⟨BA, 1, none⟩ = some (.int .i64 o) ∧ X.cell? ⟨BA, 2, none⟩ = some (.string tx)) (first | exact (show ∀ X : World, But R wz X → X.cell? ⟨BA, 0, none⟩ = some (.string nm) ∧ X.cell? ⟨BA, 1, none⟩ = some (.int .i64 o) ∧ X.cell? ⟨BA, 2, none⟩ = some (.string tx) from HS) _ (by assumption) | go_keep) (first | (go_at_call 12; refine Calls.mono HPA ?_; rintro e wq ⟨rfl, hPq, hbq0⟩; have hbq : But R wz wq := Kept.trans hbd hbq0; obtain ⟨⟨y0, y1, y2⟩, e0, e1, e2⟩ := blk3 (Kept.blk hbq kZ8 hZR)))
            all_goals
              go_wp2
              refine bodyPost_ret (results_struct_tmp rfl _ _ w.heap.size _ rfl (load_at (blk_set3 (hbq.blk kZ8 (by omega)) (.string nm) (.int .i64 o) (.string tx)))) rfl ?_
              exact ⟨.inr ⟨(show _ = _ from HV).trans hv, ⟨nm, o, tx, rfl⟩, h, hPq.other3 (C := w.heap.size) (by omega) (by omega) _ _ _⟩, (hbz.trans hbq).fresh3 (Nat.le_refl _) _ _ _⟩
        · have hk : ¬ ((at' ts g).kind = 1 ∨ (at' ts g).kind = 4) := by simpa using hc
          rw [if_neg hk] at hv
          clear hc hk
          obtain ⟨bX, kX⟩ := tok_new w9 zeroT
          unfold zeroT at bX kX
          have hPx := hP9.below bX
          have hbx : But R w _ := hb8.trans (.of_below bX)
          replace kZ7 := kZ7.below bX hw9'
          replace kA7 := kA7.below bX hw9
          unfold tkV zeroT
          go_upto_region 11 with fail
          generalize w9.alloc (.cells #[.int .i64 0, .string ⟨#[]⟩, .int .i64 0, .bool false, .int .i64 0] 58) = wx at *
          obtain ⟨⟨t0, t1, t2, t3, t4⟩, _⟩ := blk5 kX
          have hcl := clone_any wx ⟨#[]⟩ (by decide)
          go_wp2_with fail
          refine hcl.mono ?_
          clear hcl t0 t1 t2 t3 t4 kX bX
          rintro e wy ⟨rfl, by1⟩
          replace kZ7 := kZ7.below by1 kZ7.lt
          replace kA7 := kA7.below by1 kA7.lt
          replace hPx := hPx.below by1
          replace hbx := hbx.trans (.of_below by1)
          obtain ⟨⟨a0, a1, a2⟩, g0, g1, g2⟩ := blk3 kA7
          have kA8 := blk_put kA7 2 (.string ⟨#[]⟩)
          simp only [List.set_cons_succ, List.set_cons_zero] at kA8
          have hPz := hPx.other (C := BA) (i := 2) (by omega) (by omega) (.string ⟨#[]⟩)
          have hbz := hbx.fresh (C := BA) (i := 2) (by omega) (.string ⟨#[]⟩)
          have kZ8 := kZ7.kept (grown_set wy BA 2 (.string ⟨#[]⟩)) (by simp; omega)
          clear hP9 hb8 by1
          go_upto_region 12 with fail
          generalize wy.setCell ⟨BA, 2, none⟩ (.string ⟨#[]⟩) = wz at *
          clear a0 a1 a2 g0 g1 g2 kA7 kZ7 hPx hbx hw9 hw9' hw7
          have hRz := hPz.lt
          have hbd : But R wz wz.drew := (Kept.refl _ _).drew
          obtain ⟨⟨u0, u1, u2⟩, _⟩ := blk3 kA8
          obtain ⟨⟨y0, y1, y2⟩, e0, e1, e2⟩ := blk3 kZ8
          first | go_region_law (fail) | fail
          all_goals
            go_wp2
            refine bodyPost_ret (results_struct_tmp rfl _ _ w.heap.size _ rfl (load_at (blk_set3 (hbd.blk kZ8 (by omega)) (.string nm) (.int .i64 o) (.string ⟨#[]⟩)))) rfl ?_
            exact ⟨.inr ⟨(show _ = _ from HV).trans hv, ⟨nm, o, ⟨#[]⟩, rfl⟩, h, (Rd.drew hPz).other3 (C := w.heap.size) (by omega) (by omega) _ _ _⟩, (hbz.trans hbd).fresh3 (Nat.le_refl _) _ _ _⟩
      · have hv := (show _ → _ from HA2') hov
        clear HA2' HA3' hov
        obtain ⟨⟨a0, a1, a2⟩, g0, g1, g2⟩ := blk3 kA
        have hP7 := hP6.other (C := BA) (i := 1) (by omega) (by omega) (.int .i64 o)
        have hb7 := hb6.fresh (C := BA) (i := 1) (by omega) (.int .i64 o)
        have kZ7 := kZ1.kept (grown_set w6 BA 1 (.int .i64 o)) (by simp; omega)
        go_upto_region 8 with fail
        generalize w6.setCell ⟨BA, 1, none⟩ (.int .i64 o) = w7 at *
        clear a0 a1 a2 g0 g1 g2 kA kZ1 hP6 hb6
        obtain ⟨⟨z0, z1, z2⟩, f0, f1, f2⟩ := blk3 kZ7
        go_wp2
        refine bodyPost_ret (results_struct_tmp rfl _ _ w.heap.size _ rfl (load_at (blk_set3 kZ7 (.string ⟨#[]⟩) (.int .i64 0) (.string ⟨#[]⟩)))) rfl ?_
        exact ⟨.inr ⟨(show _ = _ from HV).trans hv, ⟨⟨#[]⟩, 0, ⟨#[]⟩, rfl⟩, f, hP7.other3 (by omega) (by omega) _ _ _⟩, hb7.fresh3 (Nat.le_refl _) _ _ _⟩
  · have hv : attrV (ts.drop a) = none := attr_noname hdb (by simpa using hc)
    obtain ⟨bO, kO⟩ := tok_new w1 zeroT
    unfold zeroT at bO
    replace kZ1 := kZ1.below bO hw1
    have hP2 := hP1.below bO
    have hb2 : But R w _ := hb1.trans (.of_below bO)
    have hR1 := hP1.lt
    clear hc kO HO
    unfold tkV zeroT
    go_upto_region 2 with fail
    generalize w1.alloc (.cells #[.int .i64 0, .string ⟨#[]⟩, .int .i64 0, .bool false, .int .i64 0] 58) = w2 at *
    obtain ⟨⟨z0, z1, z2⟩, f0, f1, f2⟩ := blk3 kZ1
    go_wp2
    refine bodyPost_ret (results_struct_tmp rfl _ _ w.heap.size _ rfl (load_at (blk_set3 kZ1 (.string ⟨#[]⟩) (.int .i64 0) (.string ⟨#[]⟩)))) rfl ?_
    exact ⟨.inr ⟨hv, ⟨⟨#[]⟩, 0, ⟨#[]⟩, rfl⟩, d, hP2.other3 (by omega) (by omega) _ _ _⟩, hb2.fresh3 (Nat.le_refl _) _ _ _⟩

end Go.Proofs.YtkhgmobependiaaDoor.Sl
