/- Package bloom: May and Count at every filter; the laws' own alive. -/
import Derived.Test.YtiaikkbmgnaikaaBlFlt
namespace Go.Proofs.Ytiaikkbmgnaikaa.Bl
open Go Go.RowKit Go.Shelf
attribute [local go_sem] Oper.semAt_some

theorem results_bool {fn : Func} {p : Tmp} (h : fn.results = #[.cell p 4]) (tmps : Array Value) (W : World) (g : Nat) (v : Value) (hp : tmps.getD p undef = .pointer (some ⟨g, 0, none⟩)) (hc : W.cell? ⟨g, 0, none⟩ = some v) : (results fn tmps).run Try.prog W = .ok v W := by
  have hp' : tmps[p]?.getD undef = .pointer (some ⟨g, 0, none⟩) := by simpa using hp
  have hl : (loadVar 4 ⟨g, 0, none⟩).run Try.prog W = .ok v W := by
    simp [loadVar, isAgg, Sem.run_bind, Result.andThen, load, hc, Sem.run]
  simp [results, h, hp', asAddr, hl]

set_option maxRecDepth 100000 in
set_option maxHeartbeats 300000 in
theorem may_any (b : Nat) (c : Nat → Nat) (h : Int) (w : World) (hf : FltAt w b c) :
    Calls Try.prog 20 #[.pointer (some ⟨b, 0, none⟩), .int .i64 h] w fun e w' => e = .returned (.bool (mayV c h)) ∧ Below w.heap.size w w' := by
  refine (callsIn_wide (n := 5)).1 ?_
  refine callsIn_of_wp_marks Try.func20 rfl trivial ?_ rfl
  simp only [Try.ntmps20, List.size_toArray, List.length_cons, List.length_nil, Nat.reduceAdd, Nat.reduceSub, Array.replicate_succ, Array.replicate_zero, List.push_toArray, List.append_toArray, List.nil_append, List.cons_append]
  have hbw := hf.lt
  obtain ⟨w1, hw1⟩ : ∃ w1, (w.alloc (.cells #[.pointer (some ⟨b, 0, none⟩)] 71)).alloc (.cells #[.bool false] 4) = w1 := ⟨_, rfl⟩
  have bF : w1.cell? ⟨w.heap.size, 0, none⟩ = some (.pointer (some ⟨b, 0, none⟩)) := by rw [← hw1]; exact ((Boxed.new w _ _).kept (World.grownBy_alloc _ _ none) (by simp)).cell
  have bR : Boxed w1 (w.heap.size + 1) 4 (.bool false) := by
    rw [← hw1]
    have := Boxed.new (w.alloc (.cells #[.pointer (some ⟨b, 0, none⟩)] 71)) 4 (.bool false)
    rwa [World.size_alloc] at this
  have b1 : Below w.heap.size w w1 := by rw [← hw1]; exact ((Below.refl _ w).alloc (Nat.le_refl _) _).alloc (by simp) _
  have s1 : w1.heap.size = w.heap.size + 2 := by rw [← hw1]; simp
  have HF : Hid (FltAt w b c) := hf
  have HB : Hid (_ ∧ _ ∧ _ ∧ _) := ⟨b1, s1, bF, bR⟩
  clear hf b1 s1 bF bR
  gi_wp2_with fail
  refine ⟨trivial, ?_⟩
  refine (callsIn_wide.2 (countersOf_any h w1)).mono ?_
  rintro e w2 ⟨rfl, hw2⟩
  obtain ⟨b1, s1, bF, bR⟩ := HB.out
  have b2 : Below w1.heap.size w1 w2 := by rw [hw2]; exact twoB_below h w1
  have s2 : w2.heap.size = w1.heap.size + 2 := by rw [hw2]; exact twoB_size h w1
  obtain ⟨c1, c2⟩ : w2.cell? ⟨w1.heap.size, 0, none⟩ = some (.int .u32 (firstV h)) ∧ w2.cell? ⟨w1.heap.size + 1, 0, none⟩ = some (.int .u32 (secondV h)) := by rw [hw2]; exact twoB_cells h w1
  have bF2 : w2.cell? ⟨w.heap.size, 0, none⟩ = some (.pointer (some ⟨b, 0, none⟩)) := (b2.cell (p := ⟨w.heap.size, 0, none⟩) (by simp; omega)).trans bF
  have bR2 : Boxed w2 (w.heap.size + 1) 4 (.bool false) := bR.kept (⟨b2.os, b2.tape, b2.output, b2.size, fun i hi _ => b2.block i hi⟩ : w1.grownBy w2 none) (by simp)
  have b12 : Below w.heap.size w w2 := b1.trans (b2.mono (by omega))
  have hf2 : FltAt w2 b c := HF.out.kept (b12.block b hbw)
  have HS : Hid (_ ∧ _ ∧ _ ∧ _) := ⟨b12, s1, s2, hf2⟩
  have HC : Hid (_ ∧ _ ∧ _ ∧ _) := ⟨c1, c2, bF2, bR2⟩
  clear hw1 hw2 b1 b2 s1 s2 b12 c1 c2 bF bF2 bR bR2 HB hf2
  gi_wp2_with fail
  refine wpIn_rangeFunc_D rfl (by decide) (gf := 40) (lb := #[.pointer (some ⟨w1.heap.size, 0, none⟩), .pointer (some ⟨w1.heap.size + 1, 0, none⟩)]) rfl trivial egCtr (ctr_seq 4 h w1.heap.size (w1.heap.size + 1) w2 HC.out.1 HC.out.2.1) (fun _ => rfl)
    (fun pre E X => (∀ r, E r ↔ r = w.heap.size + 1) ∧ Boxed X (w.heap.size + 1) 4 (.bool false) ∧ pre.all (fun i => decide (c i ≠ 0)) = true) (fun cd pre E X => cd = .ret ∧ (∀ r, E r ↔ r = w.heap.size + 1) ∧ Boxed X (w.heap.size + 1) 4 (.bool false) ∧ pre.all (fun i => decide (c i ≠ 0)) = false)
    (fun s E X Y hi hk => ⟨hi.1, by have := hk.same _ ((hi.1 _).2 rfl); exact this.trans hi.2.1, hi.2.2⟩) (fun cd s E X Y hi hk => ⟨hi.1, hi.2.1, by have := hk.same _ ((hi.2.1 _).2 rfl); exact this.trans hi.2.2.1, hi.2.2.2⟩) (fun r => r = w.heap.size + 1) (fun r e => by have := HS.out.2.1; have := HS.out.2.2.1; omega)
    (fun r hr e => by have := HS.out.2.1; omega) (fun r hr => ⟨by have := HS.out.2.2.1; omega, rfl⟩) (Nat.le_refl _) ⟨fun _ => Iff.rfl, HC.out.2.2.2, rfl⟩
    (fun pre y E a' X => ((∀ r, E r ↔ r = w.heap.size + 1) ∧ Boxed X (w.heap.size + 1) 4 (.bool false) ∧ pre.all (fun i => decide (c i ≠ 0)) = true) ∧ a' = { tmps := #[.pointer (some ⟨b, 0, none⟩), .int .i64 h, .pointer (some ⟨w.heap.size, 0, none⟩), undef, .pointer (some ⟨w.heap.size + 1, 0, none⟩), .int .u32 (y : Nat), .int .i64 h, .func (.func 40) #[] #[.pointer (some ⟨w1.heap.size, 0, none⟩), .pointer (some ⟨w1.heap.size + 1, 0, none⟩)], .int .u32 (y : Nat), undef, undef, undef, undef, undef, undef, undef], defers := [] })
    (fun s y a' _ E X Y hi hk => ⟨⟨hi.1.1, by have := hk.same _ ((hi.1.1 _).2 rfl); exact this.trans hi.1.2.1, hi.1.2.2⟩, hi.2⟩) ?assign ?body ?done ?stop
  case assign =>
    intro l' pre y D1 Wx K hi hfr hK
    gi_wp2
    exact hK _ D1 _ (Fr.refl hfr.lt) ⟨hi, rfl⟩
  case body =>
    rintro l' pre y post D2 a' Wx heq ⟨⟨hE, hbx, hall⟩, rfl⟩ hfr _ hnl hlw
    have hy : y < 1024 := ctrs_lt (h := h) (i := y) (by rw [heq]; simp)
    have cF := hfr.keep (p := ⟨w.heap.size, 0, none⟩) (by simp) HC.out.2.2.1
    have hfx : FltAt Wx b c := HS.out.2.2.2.kept (hfr.block b HS.out.2.2.2.lt (by omega))
    obtain ⟨c1, c2⟩ := hfx.cell hy
    have hyi : (y : Int) < 1024 := by omega
    have HN : Hid (∀ r, D2 r → r < Wx.heap.size) := hfr.lt
    have HE : Hid (∀ r, D2 r ↔ r = w.heap.size + 1) := hE
    have HA : Hid (_ = _) := hall
    have HBX : Hid (Boxed Wx (w.heap.size + 1) 4 (.bool false)) := hbx
    have cb := hbx.cell
    have fb := hbx.frozen
    clear heq hfx hfr hE hall
    by_cases h0 : c y = 0
    · have hz : ((c y : Int) == 0) = true := by simp [h0]
      have HZ : Hid (c y = 0) := h0
      clear h0 hbx
      gi_wp2
      refine ⟨D2, ⟨rfl, HE.out, HBX.out.set _, ?_⟩, (Fr.refl HN.out).grown (setCell_at Wx _ 0 _) (fun r e => by cases e; exact .inl ((HE.out _).2 rfl))⟩
      simp [HZ.out]
    · have hz : ((c y : Int) == 0) = false := by simpa using h0
      clear hbx
      gi_wp2
      refine ⟨D2, ⟨HE.out, HBX.out, ?_⟩, Fr.refl HN.out⟩
      have := HA.out
      simp only [List.all_append, this]
      simp [h0]
  case done =>
    rintro E X ⟨hE, hbx, hall⟩ hfr hK hnE
    have HA : Hid (_ = _) := hall
    have cb := hbx.cell
    have fb := hbx.frozen
    clear hall
    gi_wp2
    have hlt : w2.heap.size < X.heap.size := (Array.getElem?_eq_some_iff.1 hK).1
    have h12 := HS.out.2.1
    have h22 := HS.out.2.2.1
    refine ⟨by simp, .inl ⟨_, _, rfl, run_takeDeferred ((setCell_at X (w.heap.size + 1) 0 (.bool true)).block _ hlt (fun e => by have := Option.some.inj e; omega) |>.trans hK), ?_⟩⟩
    refine ⟨_, results_bool rfl _ _ (w.heap.size + 1) (.bool true) rfl ?_, ?_, ?_⟩
    · exact (World.cell?_of_block (a := ⟨w.heap.size + 1, 0, none⟩) (World.putObj_heap_other (by first | exact (show w2.heap.size ≠ w.heap.size + 1 by omega) | exact (show w.heap.size + 1 ≠ w2.heap.size by omega)))).trans (Boxed.set (.bool true) hbx).cell
    · rw [show mayV c h = true from HA.out]
    · have h3 : Fr (fun r => r = w.heap.size + 1) E w2 X := hfr
      have h4 : Below w.heap.size w2 X := h3.below (by omega) (fun r (e : r = w.heap.size + 1) => by omega)
      have h5 : Below w.heap.size X ((X.setCell ⟨w.heap.size + 1, 0, none⟩ (.bool true)).putObj w2.heap.size (.deferred none)) := ((Below.refl _ X).grown (setCell_at X (w.heap.size + 1) 0 (.bool true)) (by omega) (fun r e => by cases e; omega)).grown (grownBy_putObj' _ _ _) (by simp [World.setCell]; omega) (fun r e => by cases e; omega)
      exact (HS.out.1.trans h4).trans h5
  case stop =>
    rintro cd pre y post E X heq ⟨rfl, hE, hbx, hall⟩ hfr hK hnE
    have HA : Hid (mayV c h = false) := by
      show (ctrs h).all _ = false
      rw [heq, show pre ++ y :: post = (pre ++ [y]) ++ post by simp, List.all_append, hall, Bool.false_and]
    clear hall heq
    gi_wp2
    have hlt : w2.heap.size < X.heap.size := (Array.getElem?_eq_some_iff.1 hK).1
    have h12 := HS.out.2.1
    have h22 := HS.out.2.2.1
    refine ⟨by simp, .inl ⟨_, _, rfl, run_takeDeferred hK, ?_⟩⟩
    refine ⟨_, results_bool rfl _ _ (w.heap.size + 1) (.bool false) rfl ?_, ?_, ?_⟩
    · exact (World.cell?_of_block (a := ⟨w.heap.size + 1, 0, none⟩) (World.putObj_heap_other (by first | exact (show w2.heap.size ≠ w.heap.size + 1 by omega) | exact (show w.heap.size + 1 ≠ w2.heap.size by omega)))).trans hbx.cell
    · rw [show mayV c h = false from HA.out]
    · have h3 : Fr (fun r => r = w.heap.size + 1) E w2 X := hfr
      have h4 : Below w.heap.size w2 X := h3.below (by omega) (fun r (e : r = w.heap.size + 1) => by omega)
      have h5 : Below w.heap.size X (X.putObj w2.heap.size (.deferred none)) := (Below.refl _ X).grown (grownBy_putObj' _ _ _) (by omega) (fun r e => by cases e; omega)
      exact (HS.out.1.trans h4).trans h5

/-- A slice of one number, laid by the call. -/
theorem one_new (w : World) (h : Int) : IntsR (w.alloc (.cells #[.int .i64 h] 3)) (.slice (some ⟨w.heap.size, 0, none⟩) 1 1) [h] := by
  refine .inr ⟨w.heap.size, 0, 1, rfl, by simp, by decide, fun j x hx => ?_⟩
  have hj : j = 0 := by
    have := (List.getElem?_eq_some_iff.1 hx).1
    simp at this; exact this
  subst hj
  simp at hx; subst hx
  exact (Boxed.new w 3 (.int .i64 h)).cell

attribute [local go_sem] zeroValueF
attribute [local simp] zeroCellsF_ne
set_option maxRecDepth 100000 in
set_option maxHeartbeats 300000 in
theorem alive_any (w : World) : Calls Try.prog 5 #[] w fun e w' => e = .returned (.bool true) ∧ Below w.heap.size w w' := by
  obtain ⟨w1, hw1⟩ : ∃ w1, w.alloc (.cells Try.zeroCells45 45) = w1 := ⟨_, rfl⟩
  have f1 : FltAt w1 w.heap.size (fun _ => 0) := by rw [← hw1]; exact FltAt.zero w
  have b1 : Below w.heap.size w w1 := by rw [← hw1]; exact (Below.refl _ w).alloc (Nat.le_refl _) _
  have s1 : w1.heap.size = w.heap.size + 1 := by rw [← hw1]; simp
  have m1 := may_any w.heap.size _ 5 w1 f1
  rw [show mayV (fun _ => 0) 5 = false by decide] at m1
  have HF : Hid (_ ∧ _ ∧ _) := ⟨f1, b1, s1⟩
  clear f1 b1 s1
  go_enter Try.func5, Try.ntmps5
  go_wp2_with fail
  go_at_call 20
  refine Calls.mono m1 ?_
  clear m1
  rintro e w2 ⟨rfl, b2⟩
  obtain ⟨f1, b1, s1⟩ := HF.out
  have f2 : FltAt w2 w.heap.size (fun _ => 0) := f1.kept (b2.block _ (by omega))
  have p1 := push_any w.heap.size _ _ _ _ (f2.kept (Y := w2.alloc (.cells #[.int .i64 5] 3)) (Below.heap_alloc _ _ _ f2.lt)) (one_new w2 5) (fun r hr _ => by have := b2.size; simp [Value.ownBlock] at hr; omega)
  have HB : Hid (_ ∧ _) := ⟨b1, b2⟩
  clear hw1 b1 b2 HF f1 f2 s1
  go_wp2_with fail
  go_at_call 17
  refine Calls.mono p1 ?_
  clear p1
  rintro e w3 ⟨⟨u, rfl⟩, f3, fr3⟩
  have m3 := may_any w.heap.size _ 5 w3 f3
  rw [show mayV (pushV (fun _ => 0) [5]) 5 = true by decide] at m3
  have HF3 : Hid (Fr _ _ _ _) := fr3
  clear fr3 f3
  go_wp2_with fail
  go_at_call 20
  refine Calls.mono m3 ?_
  clear m3
  rintro e w4 ⟨rfl, b4⟩
  have HB4 : Hid (Below _ _ _) := b4
  clear b4
  go_wp2
  go_ret
  refine ⟨rfl, ?_⟩
  obtain ⟨b1, b2⟩ := HB.out
  have b3 := HF3.out.below (n := w.heap.size) (by simp; have := b1.size; have := b2.size; omega) (fun r e => by omega)
  have hs1 := b1.size
  have hs2 := b2.size
  have hs3 := b3.size
  simp at hs3
  exact ((b1.trans (b2.mono (by omega))).trans (((Below.refl _ w2).alloc (by omega) _).trans b3)).trans (HB4.out.mono (by omega))

end Go.Proofs.Ytiaikkbmgnaikaa.Bl
