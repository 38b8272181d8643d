/- Package lru: Keys at every cache; the document's own SameInts at two rows of the same numbers; the law's alive. -/
import Derived.Test.YtamcomlnfdfmeaaLrPut
namespace Go.Proofs.Ytamcomlnfdfmeaa.Lr
open Go Go.RowKit Go.Shelf Sl
attribute [local go_sem] Oper.semAt_some

/-- The numbers l in a row that the call owns. -/
abbrev NumR (b : Nat) (W : World) (v : Value) (l : List Int) : Prop := W.ownsRow b 3 1 v l.length (l.map (fun x => Value.int .i64 x))
theorem one_newL (w : World) (t : TypeId) (v : Value) : ∀ j u, [v][j]? = some u → (w.alloc (.cells #[v] t)).cell? ((⟨w.heap.size, 0, none⟩ : Addr).add j) = some u := by
  intro j u hj
  cases j with
  | zero => simp at hj; subst hj; exact (Boxed.new w t v).cell
  | succ j => simp at hj

set_option maxRecDepth 100000 in
set_option maxHeartbeats 2000000 in
theorem keys_any (b s : Nat) (l : List En) (w : World) (h : LC w b s l) :
    Calls Try.prog 13 #[.pointer (some ⟨b, 0, none⟩)] w fun e w' => ∃ v', e = .returned v' ∧ NumR w.heap.size w' v' (keysV l) ∧ Below w.heap.size w w' := by
  obtain ⟨v, h⟩ := h
  refine (callsIn_wide (n := 5)).1 ?_
  refine callsIn_of_wp_marks Try.func13 rfl trivial ?_ rfl
  simp only [Try.ntmps13, List.size_toArray, List.length_cons, List.length_nil, Nat.reduceAdd, Nat.reduceSub, Array.replicate_succ, Array.replicate_zero, List.push_toArray, List.append_toArray, List.nil_append, List.cons_append]
  have hbw := h.lt
  have hn := h.few
  have hln := len_any b s v l w h
  have H : Hid (LV w b s v l) := h
  obtain ⟨i0, hi, hz0, hz1, hz2⟩ := info_of infoI
  obtain ⟨w2, hmk, hown, hgrow⟩ := run_make_own (P := Try.prog) w w.heap.size 33 3 i0 (.int .i64 0) 1 Try.underlying33 hi hz0 hz1 .i64 .i64 l.length (by rw [hz2]; omega) (by unfold maxLen; omega) (Nat.le_refl _)
  obtain ⟨w3, hw3⟩ : ∃ w3, w2.alloc (.cells #[.slice (some ⟨w.heap.size, 0, none⟩) 0 l.length] 33) = w3 := ⟨_, rfl⟩
  have bx : Boxed w3 w2.heap.size 33 (.slice (some ⟨w.heap.size, 0, none⟩) 0 l.length) := by rw [← hw3]; exact Boxed.new _ _ _
  have b3 : Below w.heap.size w w3 := by rw [← hw3]; exact ((Below.refl _ w).grown hgrow (Nat.le_refl _) (fun r e => by cases e)).alloc hgrow.size _
  have hown3 : w3.ownsRow w.heap.size 3 1 (.slice (some ⟨w.heap.size, 0, none⟩) 0 l.length) 0 [] := by rw [← hw3]; exact hown.alloc _
  have s3 : w3.heap.size = w2.heap.size + 1 := by rw [← hw3]; simp
  have H3 : Hid (_ ∧ _ ∧ _ ∧ _ ∧ _ ∧ _) := ⟨bx, b3, hown3, s3, hgrow.size, h.next b3⟩
  clear h bx b3 hown3 s3 hown hgrow
  gi_wp2_with fail
  refine ⟨trivial, ?_⟩
  refine (callsIn_wide.2 hln).mono ?_
  clear hln
  rintro e w1 ⟨rfl, rfl⟩
  gi_wp2_with fail
  refine ⟨trivial, ?_⟩
  refine (callsIn_wide.2 (all_any b _)).mono ?_
  rintro e w4 ⟨rfl, hw4⟩
  have bw4 : Below w3.heap.size w3 w4 := by rw [hw4]; exact (Below.refl _ _).alloc (Nat.le_refl _) _
  have s4 : w4.heap.size = w3.heap.size + 1 := by rw [hw4, World.size_alloc]
  have cA : w4.cell? ⟨w3.heap.size, 0, none⟩ = some (.pointer (some ⟨b, 0, none⟩)) := by rw [hw4]; exact (Boxed.new w3 _ _).cell
  have hv4 : LV w4 b s v l := H3.out.2.2.2.2.2.next bw4
  have hB4 : Boxed w4 w2.heap.size 33 (.slice (some ⟨w1.heap.size, 0, none⟩) 0 l.length) := (bw4.block _ H3.out.1.lt).trans H3.out.1
  have hR4 : NumR w1.heap.size w4 (.slice (some ⟨w1.heap.size, 0, none⟩) 0 l.length) [] := owns_same H3.out.2.2.1 (fun g hg => bw4.block g (owns_lt H3.out.2.2.1 hg).2)
  have bw : Below w1.heap.size w1 w4 := H3.out.2.1.trans (bw4.mono H3.out.2.1.size)
  have H4 : Hid (_ ∧ _ ∧ _ ∧ _ ∧ _ ∧ _) := ⟨hv4, hB4, hR4, bw, s4, cA⟩
  clear hmk hw3 hw4 bw4 s4 cA hv4 hB4 hR4 bw
  gi_wp2_with fail
  have s3 := H3.out.2.2.2.1
  have s2 := H3.out.2.2.2.2.1
  have s4 := H4.out.2.2.2.2.1
  refine wpIn_rangeFunc_E rfl (by decide) (gf := 23) (lb := #[.pointer (some ⟨w3.heap.size, 0, none⟩)]) rfl trivial egEnt (all_seq 4 w3.heap.size b s v l w4 H4.out.2.2.2.2.2 H4.out.1) (fun _ => rfl)
    (fun pre E X => ∃ v', (∀ r, E r ↔ r = w2.heap.size ∨ v'.ownBlock = some r) ∧ Boxed X w2.heap.size 33 v' ∧ NumR w1.heap.size X v' (keysV pre)) (fun _ _ _ _ => False)
    ?hI (fun c s E X Y hi hk => hi) (fun r => r = w2.heap.size ∨ (Value.slice (some ⟨w1.heap.size, 0, none⟩) 0 l.length).ownBlock = some r) ?hD ?hRD ?hRw (Nat.le_refl _)
    ⟨_, fun _ => Iff.rfl, H4.out.2.1, H4.out.2.2.1⟩
    (fun pre y E a' X => (∃ v', (∀ r, E r ↔ r = w2.heap.size ∨ v'.ownBlock = some r) ∧ Boxed X w2.heap.size 33 v' ∧ NumR w1.heap.size X v' (keysV pre)) ∧ a' = { tmps := #[.pointer (some ⟨b, 0, none⟩), undef, .slice none 0 0, .pointer (some ⟨w2.heap.size, 0, none⟩), .int .i64 y.1, .pointer (some ⟨b, 0, none⟩), .int .i64 l.length, .slice (some ⟨w1.heap.size, 0, none⟩) 0 l.length, .pointer (some ⟨b, 0, none⟩), .pointer (some ⟨b, 0, none⟩), .pointer (some ⟨b, 0, none⟩), .func (.func 23) #[] #[.pointer (some ⟨w3.heap.size, 0, none⟩)], .int .i64 y.1, .int .i64 y.2, undef, undef, undef, undef, undef], defers := [] })
    ?hAx ?assign ?body ?done ?stop
  case hI =>
    rintro s E X Y ⟨v', h1, h2, h3⟩ hk
    refine ⟨v', h1, (hk.same _ ((h1 _).2 (.inl rfl))).trans h2, owns_same h3 (fun g hg => hk.same _ ((h1 _).2 (.inr hg)))⟩
  case hAx =>
    rintro s y a' _ E X Y ⟨⟨v', h1, h2, h3⟩, h4⟩ hk
    exact ⟨⟨v', h1, (hk.same _ ((h1 _).2 (.inl rfl))).trans h2, owns_same h3 (fun g hg => hk.same _ ((h1 _).2 (.inr hg)))⟩, h4⟩
  case hD =>
    rintro r (rfl | hr)
    · exact H4.out.2.1.lt
    · exact (owns_lt H4.out.2.2.1 hr).2
  case hRD =>
    intro r hr
    refine ⟨H4.out.1.row.lt hr, fun e => ?_⟩
    have := H.out.row.lt hr
    rcases e with rfl | e
    · omega
    · simp [Value.ownBlock] at e; omega
  case hRw =>
    rintro r (rfl | rfl | hr)
    · exact ⟨by omega, rfl⟩
    · exact ⟨H4.out.1.lt, rfl⟩
    · exact ⟨H4.out.1.row.lt hr, rfl⟩
  case assign =>
    intro l' pre y D1 Wx K hi hfr hK
    clear s2 s3 s4
    gi_wp2
    exact hK _ D1 _ (Fr.refl hfr.lt) ⟨hi, rfl⟩
  case body =>
    rintro l' pre y post D2 a' X heq ⟨⟨v', hE, hb1, hr1⟩, rfl⟩ hfr _ hnl hlw
    have hlen : pre.length < l.length := by rw [heq]; simp
    have hkl : (keysV pre).length ≤ 1024 := by rw [keys_len]; omega
    have hcb := hb1.cell
    have hsX := hfr.size
    have HFR : Hid (Fr _ _ _ _) := hfr
    have HE : Hid (∀ r, D2 r ↔ r = w2.heap.size ∨ v'.ownBlock = some r) := hE
    have hwX : w1.heap.size ≤ X.heap.size := by omega
    obtain ⟨q, c, rfl⟩ := owns_form hr1
    obtain ⟨y1, y2⟩ := y
    have hm1 : (keysV pre).length + 1 = (keysV (pre ++ [(y1, y2)])).length := by simp [keysV]
    have hm2 : (keysV pre).map (fun x => Value.int .i64 x) ++ [.int .i64 y1] = (keysV (pre ++ [(y1, y2)])).map (fun x => Value.int .i64 x) := by simp [keysV]
    have HM : Hid (_ ∧ _) := ⟨hm1, hm2⟩
    have hle : w1.heap.size ≤ w2.heap.size := s2
    unfold NumR at hr1
    generalize (keysV pre).length = m at *
    generalize (keysV pre).map (fun x => Value.int .i64 x) = fl at *
    clear heq hnl hlw hfr hE s3 s4 hm1 hm2
    gi_wp2_with (gi_at_builtin; refine wpListIn_append_own_at _ rfl _ _ 33 rfl w1.heap.size 3 i0 (.int .i64 0) 1 8 Try.underlying33 hi hz0 hz1 hz2 rfl (by decide) (.slice q m c) m fl rfl (hr1.alloc _) ⟨X.heap.size, 0, none⟩ 1 1 [.int .i64 y1] rfl rfl (one_newL _ _ _) (by simp [Value.oneCell']) (by unfold maxLen; omega) (by omega) (by simp; omega) ?_; intro v' w5 hown3 hgrow3 hnil3 hat3; obtain ⟨q', c', hv'⟩ := owns_form hown3; subst hv'; obtain ⟨hv1, hv2, hr2, hk2, hb2⟩ := hb1.appended (by decide) hr1 (by omega) (by omega) hown3 hgrow3; have hc3 := hv1.cell; have hf3 := hv1.frozen)
    have hs3 := hgrow3.size
    simp at hs3
    refine ⟨fun r => r = w2.heap.size ∨ (Value.slice q' (m + 1) c').ownBlock = some r, ⟨_, fun _ => Iff.rfl, hv2, by unfold NumR; rw [← HM.out.1, ← HM.out.2]; exact hr2⟩, ?_⟩
    refine ⟨hb2.os, hb2.tape, hb2.output, hb2.size, fun r h1 h2 => ?_, fun r hr => ?_, fun r hr => ?_⟩
    · have n1 : r ≠ w2.heap.size := fun e => h2 ((HE.out r).2 (.inl e))
      have n2 : some r ≠ (Value.slice q m c).ownBlock := fun e => h2 ((HE.out r).2 (.inr e.symm))
      have e1 := (setCell_grown w5 w2.heap.size 0 (.slice q' (m + 1) c')).block r (by omega) (fun e => n1 (Option.some.inj e))
      exact e1.trans ((hgrow3.block r (by simp; omega) n2).trans (Below.heap_alloc _ _ _ h1))
    · rcases hr with hr | hr
      · exact .inl ((HE.out r).2 (.inl hr))
      · rcases hat3 with h5 | h5
        · exact .inl ((HE.out r).2 (.inr (h5.symm.trans hr)))
        · rw [hr] at h5
          have := Option.some.inj h5
          simp at this
          exact .inr (by omega)
    · rcases hr with hr | hr
      · subst hr; exact hv2.lt
      · exact (owns_lt hr2 hr).2
  case done =>
    rintro E X ⟨v', hE, hb1, hr1⟩ hfr hK hnE
    have hcb := hb1.cell
    have HFR : Hid (Fr _ _ _ _) := hfr
    have HS : Hid (_ ∧ _ ∧ _) := ⟨s2, s3, s4⟩
    obtain ⟨q, c, rfl⟩ := owns_form hr1
    clear s2 s3 s4
    gi_wp2
    obtain ⟨s2, s3, s4⟩ := HS.out
    refine ⟨by simp, .inl ⟨_, _, rfl, run_takeDeferred hK, ?_⟩⟩
    refine ⟨_, results_tmp rfl _ _ _, _, rfl, owns_same hr1 (fun g hg => World.putObj_heap_other (fun e => ?_)), ?_⟩
    · exact hnE ((hE _).2 (.inr (by first | exact (e ▸ hg) | exact (e.symm ▸ hg))))
    · have h4 : Below w1.heap.size w4 X := HFR.out.below H4.out.2.2.2.1.size (fun r e => by
        rcases e with rfl | e
        · omega
        · simp [Value.ownBlock] at e; omega)
      have h5 : Below w1.heap.size X (X.putObj w4.heap.size (.deferred none)) := (Below.refl _ X).grown (grownBy_putObj' _ _ _) (by have := h4.size; omega) (fun r e => by cases e; omega)
      exact (H4.out.2.2.2.1.trans h4).trans h5
  case stop => rintro c pre x post E X heq hx; exact hx.elim

end Go.Proofs.Ytamcomlnfdfmeaa.Lr
