/- Package lru: a list of k, and behind it all others. -/
import Derived.Test.YtamcomlnfdfmeaaLrAll
namespace Go.Proofs.Ytamcomlnfdfmeaa.Lr
open Go Go.RowKit Go.Shelf Sl
attribute [local go_sem] Oper.semAt_some

/-- make([]T, 1, n) and its row. -/
theorem madeRow (w : World) (n : Nat) (hn : n ≤ 1024) : ∃ A, (Instr.makeSlice 40 (.int .i64 1) (.int .i64 ((n : Int) + 1))).run Try.prog w = .ok (.slice (some ⟨w.heap.size, 0, none⟩) 1 (n + 1)) (w.alloc (.cells A 56)) ∧ A.size = (n + 1) * 2 ∧ A[0]? = some (.int .i64 0) ∧ A[1]? = some (.int .i64 0) := by
  obtain ⟨i0, hi, hz0, hz1, hz2⟩ := info_of infoEn
  have hr := run_make (P := Try.prog) w 40 56 i0 _ Try.underlying40 hi hz0 .i64 .i64 1 ((n : Int) + 1) (by omega) (by omega) (by rw [hz2]; omega) (by omega)
  have e : ((n : Int) + 1).toNat = n + 1 := by omega
  rw [e] at hr
  refine ⟨_, hr, by rw [size_madeCells, hz1], ?_, ?_⟩
  · rw [hz1]; simp [madeCells, Value.cells]
  · have : 1 < (n + 1) * 2 := by omega
    rw [hz1]; simp [madeCells, Value.cells, this]
theorem row_first (A : Array Value) (h : 2 ≤ A.size) (a c : Value) : ((A.setIfInBounds 0 a).setIfInBounds 1 c).toList.take (1 * 2) = [a, c] := by
  obtain ⟨l⟩ := A
  match l, h with
  | x :: y :: r, _ => simp
abbrev rowT : TypeId := 56
/-- The list's first entry is written: the world behind it. -/
theorem led_start (w w2 w3 : World) (A : Array Value) (n : Nat) (hn : n ≤ 1024) (k x : Int) (hA : A.size = (n + 1) * 2) (hb : Below w.heap.size w w2) (h3 : w2.alloc (.cells A rowT) = w3) (X : World) (o : Obj)
    (hX : (((w3.alloc (.cells #[.slice (some ⟨w2.heap.size, 0, none⟩) 1 (n + 1)] 40)).setCell ⟨w2.heap.size, 0, none⟩ (.int .i64 k)).setCell ⟨w2.heap.size, 1, none⟩ (.int .i64 x)).alloc o = X) :
    Boxed X (w2.heap.size + 1) 40 (.slice (some ⟨w2.heap.size, 0, none⟩) 1 (n + 1)) ∧ X.ownsRow w.heap.size rowT 2 (.slice (some ⟨w2.heap.size, 0, none⟩) 1 (n + 1)) 1 [.int .i64 k, .int .i64 x] ∧ Below w2.heap.size w2 X ∧ X.heap.size = w2.heap.size + 3 := by
  have hs := hb.size
  subst h3
  have e1 : X.heap[w2.heap.size + 1]? = some (.cells #[.slice (some ⟨w2.heap.size, 0, none⟩) 1 (n + 1)] 40 (0, 0)) := by
    subst hX
    rw [Below.heap_alloc _ _ _ (by simp [World.setCell]), (setCell_grown _ _ _ _).block _ (by simp [World.setCell]) (by simp), (setCell_grown _ _ _ _).block _ (by simp) (by simp)]
    have := World.alloc_heap_new (w2.alloc (.cells A rowT)) (.cells #[.slice (some ⟨w2.heap.size, 0, none⟩) 1 (n + 1)] 40)
    rwa [World.size_alloc] at this
  have e2 : X.heap[w2.heap.size]? = some (.cells ((A.setIfInBounds 0 (.int .i64 k)).setIfInBounds 1 (.int .i64 x)) rowT (0, 0)) := by
    subst hX
    rw [Below.heap_alloc _ _ _ (by simp [World.setCell]; omega)]
    have h0 : ((w2.alloc (.cells A rowT)).alloc (.cells #[.slice (some ⟨w2.heap.size, 0, none⟩) 1 (n + 1)] 40)).heap[w2.heap.size]? = some (.cells A rowT (0, 0)) := by
      rw [Below.heap_alloc _ _ _ (by simp)]
      exact World.alloc_heap_new w2 _
    simp [World.setCell, Array.getElem?_modify, h0]
  have g1 : Below w2.heap.size w2 X := by
    subst hX
    have a1 := ((Below.refl w2.heap.size w2).alloc (Nat.le_refl _) (.cells A rowT)).alloc (by simp) (.cells #[.slice (some ⟨w2.heap.size, 0, none⟩) 1 (n + 1)] 40)
    have a2 := a1.grown (setCell_grown _ w2.heap.size 0 (.int .i64 k)) (by simp; omega) (fun r e => by cases e; exact Nat.le_refl _)
    have a3 := a2.grown (setCell_grown _ w2.heap.size 1 (.int .i64 x)) (by simp [World.setCell]; omega) (fun r e => by cases e; exact Nat.le_refl _)
    exact a3.alloc (by simp [World.setCell]; omega) _
  refine ⟨e1, ⟨rfl, .inr ⟨w2.heap.size, n + 1, _, rfl, hs, e2, by omega, by unfold maxLen; omega, by simp [hA], row_first A (by omega) _ _⟩⟩, g1, ?_⟩
  subst hX
  simp [World.setCell]

theorem out_app (k : Int) (pre : List En) (y : En) : outV k (pre ++ [y]) = if y.1 = k then outV k pre else outV k pre ++ [y] := by
  unfold outV
  rw [List.filter_append]
  by_cases h : y.1 = k <;> simp [h]

set_option maxRecDepth 100000 in
set_option maxHeartbeats 2000000 in
theorem led_any (b s : Nat) (v : Value) (l : List En) (k x : Int) (w : World) (h : LV w b s v l) :
    Calls Try.prog 22 #[.pointer (some ⟨b, 0, none⟩), .int .i64 k, .int .i64 x] w fun e w' => ∃ v', e = .returned v' ∧ w'.ownsRow w.heap.size 56 2 v' (ledV l k x).length (flat (ledV l k x)) ∧ Below w.heap.size w w' := by
  refine (callsIn_wide (n := 5)).1 ?_
  refine callsIn_of_wp_marks Try.func22 rfl trivial ?_ rfl
  simp only [Try.ntmps22, List.size_toArray, List.length_cons, List.length_nil, Nat.reduceAdd, Nat.reduceSub, Array.replicate_succ, Array.replicate_zero, List.push_toArray, List.append_toArray, List.nil_append, List.cons_append]
  have hbw := h.lt
  have hn := h.few
  obtain ⟨w1, hw1⟩ : ∃ w1, w.alloc (.cells #[.int .i64 k] 3) = w1 := ⟨_, rfl⟩
  have bK : w1.cell? ⟨w.heap.size, 0, none⟩ = some (.int .i64 k) := by rw [← hw1]; exact (Boxed.new w _ _).cell
  have b1 : Below w.heap.size w w1 := by rw [← hw1]; exact (Below.refl _ w).alloc (Nat.le_refl _) _
  have s1 : w1.heap.size = w.heap.size + 1 := by rw [← hw1]; simp
  have h1 : LV w1 b s v l := h.next b1
  have hco := count_any b s v l w1 h1
  obtain ⟨A, hmk, hA, hA0, hA1⟩ := madeRow w1 l.length hn
  obtain ⟨w3, hw3⟩ : ∃ w3, w1.alloc (.cells A 56) = w3 := ⟨_, rfl⟩
  rw [hw3] at hmk
  have hg3 : w3.heap[w1.heap.size]? = some (.cells A 56 (0, 0)) := by rw [← hw3]; exact World.alloc_heap_new w1 _
  have s3 : w3.heap.size = w1.heap.size + 1 := by rw [← hw3]; simp
  obtain ⟨W3, hW3⟩ : ∃ W3, w3.alloc (.cells #[.slice (some ⟨w1.heap.size, 0, none⟩) 1 (l.length + 1)] 40) = W3 := ⟨_, rfl⟩
  have hG : W3.heap[w1.heap.size]? = some (.cells A 56 (0, 0)) := by rw [← hW3]; exact (Below.heap_alloc _ _ _ (by omega)).trans hg3
  have e0 : W3.cell? ⟨w1.heap.size, 0, none⟩ = some (.int .i64 0) := by simp [World.cell?, hG, hA0]
  have e1 : W3.cell? ⟨w1.heap.size, 1, none⟩ = some (.int .i64 0) := by simp [World.cell?, hG, hA1]
  have f0 : W3.frozen? ⟨w1.heap.size, 0, none⟩ = false := by simp [World.frozen?, hG]
  have f1 : W3.frozen? ⟨w1.heap.size, 1, none⟩ = false := by simp [World.frozen?, hG]
  have cB : W3.cell? ⟨w3.heap.size, 0, none⟩ = some (.slice (some ⟨w1.heap.size, 0, none⟩) 1 (l.length + 1)) := by rw [← hW3]; exact (Boxed.new w3 _ _).cell
  have cK : W3.cell? ⟨w.heap.size, 0, none⟩ = some (.int .i64 k) := by
    have : W3.heap[w.heap.size]? = w1.heap[w.heap.size]? := by
      rw [← hW3, ← hw3, Below.heap_alloc _ _ _ (by simp; omega), Below.heap_alloc _ _ _ (by omega)]
    exact (World.cell?_of_block (a := ⟨w.heap.size, 0, none⟩) this).trans bK
  rw [s3] at cB
  have HH : Hid (_ ∧ _ ∧ _ ∧ _) := ⟨h1, b1, s1, bK⟩
  have HW : Hid (_ ∧ _ ∧ _) := ⟨hA, hw3, hW3⟩
  clear h h1 b1 s1 bK hA hA0 hA1 hg3 hG hw3
  gi_wp2_with fail
  refine ⟨trivial, ?_⟩
  refine (callsIn_wide.2 hco).mono ?_
  clear hco
  rintro e w2 ⟨rfl, rfl⟩
  gi_wp2_with fail
  refine ⟨trivial, ?_⟩
  refine (callsIn_wide.2 (all_any b _)).mono ?_
  rintro e w4 ⟨rfl, hw4⟩
  rw [← hW3] at hw4
  obtain ⟨hB, hR, hb4, hs4⟩ := led_start w w2 w3 A l.length hn k x HW.out.1 HH.out.2.1 HW.out.2.1 w4 _ hw4.symm
  have hall : w4.cell? ⟨w2.heap.size + 2, 0, none⟩ = some (.pointer (some ⟨b, 0, none⟩)) := by
    rw [hw4]
    have := (Boxed.new ((((w3.alloc (.cells #[.slice (some ⟨w2.heap.size, 0, none⟩) 1 (l.length + 1)] 40)).setCell ⟨w2.heap.size, 0, none⟩ (.int .i64 k)).setCell ⟨w2.heap.size, 1, none⟩ (.int .i64 x))) 53 (.pointer (some ⟨b, 0, none⟩))).cell
    simpa [World.setCell, s3] using this
  have hA4 : ((((w3.alloc (.cells #[.slice (some ⟨w2.heap.size, 0, none⟩) 1 (l.length + 1)] 40)).setCell ⟨w2.heap.size, 0, none⟩ (.int .i64 k)).setCell ⟨w2.heap.size, 1, none⟩ (.int .i64 x))).heap.size = w2.heap.size + 2 := by simp [World.setCell, s3]
  have hlv : LV w4 b s v l := HH.out.1.next hb4
  have hck : w4.cell? ⟨w.heap.size, 0, none⟩ = some (.int .i64 k) := (hb4.cell (p := ⟨w.heap.size, 0, none⟩) (by have := HH.out.2.2.1; simp; omega)).trans HH.out.2.2.2
  have hbw4 : Below w.heap.size w w4 := HH.out.2.1.trans (hb4.mono (by have := HH.out.2.2.1; omega))
  have hs2 := HH.out.2.2.1
  have H4 : Hid (_ ∧ _ ∧ _ ∧ _ ∧ _ ∧ _ ∧ _) := ⟨hB, hR, hs4, hall, hlv, hck, hbw4⟩
  rw [hW3] at hA4
  obtain ⟨i0, hi, hz0, hz1, hz2⟩ := info_of infoEn
  rw [hA4]
  have HN : Hid (l.length ≤ 1024) := hn
  clear hw1 hmk hW3 e0 e1 f0 f1 cB cK hA4 hb4 hw4 hs4 hbw4 hall hs2
  gi_wp2_with fail
  have hs2 := HH.out.2.2.1
  refine wpIn_rangeFunc_E rfl (by decide) (gf := 23) (lb := #[.pointer (some ⟨w2.heap.size + 2, 0, none⟩)]) rfl trivial egEnt (all_seq 4 (w2.heap.size + 2) b s v l w4 H4.out.2.2.2.1 hlv) (fun _ => rfl)
    (fun pre E X => ∃ v', (∀ r, E r ↔ r = w2.heap.size + 1 ∨ v'.ownBlock = some r) ∧ Boxed X (w2.heap.size + 1) 40 v' ∧ X.ownsRow w.heap.size rowT 2 v' ((k, x) :: outV k pre).length (flat ((k, x) :: outV k pre))) (fun _ _ _ _ => False)
    ?hI (fun c s E X Y hi hk => hi) (fun r => r = w2.heap.size + 1 ∨ (Value.slice (some ⟨w2.heap.size, 0, none⟩) 1 (l.length + 1)).ownBlock = some r) ?hD ?hRD ?hRw (Nat.le_refl _)
    ⟨_, fun _ => Iff.rfl, hB, hR⟩
    (fun pre y E a' X => (∃ v', (∀ r, E r ↔ r = w2.heap.size + 1 ∨ v'.ownBlock = some r) ∧ Boxed X (w2.heap.size + 1) 40 v' ∧ X.ownsRow w.heap.size rowT 2 v' ((k, x) :: outV k pre).length (flat ((k, x) :: outV k pre))) ∧ a' = { tmps := #[.pointer (some ⟨b, 0, none⟩), .int .i64 k, .int .i64 x, undef, .pointer (some ⟨w.heap.size, 0, none⟩), undef, .slice none 0 0, .pointer (some ⟨w2.heap.size + 1, 0, none⟩), .int .i64 y.1, .int .i64 y.2, .pointer (some ⟨b, 0, none⟩), .int .i64 l.length, .int .i64 ((l.length : Int) + 1), .slice (some ⟨w2.heap.size, 0, none⟩) 1 (l.length + 1), .slice (some ⟨w2.heap.size, 0, none⟩) 1 (l.length + 1), .int .i64 k, .int .i64 x, .agg #[.int .i64 k, .int .i64 x], .pointer (some ⟨w2.heap.size, 0, none⟩), .pointer (some ⟨b, 0, none⟩), .func (.func 23) #[] #[.pointer (some ⟨w2.heap.size + 2, 0, none⟩)], .int .i64 y.1, .int .i64 y.2, undef, undef, undef, undef, undef, undef, undef, undef, undef, undef], defers := [] })
    ?hAx ?assign ?body ?done ?stop
  case hI =>
    rintro s E X Y ⟨v', h1, h2, h3⟩ hk
    refine ⟨v', h1, (hk.same _ ((h1 _).2 (.inl rfl))).trans h2, owns_same h3 (fun g hg => hk.same _ ((h1 _).2 (.inr hg)))⟩
  case hAx =>
    rintro s y a' _ E X Y ⟨⟨v', h1, h2, h3⟩, h4⟩ hk
    exact ⟨⟨v', h1, (hk.same _ ((h1 _).2 (.inl rfl))).trans h2, owns_same h3 (fun g hg => hk.same _ ((h1 _).2 (.inr hg)))⟩, h4⟩
  case hD =>
    rintro r (rfl | hr)
    · exact hB.lt
    · exact (owns_lt hR hr).2
  case hRD =>
    intro r hr
    refine ⟨hlv.row.lt hr, fun e => ?_⟩
    have := HH.out.1.row.lt hr
    rcases e with rfl | e
    · omega
    · simp [Value.ownBlock] at e; omega
  case hRw =>
    rintro r (rfl | rfl | hr)
    · exact ⟨by have := H4.out.2.2.1; omega, rfl⟩
    · exact ⟨hlv.lt, rfl⟩
    · exact ⟨hlv.row.lt hr, rfl⟩
  case assign =>
    intro l' pre y D1 Wx K hi hfr hK
    clear hs2
    gi_wp2
    exact hK _ D1 _ (Fr.refl hfr.lt) ⟨hi, rfl⟩
  case body =>
    rintro l' pre y post D2 a' X heq ⟨⟨v', hE, hb1, hr1⟩, rfl⟩ hfr _ hnl hlw
    have hlen : pre.length < l.length := by rw [heq]; simp
    have cK := hfr.keep (p := ⟨w.heap.size, 0, none⟩) (fun e => by
      rcases e with e | e
      · simp at e; omega
      · simp [Value.ownBlock] at e; omega) hck
    have hlo := out_len k pre
    have hcb := hb1.cell
    have hsX := hfr.size
    have HFR : Hid (Fr _ _ _ _) := hfr
    have HE : Hid (∀ r, D2 r ↔ r = w2.heap.size + 1 ∨ v'.ownBlock = some r) := hE
    have hoa := out_app k pre y
    have hwX : w.heap.size ≤ X.heap.size := by have := H4.out.2.2.2.2.2.2.size; omega
    obtain ⟨q, c, rfl⟩ := owns_form hr1
    obtain ⟨y1, y2⟩ := y
    have hle : w.heap.size ≤ w2.heap.size + 1 := by omega
    clear heq hnl hlw hfr hE hs2
    by_cases hy : y1 = k
    · have hne : (y1 != k) = false := by simp [hy]
      rw [if_pos hy] at hoa
      have HB : Hid (_ ∧ _) := ⟨hb1, hr1⟩
      clear hb1 hr1 hcb hy
      gi_wp2
      exact ⟨D2, ⟨_, HE.out, HB.out.1, by rw [hoa]; exact HB.out.2⟩, Fr.refl HFR.out.lt⟩
    · have hne : (y1 != k) = true := by simp [hy]
      rw [if_neg hy] at hoa
      have HO : Hid (_ = _) := hoa
      have HB1 : Hid (Boxed X (w2.heap.size + 1) 40 (.slice q ((k, x) :: outV k pre).length c)) := hb1
      have hm : ((k, x) :: outV k pre).length ≤ 1025 := by simp only [List.length_cons]; omega
      have hm2 : ((k, x) :: outV k pre).length + 1 = ((k, x) :: outV k (pre ++ [(y1, y2)])).length := by rw [hoa]; simp
      have hfl : flat ((k, x) :: outV k pre) ++ [.int .i64 y1, .int .i64 y2] = flat ((k, x) :: outV k (pre ++ [(y1, y2)])) := by
        rw [hoa, show ((k, x) :: (outV k pre ++ [(y1, y2)]) : List En) = ((k, x) :: outV k pre) ++ [(y1, y2)] from rfl, flat_app]
        rfl
      have HM : Hid (_ ∧ _) := ⟨hm2, hfl⟩
      generalize ((k, x) :: outV k pre).length = m at *
      generalize flat ((k, x) :: outV k pre) = fl at *
      clear hy hoa hm2 hfl hlo
      gi_wp2_with (gi_at_builtin; refine wpListIn_append_own_at _ rfl _ _ 40 rfl w.heap.size 56 i0 _ 2 16 Try.underlying40 hi hz0 hz1 hz2 rfl (by decide) (.slice q m c) m fl rfl (hr1.alloc _) ⟨X.heap.size, 0, none⟩ 1 1 [.int .i64 y1, .int .i64 y2] rfl rfl (cells_plainL X [.int .i64 y1, .int .i64 y2] _) (by simp [Value.oneCell']) (by unfold maxLen; omega) (by omega) (by simp; omega) ?_; intro v' w5 hown3 hgrow3 hnil3 hat3; obtain ⟨q', c', hv'⟩ := owns_form hown3; subst hv'; obtain ⟨hv1, hv2, hr2, hk2, hb2⟩ := hb1.appended (by decide) hr1 (by omega) (by omega) hown3 hgrow3; have hc3 := hv1.cell; have hf3 := hv1.frozen)
      have hs3 := hgrow3.size
      simp at hs3
      have hs2 := HH.out.2.2.1
      refine ⟨fun r => r = w2.heap.size + 1 ∨ (Value.slice q' (m + 1) c').ownBlock = some r, ⟨_, fun _ => Iff.rfl, hv2, by rw [← HM.out.1, ← HM.out.2]; exact hr2⟩, ?_⟩
      refine ⟨hb2.os, hb2.tape, hb2.output, hb2.size, fun r h1 h2 => ?_, fun r hr => ?_, fun r hr => ?_⟩
      · have n1 : r ≠ w2.heap.size + 1 := fun e => h2 ((HE.out r).2 (.inl e))
        have n2 : some r ≠ (Value.slice q m c).ownBlock := fun e => h2 ((HE.out r).2 (.inr e.symm))
        have e1 := (setCell_grown w5 (w2.heap.size + 1) 0 (.slice q' (m + 1) c')).block r (by omega) (fun e => n1 (Option.some.inj e))
        exact e1.trans ((hgrow3.block r (by simp; omega) n2).trans (Below.heap_alloc _ _ _ h1))
      · rcases hr with hr | hr
        · exact .inl ((HE.out r).2 (.inl hr))
        · rcases hat3 with h5 | h5
          · exact .inl ((HE.out r).2 (.inr (h5.symm.trans hr)))
          · rw [hr] at h5
            have := Option.some.inj h5
            simp at this
            exact .inr (by omega)
      · rcases hr with hr | hr
        · subst hr; exact hv2.lt
        · exact (owns_lt hr2 hr).2
  case done =>
    rintro E X ⟨v', hE, hb1, hr1⟩ hfr hK hnE
    have hcb := hb1.cell
    have HFR : Hid (Fr _ _ _ _) := hfr
    obtain ⟨q, c, rfl⟩ := owns_form hr1
    have HS2 : Hid (_ = _) := hs2
    clear hs2
    gi_wp2
    have hs2 := HS2.out
    refine ⟨by simp, .inl ⟨_, _, rfl, run_takeDeferred hK, ?_⟩⟩
    refine ⟨_, results_tmp rfl _ _ _, _, rfl, owns_same hr1 (fun g hg => World.putObj_heap_other (fun e => ?_)), ?_⟩
    · exact hnE ((hE _).2 (.inr (by first | exact (e ▸ hg) | exact (e.symm ▸ hg))))
    · have h4 : Below w.heap.size w4 X := HFR.out.below H4.out.2.2.2.2.2.2.size (fun r e => by
        rcases e with rfl | e
        · omega
        · simp [Value.ownBlock] at e; omega)
      have h5 : Below w.heap.size X (X.putObj w4.heap.size (.deferred none)) := (Below.refl _ X).grown (grownBy_putObj' _ _ _) (by have := h4.size; have := H4.out.2.2.2.2.2.2.size; omega) (fun r e => by cases e; have := H4.out.2.2.2.2.2.2.size; omega)
      exact (H4.out.2.2.2.2.2.2.trans h4).trans h5
  case stop => rintro c pre x post E X heq hx; exact hx.elim

end Go.Proofs.Ytamcomlnfdfmeaa.Lr
