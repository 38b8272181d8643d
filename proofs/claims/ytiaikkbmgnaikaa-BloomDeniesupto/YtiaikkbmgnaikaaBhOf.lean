/- slices.Collect over an iterator of numbers that is told by footprints; package bloom: Of at every node. -/
import Derived.Test.YtiaikkbmgnaikaaBhSeq
import Derived.Test.YtiaikkbmgnaikaaBlFlt
import Derived.Maps.OwnIn
namespace Go.Proofs.Ytiaikkbmgnaikaa.Bl
open Go Go.RowKit Go.Shelf Wg Sl
attribute [local go_sem] Oper.semAt_some

theorem infoI : (Try.prog.info? 3).map (fun i => (i.zero, i.size, i.bytes)) = some (some (.int .i64 0), 1, 8) := by kernel_rfl
theorem infoI_parts : ∃ i, Try.prog.info? 3 = some i ∧ i.zero = some (.int .i64 0) ∧ i.size = 1 ∧ i.bytes = 8 := by
  have h := infoI
  cases hi : Try.prog.info? 3 with
  | none => rw [hi] at h; cases h
  | some i => rw [hi] at h; simp at h; exact ⟨i, rfl, h⟩
theorem one_cell_new (w : World) (t : TypeId) (v : Value) : ∀ j u, [v][j]? = some u → (w.alloc (.cells #[v] t)).cell? ((⟨w.heap.size, 0, none⟩ : Addr).add j) = some u := by
  intro j u hj
  cases j with
  | zero => simp at hj; subst hj; exact (Boxed.new w t v).cell
  | succ j => simp at hj

/-- The numbers xs in a row that the call owns, from block b on. -/
abbrev NumRow (b : Nat) (W : World) (v : Value) (xs : List Nat) : Prop := W.ownsRow b 3 1 v xs.length (xs.map (fun x : Nat => Value.int .i64 x))
theorem NumRow.ints {b : Nat} {W : World} {v : Value} {xs : List Nat} (h : NumRow b W v xs) : IntsR W v (xs.map (fun x : Nat => (x : Int))) := by
  rcases h.2 with ⟨rfl, h0⟩ | ⟨g, cap, cur, rfl, hb, hg, h1, h2, h3, h4⟩
  · have : xs = [] := List.eq_nil_of_length_eq_zero h0
    subst this
    exact .inl ⟨rfl, _, _, rfl⟩
  · refine .inr ⟨g, 0, cap, by rw [List.length_map], by rw [List.length_map]; exact h1, h2, fun j x hx => ?_⟩
    rw [Nat.mul_one] at h4
    rw [List.getElem?_map] at hx
    obtain ⟨y, hy, rfl⟩ := Option.map_eq_some_iff.1 hx
    have hj : j < xs.length := (List.getElem?_eq_some_iff.1 hy).1
    have h5 : (cur.toList.take xs.length)[j]? = some (.int .i64 (y : Nat)) := by rw [h4, List.getElem?_map, hy]; rfl
    rw [List.getElem?_take_of_lt hj, Array.getElem?_toList] at h5
    simp [World.cell?, hg, h5]

set_option maxRecDepth 100000 in
set_option maxHeartbeats 1000000 in
theorem appendSeq_D (n gf : Nat) (lb : Array Value) (xs : List Nat) (R : Nat → Prop) (w : World) (hx : xs.length ≤ 1099511627776) (eg : ∀ args w, (callFunc gf args).run Try.prog w = .ok (.enter gf args) w) (hR : ∀ r, R r → r < w.heap.size)
    (hseq : SeqD Fence.wide n Try.prog gf lb (fun x : Nat => #[.int .i64 x]) R xs w) :
    CallsIn Fence.wide (n + 1) Try.prog 32 #[.slice none 0 0, .func (.func gf) #[] lb] w fun e w' => ∃ v, e = .returned v ∧ NumRow w.heap.size w' v xs ∧ Below w.heap.size w w' := by
  obtain ⟨i0, hi, hz0, hz1, hz2⟩ := infoI_parts
  refine callsIn_of_wp_marks Try.func32 rfl trivial ?_ rfl
  simp only [Try.ntmps32, List.size_toArray, List.length_cons, List.length_nil, Nat.reduceAdd, Nat.reduceSub, Array.replicate_succ, Array.replicate_zero, List.push_toArray, List.append_toArray, List.nil_append, List.cons_append]
  obtain ⟨w2, hw2⟩ : ∃ w2, w.alloc (.cells #[.slice none 0 0] 30) = w2 := ⟨_, rfl⟩
  have bO : Boxed w2 w.heap.size 30 (.slice none 0 0) := by rw [← hw2]; exact Boxed.new w _ _
  have b2 : Below w.heap.size w w2 := by rw [← hw2]; exact (Below.refl _ w).alloc (Nat.le_refl _) _
  have s2 : w2.heap.size = w.heap.size + 1 := by rw [← hw2]; simp
  have HB : Hid (_ ∧ _ ∧ _) := ⟨bO, b2, s2⟩
  clear bO b2 s2
  gi_wp2_with fail
  obtain ⟨bO, b2, s2⟩ := HB.out
  clear hw2
  refine wpIn_rangeFunc_D rfl (by omega) (gf := gf) (lb := lb) rfl trivial eg hseq (fun _ => rfl)
    (fun pre E X => ∃ v, (∀ r, E r ↔ r = w.heap.size ∨ v.ownBlock = some r) ∧ Boxed X w.heap.size 30 v ∧ NumRow w.heap.size X v pre) (fun _ _ _ _ => False)
    ?hI (fun c s E X Y hi hk => hi) (fun r => r = w.heap.size) (fun r e => by omega) (fun r hr e => by have := hR r hr; omega) (fun r hr => ⟨by have := hR r hr; omega, b2.block r (hR r hr)⟩) b2.size
    ⟨_, fun r => by simp [Value.ownBlock], bO, World.ownsRow_nil _ _ _ _⟩
    (fun pre y E a' X => (∃ v, (∀ r, E r ↔ r = w.heap.size ∨ v.ownBlock = some r) ∧ Boxed X w.heap.size 30 v ∧ NumRow w.heap.size X v pre) ∧ a' = { tmps := #[.slice none 0 0, .func (.func gf) #[] lb, .pointer (some ⟨w.heap.size, 0, none⟩), undef, .slice none 0 0, .int .i64 (y : Nat), .func (.func gf) #[] lb, .int .i64 (y : Nat), undef, undef, undef, undef, undef], defers := [] })
    ?hAx ?assign ?body ?done ?stop
  case hI =>
    rintro s E X Y ⟨v, h1, h2, h3⟩ hk
    refine ⟨v, h1, (hk.same _ ((h1 _).2 (.inl rfl))).trans h2, owns_same h3 (fun g hg => hk.same _ ((h1 _).2 (.inr hg)))⟩
  case hAx =>
    rintro s y a' _ E X Y ⟨⟨v, h1, h2, h3⟩, h4⟩ hk
    exact ⟨⟨v, h1, (hk.same _ ((h1 _).2 (.inl rfl))).trans h2, owns_same h3 (fun g hg => hk.same _ ((h1 _).2 (.inr hg)))⟩, h4⟩
  case assign =>
    intro l' pre y D1 Wx K hi hfr hK
    gi_wp2
    exact hK _ D1 _ (Fr.refl hfr.lt) ⟨hi, rfl⟩
  case body =>
    rintro l' pre y post D2 a' X heq ⟨⟨v, hE, hb1, hr1⟩, rfl⟩ hfr _ hnl hlw
    have hlen : pre.length < xs.length := by rw [heq]; simp
    have hcb := hb1.cell
    have hsX := hfr.size
    have HFR : Hid (Fr _ _ _ _) := hfr
    have HE : Hid (∀ r, D2 r ↔ r = w.heap.size ∨ v.ownBlock = some r) := hE
    obtain ⟨q, c, rfl⟩ := owns_form hr1
    clear heq hnl hlw hfr hE
    gi_wp2_with (gi_at_builtin; refine wpListIn_append_own_at _ rfl _ _ 30 rfl w.heap.size 3 i0 (.int .i64 0) 1 8 Try.underlying30 hi hz0 hz1 hz2 rfl (by decide) (.slice q pre.length c) pre.length _ rfl (hr1.alloc _) ⟨X.heap.size, 0, none⟩ 1 1 [.int .i64 (y : Nat)] rfl rfl (one_cell_new _ _ _) (by simp [Value.oneCell']) (by unfold maxLen; omega) (by omega) (by simp; omega) ?_; intro v' w3 hown3 hgrow3 hnil3 hat3; obtain ⟨q', c', hv'⟩ := owns_form hown3; subst hv'; obtain ⟨hv1, hv2, hr2, hk2, hb2⟩ := hb1.appended (by decide) hr1 (by omega) (Nat.le_refl _) hown3 hgrow3; have hc3 := hv1.cell; have hf3 := hv1.frozen)
    have hs3 := hgrow3.size
    simp at hs3
    have hm : (pre ++ [y]).map (fun x : Nat => Value.int .i64 x) = pre.map (fun x : Nat => Value.int .i64 x) ++ [.int .i64 y] := by simp
    have hl : (pre ++ [y]).length = pre.length + 1 := by simp
    refine ⟨fun r => r = w.heap.size ∨ (Value.slice q' (pre.length + 1) c').ownBlock = some r, ⟨_, fun _ => Iff.rfl, hv2, by unfold NumRow; rw [hl, hm]; exact hr2⟩, ?_⟩
    refine ⟨hb2.os, hb2.tape, hb2.output, hb2.size, fun r h1 h2 => ?_, fun r hr => ?_, fun r hr => ?_⟩
    · have n1 : r ≠ w.heap.size := fun e => h2 ((HE.out r).2 (.inl e))
      have n2 : some r ≠ (Value.slice q pre.length c).ownBlock := fun e => h2 ((HE.out r).2 (.inr e.symm))
      have e1 := (setCell_at w3 w.heap.size 0 (.slice q' (pre.length + 1) c')).block r (by omega) (fun e => n1 (Option.some.inj e))
      exact e1.trans ((hgrow3.block r (by simp; omega) n2).trans (Below.heap_alloc _ _ _ h1))
    · rcases hr with hr | hr
      · exact .inl ((HE.out r).2 (.inl hr))
      · rcases hat3 with h5 | h5
        · exact .inl ((HE.out r).2 (.inr (h5.symm.trans hr)))
        · rw [hr] at h5
          have := Option.some.inj h5
          simp at this
          exact .inr (by omega)
    · rcases hr with hr | hr
      · subst hr; exact hv2.lt
      · exact (owns_lt hr2 hr).2
  case done =>
    rintro E X ⟨v, hE, hb1, hr1⟩ hfr hK hnE
    have hcb := hb1.cell
    have HFR : Hid (Fr _ _ _ _) := hfr
    obtain ⟨q, c, rfl⟩ := owns_form hr1
    gi_wp2
    refine ⟨by simp, .inl ⟨_, _, rfl, run_takeDeferred hK, ?_⟩⟩
    refine ⟨_, results_tmp rfl _ _ _, _, rfl, owns_same hr1 (fun g hg => World.putObj_heap_other (fun e => ?_)), ?_⟩
    · exact hnE ((hE _).2 (.inr (by first | exact (e ▸ hg) | exact (e.symm ▸ hg))))
    · have h4 : Below w.heap.size w2 X := HFR.out.below (by omega) (fun r (e : r = w.heap.size) => by omega)
      have h5 : Below w.heap.size X (X.putObj w2.heap.size (.deferred none)) := (Below.refl _ X).grown (grownBy_putObj' _ _ _) (by have := h4.size; omega) (fun r e => by cases e; omega)
      exact (b2.trans h4).trans h5
  case stop => rintro c pre y post E X heq hx; exact hx.elim

set_option maxRecDepth 100000 in
theorem collect_D (n gf : Nat) (lb : Array Value) (xs : List Nat) (R : Nat → Prop) (w : World) (hx : xs.length ≤ 1099511627776) (eg : ∀ args w, (callFunc gf args).run Try.prog w = .ok (.enter gf args) w) (hR : ∀ r, R r → r < w.heap.size)
    (hseq : SeqD Fence.wide n Try.prog gf lb (fun x : Nat => #[.int .i64 x]) R xs w) :
    Calls Try.prog 22 #[.func (.func gf) #[] lb] w fun e w' => ∃ v, e = .returned v ∧ NumRow w.heap.size w' v xs ∧ Below w.heap.size w w' := by
  have h := callsIn_wide.1 (appendSeq_D n gf lb xs R w hx eg hR hseq)
  go_enter Try.func22, Try.ntmps22
  go_wp2_with fail
  go_at_call 32
  refine Calls.mono h ?_
  clear h
  rintro e w' ⟨v, rfl, h1, h2⟩
  obtain ⟨q, c, rfl⟩ := owns_form h1
  go_wp2
  go_ret
  exact ⟨_, rfl, h1, h2⟩

end Go.Proofs.Ytiaikkbmgnaikaa.Bl
