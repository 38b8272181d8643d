/- Package bloom: Push, Pop, May, Count at every filter and every slice of hashes. -/
import Derived.Test.YtiaikkbmgnaikaaBlGa
import Derived.Test.YtiaikkbmgnaikaaRgIn
namespace Go.Proofs.Ytiaikkbmgnaikaa.Bl
open Go Go.RowKit Go.Shelf
attribute [local go_sem] Oper.semAt_some

theorem setCell_at (X : World) (b i : Nat) (v : Value) : X.grownBy (X.setCell ⟨b, i, none⟩ v) (some b) :=
  ⟨rfl, rfl, rfl, by simp [World.setCell], fun k _ hne => by
    have : k ≠ b := fun e => hne (by rw [e])
    simp [World.setCell, Array.getElem?_modify, this.symm]⟩

theorem drew_at (X : World) : X.grownBy X.drew none := ⟨rfl, rfl, rfl, Nat.le_refl _, fun _ _ _ => rfl⟩
theorem wrap_u8 {x : Int} (h : 0 ≤ x) (h' : x < 256) : IntKind.u8.wrap x = x := by rw [IntKind.wrap_u8]; omega
set_option maxRecDepth 100000 in
theorem countersOfAll_any (p : Option Addr) (m cap : Nat) (w : World) :
    Calls Try.prog 28 #[.slice p m cap] w fun e w' => e = .returned (.func (.func 37) #[] #[.pointer (some ⟨w.heap.size, 0, none⟩)]) ∧ w' = w.alloc (.cells #[.slice p m cap] 30) := by
  go_enter Try.func28, Try.ntmps28
  go_wp2
  go_ret
  exact ⟨rfl, rfl⟩

/-- What a slice's own row is, where it holds anything: none of b. -/
def Off (v : Value) (l : List Int) (b : Nat) : Prop := ∀ r, v.ownBlock = some r → l ≠ [] → r ≠ b

set_option maxRecDepth 100000 in
set_option maxHeartbeats 300000 in
theorem push_any (b : Nat) (c : Nat → Nat) (v : Value) (l : List Int) (w : World) (hf : FltAt w b c) (hl : IntsR w v l) (ho : Off v l b) :
    Calls Try.prog 17 #[.pointer (some ⟨b, 0, none⟩), v] w fun e w' => (∃ u, e = .returned u) ∧ FltAt w' b (pushV c l) ∧ Fr (fun r => r = b) (fun r => r = b) w w' := by
  refine (callsIn_wide (n := 5)).1 ?_
  refine callsIn_of_wp_marks Try.func17 rfl trivial ?_ rfl
  simp only [Try.ntmps17, List.size_toArray, List.length_cons, List.length_nil, Nat.reduceAdd, Nat.reduceSub, Array.replicate_succ, Array.replicate_zero, List.push_toArray, List.append_toArray, List.nil_append, List.cons_append]
  have hbw := hf.lt
  obtain ⟨w1, hw1⟩ : ∃ w1, w.alloc (.cells #[.pointer (some ⟨b, 0, none⟩)] 71) = w1 := ⟨_, rfl⟩
  have bF : w1.cell? ⟨w.heap.size, 0, none⟩ = some (.pointer (some ⟨b, 0, none⟩)) := by rw [← hw1]; exact (Boxed.new w _ _).cell
  have b1 : Below w.heap.size w w1 := by rw [← hw1]; exact (Below.refl _ w).alloc (Nat.le_refl _) _
  have s1 : w1.heap.size = w.heap.size + 1 := by rw [← hw1]; simp
  obtain ⟨p, cap, rfl⟩ := hl.len
  have hcoa := countersOfAll_any p l.length cap w1
  have HF : Hid (FltAt w b c) := hf
  have HL : Hid (IntsR w (.slice p l.length cap) l) := hl
  have HB : Hid (_ ∧ _) := ⟨b1, s1⟩
  clear hf hl b1 s1
  gi_wp2_with fail
  refine ⟨trivial, ?_⟩
  refine (callsIn_wide.2 hcoa).mono ?_
  clear hcoa
  rintro e w2 ⟨rfl, hw2⟩
  obtain ⟨b1, s1⟩ := HB.out
  have b2 : Below w1.heap.size w1 w2 := by rw [hw2]; exact (Below.refl _ w1).alloc (Nat.le_refl _) _
  have s2 : w2.heap.size = w1.heap.size + 1 := by rw [hw2]; simp
  have bL : w2.cell? ⟨w1.heap.size, 0, none⟩ = some (.slice p l.length cap) := by rw [hw2]; exact (Boxed.new w1 _ _).cell
  have bF2 : w2.cell? ⟨w.heap.size, 0, none⟩ = some (.pointer (some ⟨b, 0, none⟩)) := (b2.cell (p := ⟨w.heap.size, 0, none⟩) (by simp; omega)).trans bF
  have b12 : Below w.heap.size w w2 := b1.trans (b2.mono (by omega))
  have hl2 : IntsR w2 (.slice p l.length cap) l := by
    by_cases h0 : l = []
    · subst h0; exact .inl ⟨rfl, _, _, rfl⟩
    · exact HL.out.kept (fun r hr => b12.block r (HL.out.lt h0 hr))
  have hf2 : FltAt w2 b c := HF.out.kept (b12.block b hbw)
  have HS : Hid (_ ∧ _ ∧ _ ∧ _) := ⟨b12, s1, s2, hl2⟩
  have HO : Hid (Off (.slice p l.length cap) l b) := ho
  have HC : Hid (_ ∧ _) := ⟨bL, bF2⟩
  clear hw1 hw2 b1 b2 s1 s2 b12 hl2 bL bF bF2 HB ho
  gi_wp2_with fail
  refine wpIn_rangeFunc_D rfl (by decide) (gf := 37) (lb := #[.pointer (some ⟨w1.heap.size, 0, none⟩)]) rfl trivial egAll (all_seq 4 (by decide) w1.heap.size (.slice p l.length cap) l w2 HC.out.1 HS.out.2.2.2) (fun _ => rfl)
    (fun pre E X => (∀ r, E r ↔ r = b) ∧ FltAt X b (pre.foldl upV c)) (fun _ _ _ _ => False) (fun s E X Y hi hk => ⟨hi.1, hi.2.kept (hk.same b ((hi.1 b).2 rfl))⟩) (fun c s E X Y hi hk => hi) (fun r => r = b) (fun r e => by rw [e]; exact hf2.lt)
    (fun r hr e => by
      subst e
      have h1 := HS.out.2.1
      rcases hr with hr | ⟨h2, h3⟩
      · omega
      · exact HO.out _ h2 h3 rfl)
    (fun r hr => ⟨by
      have h1 := HS.out.2.2.1
      rcases hr with hr | ⟨h2, h3⟩
      · omega
      · exact HS.out.2.2.2.lt h3 h2, rfl⟩) (Nat.le_refl _) ⟨fun _ => Iff.rfl, hf2⟩
    (fun pre y E a' X => ((∀ r, E r ↔ r = b) ∧ FltAt X b (pre.foldl upV c)) ∧ a' = { tmps := #[.pointer (some ⟨b, 0, none⟩), .slice p l.length cap, .pointer (some ⟨w.heap.size, 0, none⟩), undef, .int .u32 (y : Nat), .slice p l.length cap, .func (.func 37) #[] #[.pointer (some ⟨w1.heap.size, 0, none⟩)], .int .u32 (y : Nat), undef, undef, undef, undef, undef, undef, undef, undef, undef, undef, undef, undef, undef, undef, undef, undef, undef], defers := [] })
    (fun s y a' _ E X Y hi hk => ⟨⟨hi.1.1, hi.1.2.kept (hk.same b ((hi.1.1 b).2 rfl))⟩, hi.2⟩) ?assign ?body ?done ?stop
  case assign =>
    intro l' pre y D1 Wx K hi hfr hK
    gi_wp2
    exact hK _ D1 _ (Fr.refl hfr.lt) ⟨hi, rfl⟩
  case body =>
    rintro l' pre y post D2 a' Wx heq ⟨⟨hE, hfx⟩, rfl⟩ hfr _ hnl hlw
    have hy : y < 1024 := all_lt (l := l) (i := y) (by rw [heq]; simp)
    have cF := hfr.keep (p := ⟨w.heap.size, 0, none⟩) (by simp; omega) HC.out.2
    obtain ⟨c1, c2⟩ := hfx.cell hy
    have hyi : (y : Int) < 1024 := by omega
    have HX : Hid (FltAt Wx b (pre.foldl upV c)) := hfx
    have HN : Hid (∀ r, D2 r → r < Wx.heap.size) := hfr.lt
    have hle := hfx.2 y
    have hfold : (pre ++ [y]).foldl upV c = upV (pre.foldl upV c) y := by simp
    generalize pre.foldl upV c = d at *
    have HFO : Hid (_ = _) := hfold
    have HE : Hid (∀ r, D2 r ↔ r = b) := hE
    clear heq hfx hfr hf2 hfold hE
    by_cases hlt : d y < 255
    · have hb : decide (((d y : Nat) : Int) < 255) = true := by simp; omega
      have hb' : decide (d y < 255) = true := by simp; omega
      have hu : upV d y y = d y + 1 := if_pos ⟨rfl, hlt⟩
      have HU : Hid (_ = _) := hu
      clear hu
      gi_wp2
      have HeldS : (fun X : World => X.cell? ⟨w.heap.size, 0, none⟩ = some (.pointer (some ⟨b, 0, none⟩)) ∧ X.cell? ⟨b, y, none⟩ = some (.int .u8 (d y))) Wx.drew := ⟨cF, c1⟩
      refine Rg.wpD_round [0, 1, 2, 3, 4, 5, 6, 7, 8, 9] (fun X : World => X.cell? ⟨w.heap.size, 0, none⟩ = some (.pointer (some ⟨b, 0, none⟩)) ∧ X.cell? ⟨b, y, none⟩ = some (.int .u8 (d y))) (by kernel_rfl) (by kernel_rfl) ?_
      refine Rg.wpD_load 0 (v := ?_) (by simp only [List.getElem?_toArray, List.getElem?_cons_zero]; rfl) (by kernel_rfl) (by kernel_rfl) (by intro _ _ _ h; exact h) HeldS (by rfl) (fun wz hz => ?_) ?_
      rotate_left
      · first | (go_simp; done) | (go_simp; with_reducible rfl)
      simp only [Act.put, List.setIfInBounds_toArray, List.set_cons_succ, List.set_cons_zero]
      refine Rg.wpD_load 1 (v := ?_) (by simp only [List.getElem?_toArray, List.getElem?_cons_succ, List.getElem?_cons_zero]; rfl) (by kernel_rfl) (by kernel_rfl) (by intro _ _ _ h; exact h) HeldS (by rfl) (fun wz hz => ?_) ?_
      rotate_left
      · first | (go_simp; done) | (go_simp; with_reducible rfl)
      simp only [Act.put, List.setIfInBounds_toArray, List.set_cons_succ, List.set_cons_zero]
      refine Rg.wpD_load 2 (v := ?_) (by simp only [List.getElem?_toArray, List.getElem?_cons_succ, List.getElem?_cons_zero]; rfl) (by kernel_rfl) (by kernel_rfl) (by intro _ _ _ h; exact h) HeldS (by rfl) (fun wz hz => ?_) ?_
      rotate_left
      · first | (go_simp; done) | (go_simp; with_reducible rfl)
      simp only [Act.put, List.setIfInBounds_toArray, List.set_cons_succ, List.set_cons_zero]
      refine Rg.wpD_load 3 (v := ?_) (by simp only [List.getElem?_toArray, List.getElem?_cons_succ, List.getElem?_cons_zero]; rfl) (by kernel_rfl) (by kernel_rfl) (by intro _ _ _ h; exact h) HeldS (by rfl) (fun wz hz => ?_) ?_
      rotate_left
      · first | (go_simp; done) | (go_simp; with_reducible rfl)
      simp only [Act.put, List.setIfInBounds_toArray, List.set_cons_succ, List.set_cons_zero]
      refine Rg.wpD_load 4 (v := ?_) (by simp only [List.getElem?_toArray, List.getElem?_cons_succ, List.getElem?_cons_zero]; rfl) (by kernel_rfl) (by kernel_rfl) (by intro _ _ _ h; exact h) HeldS (by rfl) (fun wz hz => ?_) ?_
      rotate_left
      · first | (go_simp; done) | (go_simp; with_reducible rfl)
      simp only [Act.put, List.setIfInBounds_toArray, List.set_cons_succ, List.set_cons_zero]
      refine Rg.wpD_load 5 (v := ?_) (by simp only [List.getElem?_toArray, List.getElem?_cons_succ, List.getElem?_cons_zero]; rfl) (by kernel_rfl) (by kernel_rfl) (by intro _ _ _ h; exact h) HeldS (by rfl) (fun wz hz => ?_) ?_
      rotate_left
      · first | (go_simp; done) | (go_simp; with_reducible rfl)
      simp only [Act.put, List.setIfInBounds_toArray, List.set_cons_succ, List.set_cons_zero]
      refine Rg.wpD_load 6 (v := ?_) (by simp only [List.getElem?_toArray, List.getElem?_cons_succ, List.getElem?_cons_zero]; rfl) (by kernel_rfl) (by kernel_rfl) (by intro _ _ _ h; exact h) HeldS (by rfl) (fun wz hz => ?_) ?_
      rotate_left
      · first | (go_simp; done) | (go_simp; with_reducible rfl)
      simp only [Act.put, List.setIfInBounds_toArray, List.set_cons_succ, List.set_cons_zero]
      refine Rg.wpD_load 7 (v := ?_) (by simp only [List.getElem?_toArray, List.getElem?_cons_succ, List.getElem?_cons_zero]; rfl) (by kernel_rfl) (by kernel_rfl) (by intro _ _ _ h; exact h) HeldS (by rfl) (fun wz hz => ?_) ?_
      rotate_left
      · first | (go_simp; done) | (go_simp; with_reducible rfl)
      simp only [Act.put, List.setIfInBounds_toArray, List.set_cons_succ, List.set_cons_zero]
      refine Rg.wpD_load 8 (v := ?_) (by simp only [List.getElem?_toArray, List.getElem?_cons_succ, List.getElem?_cons_zero]; rfl) (by kernel_rfl) (by kernel_rfl) (by intro _ _ _ h; exact h) HeldS (by rfl) (fun wz hz => ?_) ?_
      rotate_left
      · first | (go_simp; done) | (go_simp; with_reducible rfl)
      simp only [Act.put, List.setIfInBounds_toArray, List.set_cons_succ, List.set_cons_zero]
      refine Rg.wpD_load 9 (v := ?_) (by simp only [List.getElem?_toArray, List.getElem?_cons_succ, List.getElem?_cons_zero]; rfl) (by kernel_rfl) (by kernel_rfl) (by intro _ _ _ h; exact h) HeldS (by rfl) (fun wz hz => ?_) ?_
      rotate_left
      · first | (go_simp; done) | (go_simp; with_reducible rfl)
      simp only [Act.put, List.setIfInBounds_toArray, List.set_cons_succ, List.set_cons_zero]
      refine Rg.wpD_do 10 (by kernel_rfl) (by simp only [List.getElem?_toArray, List.getElem?_cons_succ, List.getElem?_cons_zero]; rfl) (fun K hK => ?_)
      go_simp
      refine hK _ _ (fun h => absurd h (by decide)) ?_
      clear hK K
      refine Rg.wpD_done (by kernel_rfl) ?_
      simp only [Rg.onlyK]
      refine ⟨D2, ⟨HE.out, ?_⟩, ?_⟩
      · rw [show (pre ++ [y]).foldl upV c = _ from HFO.out]
        refine FltAt.kept (X := Wx.setCell ⟨b, y, none⟩ (.int .u8 (IntKind.u8.wrap (d y + 1)))) ?_ rfl
        refine HX.out.put hy ?_ (fun j hj => if_neg (fun e => hj e.1)) (by rw [HU.out]; omega)
        rw [HU.out, wrap_u8 (by omega) (by omega)]; omega
      · exact ((Fr.refl HN.out).grown (setCell_at Wx b y _) (fun r e => by cases e; exact .inl ((HE.out _).2 rfl))).grown (drew_at _) (fun _ e => by cases e)
    · have hb : decide (((d y : Nat) : Int) < 255) = false := by simp; omega
      have hb' : decide (d y < 255) = false := by simp; omega
      gi_wp2
      refine ⟨D2, ⟨HE.out, ?_⟩, Fr.refl HN.out⟩
      rw [show (pre ++ [y]).foldl upV c = _ from HFO.out]
      exact HX.out.ext (fun j => if_neg (fun e => hlt e.2))
  case done =>
    rintro E X ⟨hE, hfX⟩ hfr hK hnE
    gi_wp2
    refine ⟨by simp, .inl ⟨_, _, rfl, run_takeDeferred hK, ?_⟩⟩
    refine ⟨_, results_none rfl _ _ _, ⟨_, rfl⟩, hfX.kept (World.putObj_heap_other ?_), ?_⟩
    · have := hf2.lt; omega
    · have h3 : Fr (fun r => r = b) (fun r => r = b) w X := (Fr.of_below (D := fun r => r = b) HS.out.1 (fun r e => by omega)).trans (hfr.names (fun _ h => h) (fun r e => ⟨.inl ((hE r).2 e), by subst e; exact hfX.lt⟩))
      exact h3.put _ (.inr (by have := HS.out.2.1; have := HS.out.2.2.1; omega))
  case stop => rintro c pre y post E X heq hx; exact hx.elim

end Go.Proofs.Ytiaikkbmgnaikaa.Bl
