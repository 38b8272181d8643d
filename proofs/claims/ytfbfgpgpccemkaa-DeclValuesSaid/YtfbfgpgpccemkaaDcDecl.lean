/- decl.declaration, at every slice of tokens. -/
import Derived.Test.YtfbfgpgpccemkaaDcPart
namespace Go.Proofs.Ytfbfgpgpccemkaa.Dc
open Go Go.RowKit Go.Shelf

def zeroDc : Value := .agg #[.string ⟨#[]⟩, .slice none 0 0, .bool false]
/-- What a reader of one declaration answers. -/
def OneDecl (n : Nat) (l : List Bt) (e : Ending) (w' : World) : Prop :=
  (declOf l = none ∧ e = .returned (.tuple #[.agg #[.string ⟨#[]⟩, .slice none 0 0, .bool false], .bool false])) ∨ ∃ d x, declOf l = some d ∧ e = .returned (.tuple #[.agg #[.string d.name, x, .bool d.imp], .bool true]) ∧ w'.ownsRow n 36 5 x d.value.length (btsCells d.value)
theorem unmark_mem {l : List Bt} {t : Bt} (h : t ∈ (unmark l).1) : t ∈ l := by
  unfold unmark at h
  split at h
  · exact h
  · rename_i a w ha
    split at h
    · split at h
      · exact h
      · rename_i b s hb
        split at h
        · have h1 : t ∈ b := endW_mem h
          unfold lastT at ha hb
          simp only [Option.map_eq_some_iff, Prod.mk.injEq] at ha hb
          obtain ⟨_, _, rfl, _⟩ := ha
          obtain ⟨_, _, rfl, _⟩ := hb
          exact endW_mem ((List.dropLast_sublist _).mem (endW_mem ((List.dropLast_sublist _).mem h1)))
        · exact h
    · exact h
theorem unmark_len (l : List Bt) : (unmark l).1.length ≤ l.length := by
  unfold unmark
  split
  · exact Nat.le_refl _
  · rename_i a w ha
    split
    · split
      · exact Nat.le_refl _
      · rename_i b s hb
        split
        · unfold lastT at ha hb
          simp only [Option.map_eq_some_iff, Prod.mk.injEq] at ha hb
          obtain ⟨_, _, rfl, _⟩ := ha
          obtain ⟨_, _, rfl, _⟩ := hb
          have h1 := endW_len l
          have h2 := endW_len (endW l).dropLast
          have h3 := endW_len (endW (endW l).dropLast).dropLast
          simp only [List.length_dropLast] at *
          omega
        · exact Nat.le_refl _
    · exact Nat.le_refl _

set_option maxRecDepth 100000 in
set_option maxHeartbeats 4000000 in
theorem declaration_any (v : Value) (l : List Bt) (w : World) (hv : BtsAt w.heap.size w v l) (ht : ∀ t ∈ l, t.text.size ≤ maxLen) (hl : l.length ≤ 1000000) (h0 : l ≠ []) :
    Calls Try.prog 19 #[v] w fun e w' => OneDecl w.heap.size l e w' ∧ Below w.heap.size w w' := by
  cases l with
  | nil => exact absurd rfl h0
  | cons t r =>
  obtain ⟨bk, off, cap, rfl, h1, h2, hb, hc, hr⟩ := hv.first
  obtain ⟨x0, x1, _⟩ := hc
  unfold maxLen at h2
  have hz : ¬ (r.length : Int) + 1 = 0 := by omega
  have hr1 : (1 : Int) ≤ (r.length : Int) + 1 := by omega
  have hr2 : ((r.length + 1 : Nat) : Int) ≤ (cap : Int) := by omega
  have hcp : (1 : Int) ≤ (cap : Int) := by omega
  have b0 : Below w.heap.size w (w.alloc (.cells #[.string ⟨#[]⟩, .slice none 0 0, .bool false] 34)) := (Below.refl _ w).alloc (Nat.le_refl _) _
  have k0 := Blk.new w 34 [.string ⟨#[]⟩, .slice none 0 0, .bool false]
  have hs0 : (w.alloc (.cells #[.string ⟨#[]⟩, .slice none 0 0, .bool false] 34)).heap.size = w.heap.size + 1 := World.size_alloc _ _
  have hr0 := hr.below b0
  replace x0 := (b0.cell (p := ⟨bk, off, none⟩) hb).trans x0
  replace x1 := (b0.cell (p := ⟨bk, off + 1, none⟩) hb).trans x1
  go_enter Try.func19, Try.ntmps19
  go_upto_region 1 with fail
  obtain ⟨⟨c0, c1, c2⟩, f0, f1, f2⟩ := blk3 k0
  replace k0 : Blk (w.alloc (.cells #[.string ⟨#[]⟩, .slice none 0 0, .bool false] 34)) w.heap.size _ _ := k0
  generalize w.alloc (.cells #[.string ⟨#[]⟩, .slice none 0 0, .bool false] 34) = W at *
  have bz := below_grown b0 (grown_set3 W w.heap.size (.string ⟨#[]⟩) (.slice none 0 0) (.bool false)) (by omega) (Nat.le_refl _)
  by_cases hk : t.kind = 1
  · rw [hk] at x0
    obtain ⟨pp, hpp⟩ : ∃ pp : Option Addr, (if cap = 1 then some (⟨bk, off, none⟩ : Addr) else some ⟨bk, off + 5, none⟩) = pp := ⟨_, rfl⟩
    rw [hpp] at hr0
    have h3 := afterWhite_any _ r W _ hr0
    obtain ⟨R, hR⟩ : ∃ R, dropW r = R := ⟨_, rfl⟩
    rw [hR] at h3
    go_wp2_with fail
    refine h3.mono ?_
    clear h3
    rintro e w1 ⟨v1, rfl, hv1, rfl⟩
    cases R with
    | nil =>
      obtain ⟨p1, cap1, rfl⟩ := hv1.empty
      have hd : declOf (t :: r) = none := by simp [declOf, hk, hR]
      clear hv1 hR hpp hr0 hr hv
      go_wp2
      refine bodyPost_ret (results_struct_tmp rfl _ _ w.heap.size _ rfl (load_decl (blk_set3 k0 _ _ _))) rfl ?_
      exact ⟨.inl ⟨hd, rfl⟩, bz⟩
    | cons c vv =>
      obtain ⟨bk1, off1, cap1, rfl, g1, g2, gb, ⟨y0, _⟩, hvv⟩ := hv1.first
      unfold maxLen at g2
      have hz1 : ¬ (vv.length : Int) + 1 = 0 := by omega
      have hq1 : (1 : Int) ≤ (vv.length : Int) + 1 := by omega
      have hq2 : ((vv.length + 1 : Nat) : Int) ≤ (cap1 : Int) := by omega
      have hq3 : (1 : Int) ≤ (cap1 : Int) := by omega
      by_cases h11 : c.kind = 11
      · have hd : declOf (t :: r) = some ⟨lowT t.text, (unmark (endW (dropW vv))).1, (unmark (endW (dropW vv))).2⟩ := by simp [declOf, hk, hR, h11]
        rw [h11] at y0
        obtain ⟨pq, hpq⟩ : ∃ pq : Option Addr, (if cap1 = 1 then some (⟨bk1, off1, none⟩ : Addr) else some ⟨bk1, off1 + 5, none⟩) = pq := ⟨_, rfl⟩
        rw [hpq] at hvv
        have h4 := afterWhite_any _ vv w1 _ hvv
        have hsub : ∀ u ∈ vv, u ∈ t :: r := fun u hu => List.mem_cons_of_mem _ (dropW_mem (by rw [hR]; exact List.mem_cons_of_mem _ hu))
        have hvl : vv.length ≤ 1000000 := by
          have := dropW_len r
          rw [hR] at this
          simp only [List.length_cons] at this hl
          omega
        have hM1 : ∀ u ∈ endW (dropW vv), u.text.size ≤ maxLen := fun u hu => ht u (hsub u (dropW_mem (endW_mem hu)))
        have hM2 : (unmark (endW (dropW vv))).1.length ≤ 1000000 := Nat.le_trans (unmark_len _) (Nat.le_trans (endW_len _) (Nat.le_trans (dropW_len _) hvl))
        have hlow := fun X => lower_any t.text X (ht t (List.mem_cons_self ..))
        generalize dropW vv = V1 at *
        obtain ⟨V2, hV2⟩ : ∃ V2, endW V1 = V2 := ⟨_, rfl⟩
        rw [hV2] at hd hM1 hM2
        obtain ⟨U1, U2, hU⟩ : ∃ U1 U2, unmark V2 = (U1, U2) := ⟨_, _, rfl⟩
        rw [hU] at hd hM2
        obtain ⟨LT, hLT⟩ : ∃ LT, lowT t.text = LT := ⟨_, rfl⟩
        rw [hLT] at hd hlow
        have hs1 := b0.size
        clear hv1 hR hpp hr0 hr hv
        go_wp2_with fail
        refine h4.mono ?_
        clear h4
        rintro e w2 ⟨v2, rfl, hv2, rfl⟩
        have h5 := beforeWhite_any v2 V1 w2 _ hv2
        rw [hV2] at h5
        go_wp2_with fail
        refine h5.mono ?_
        clear h5
        rintro e w3 ⟨v3, rfl, hv3, rfl⟩
        have h6 := withoutMark_any v3 V2 w3 (hv3.mono hs1) hM1
        rw [hU] at h6
        clear hU hV2 hpq hM1 hvv hv2 hv3
        go_wp2_with fail
        refine h6.mono ?_
        clear h6
        rintro e w4 ⟨v4, rfl, hv4, b4⟩
        replace x1 := (b4.cell (p := ⟨bk, off + 1, none⟩) (show bk < _ by omega)).trans x1
        have hb4 := b4.size
        clear x0 y0
        go_wp2_with fail
        refine (hlow _).mono ?_
        clear hlow
        rintro e w5 ⟨rfl, b5⟩
        have hb5 := b5.size
        have h7 := copied_any v4 U1 w5 ((hv4.mono hb4).next b5) hM2
        go_wp2_with fail
        refine h7.mono ?_
        clear h7
        rintro e w6 ⟨v6, rfl, r6, b6⟩
        have b16 := below_next (below_next b4 b5) b6
        have k6 := k0.below b16 k0.lt
        clear c0 c1 c2 f0 f1 f2
        obtain ⟨⟨c0, c1, c2⟩, f0, f1, f2⟩ := blk3 k6
        have hkl := k0.lt
        obtain ⟨q6, n6, rfl⟩ := form_of r6
        go_wp2
        refine bodyPost_ret (results_struct_tmp rfl _ _ w.heap.size _ rfl (load_decl (blk_set3 k6 _ _ _))) rfl ?_
        refine ⟨.inr ⟨_, _, hd, rfl, (owns_base r6 (by omega)).kept (grown_set3 _ _ _ _ _) ?_⟩, below_grown (below_next b0 b16) (grown_set3 _ _ _ _ _) (by have := b16.size; omega) (Nat.le_refl _)⟩
        cases hv6 : (Value.slice q6 U1.length n6).ownBlock with
        | none => exact .inl rfl
        | some j =>
          have := (World.ownsRow.lt r6 j hv6).1
          exact .inr (by simp; omega)
      · have hd : declOf (t :: r) = none := by simp [declOf, hk, hR, h11]
        have h11' : (c.kind != 11) = true := by simpa using h11
        clear hv1 hR hpp hr0 hr hv hvv
        generalize c.kind = ck at *
        go_wp2
        refine bodyPost_ret (results_struct_tmp rfl _ _ w.heap.size _ rfl (load_decl (blk_set3 k0 _ _ _))) rfl ?_
        exact ⟨.inl ⟨hd, rfl⟩, bz⟩
  · have hd : declOf (t :: r) = none := by simp [declOf, hk]
    have hk' : (t.kind != 1) = true := by simpa using hk
    clear hr0 hr hv
    generalize t.kind = ck at *
    go_wp2
    refine bodyPost_ret (results_struct_tmp rfl _ _ w.heap.size _ rfl (load_decl (blk_set3 k0 _ _ _))) rfl ?_
    exact ⟨.inl ⟨hd, rfl⟩, bz⟩

end Go.Proofs.Ytfbfgpgpccemkaa.Dc
