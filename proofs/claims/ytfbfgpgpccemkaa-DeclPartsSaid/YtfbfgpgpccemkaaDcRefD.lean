/- The document's own decl (one declaration), at every slice of tokens. -/
import Derived.Test.YtfbfgpgpccemkaaDcDecl
namespace Go.Proofs.Ytfbfgpgpccemkaa.Dc
open Go Go.RowKit Go.Shelf

theorem endW_self {l : List Bt} (h : ∀ a t, l = a ++ [t] → t.kind ≠ 9) : endW l = l := by
  by_cases h0 : l = []
  · rw [h0]
    rfl
  · obtain ⟨a, t, e⟩ := split_last h0
    rw [e]
    exact endW_no (h a t e)
theorem trim_pre {V a : List Bt} {t : Bt} (h : dropW V = V) (e : V = a ++ [t]) : endW (dropW a) = endW a := by
  have : a = V.take a.length := by rw [e, List.take_append_of_le_length (Nat.le_refl _), List.take_of_length_le (Nat.le_refl _)]
  rw [this, dropW_take h]
theorem dropW_pre {V a : List Bt} {t : Bt} (h : dropW V = V) (e : V = a ++ [t]) : dropW a = a := by
  have : a = V.take a.length := by rw [e, List.take_append_of_le_length (Nat.le_refl _), List.take_of_length_le (Nat.le_refl _)]
  rw [this, dropW_take h]
theorem str_ne' {z : ByteArray} (h : z ≠ importantT) : (z.toList == [105, 109, 112, 111, 114, 116, 97, 110, 116]) = false := str_ne h

set_option maxRecDepth 100000 in
set_option maxHeartbeats 8000000 in
theorem refDecl_any (v : Value) (l : List Bt) (w : World) (hv : BtsAt w.heap.size w v l) (ht : ∀ t ∈ l, t.text.size ≤ maxLen) (hl : l.length ≤ 1000000) (h0 : l ≠ []) :
    Calls Try.prog 22 #[v] w fun e w' => OneDecl w.heap.size l e w' ∧ Below w.heap.size w w' := by
  obtain ⟨j0, ji, jz0, jz1, jz2⟩ := info_parts infoTk6
  cases l with
  | nil => exact absurd rfl h0
  | cons t r =>
  obtain ⟨bk, off, cap, rfl, h1, h2, hb, hc, hr⟩ := hv.first
  obtain ⟨x0, x1, _⟩ := hc
  unfold maxLen at h2
  have hz : (0 : Int) < (r.length : Int) + 1 := by omega
  have hr1 : (1 : Int) ≤ (r.length : Int) + 1 := by omega
  have hr2 : ((r.length + 1 : Nat) : Int) ≤ (cap : Int) := by omega
  have hcp : (1 : Int) ≤ (cap : Int) := by omega
  have b0 : Below w.heap.size w (w.alloc (.cells #[.string ⟨#[]⟩, .slice none 0 0, .bool false] 34)) := (Below.refl _ w).alloc (Nat.le_refl _) _
  have k0 := Blk.new w 34 [.string ⟨#[]⟩, .slice none 0 0, .bool false]
  have hs0 : (w.alloc (.cells #[.string ⟨#[]⟩, .slice none 0 0, .bool false] 34)).heap.size = w.heap.size + 1 := World.size_alloc _ _
  replace x0 := (b0.cell (p := ⟨bk, off, none⟩) hb).trans x0
  replace x1 := (b0.cell (p := ⟨bk, off + 1, none⟩) hb).trans x1
  go_enter Try.func22, Try.ntmps22
  go_upto_region 1 with fail
  obtain ⟨⟨c0, c1, c2⟩, f0, f1, f2⟩ := blk3 k0
  replace k0 : Blk (w.alloc (.cells #[.string ⟨#[]⟩, .slice none 0 0, .bool false] 34)) w.heap.size _ _ := k0
  generalize w.alloc (.cells #[.string ⟨#[]⟩, .slice none 0 0, .bool false] 34) = W at *
  have bz := below_grown b0 (grown_set3 W w.heap.size (.string ⟨#[]⟩) (.slice none 0 0) (.bool false)) (by omega) (Nat.le_refl _)
  by_cases hk : t.kind = 1
  · rw [hk] at x0
    have hlow := refLower_any t.text W (ht t (List.mem_cons_self ..))
    obtain ⟨LT, hLT⟩ : ∃ LT, lowT t.text = LT := ⟨_, rfl⟩
    rw [hLT] at hlow
    obtain ⟨pp, hpp⟩ : ∃ pp : Option Addr, (if cap = 1 then some (⟨bk, off, none⟩ : Addr) else some ⟨bk, off + 5, none⟩) = pp := ⟨_, rfl⟩
    rw [hpp] at hr
    obtain ⟨R, hR⟩ : ∃ R, dropW r = R := ⟨_, rfl⟩
    go_wp2_with fail
    refine hlow.mono ?_
    clear hlow
    rintro e w1 ⟨rfl, b1⟩
    have b01 := below_next b0 b1
    have hs01 := b1.size
    have b2 : Below w1.heap.size w1 (w1.alloc (.cells #[.string LT, .slice none 0 0, .bool false] 34)) := (Below.refl _ w1).alloc (Nat.le_refl _) _
    have k2 := Blk.new w1 34 [.string LT, .slice none 0 0, .bool false]
    have hs2 : (w1.alloc (.cells #[.string LT, .slice none 0 0, .bool false] 34)).heap.size = w1.heap.size + 1 := World.size_alloc _ _
    have kk0 := (k0.below b1 k0.lt).below b2 (by have := k0.lt; omega)
    have b02 := below_next b01 b2
    have hr2' := hr.below b02
    clear x0 x1 c0 c1 c2 f0 f1 f2 hr
    go_upto_block 0 with fail
    replace k2 : Blk (w1.alloc (.cells #[.string LT, .slice none 0 0, .bool false] 34)) w1.heap.size _ _ := k2
    generalize w1.alloc (.cells #[.string LT, .slice none 0 0, .bool false] 34) = W2 at *
    have hs0w := k0.lt
    go_cut [0] (fun x wx => BtsAt w.heap.size W2 x R ∧ W2 = wx)
    case first =>
      go_wp2_with fail
      go_loopw [0] (fun x wr => ∃ (l' : List Bt) (v' : Value), v' = x ∧ BtsAt w.heap.size W2 v' l' ∧ dropW l' = R ∧ wr = W2) (fun x _ => lenOf x)
      case atStart => exact ⟨r, _, rfl, hr2', hR, rfl⟩
      case round =>
        obtain ⟨l', v', rfl, hv', hA, rfl⟩ := hrel
        clear hR hr2' hv hpp
        cases l' with
        | nil =>
          obtain rfl : [] = R := hA
          have hv2 := hv'
          obtain ⟨p, cap, rfl⟩ := hv'.empty
          clear hv'
          go_wp2
          go_meet
          exact ⟨hv2, rfl⟩
        | cons t2 r2 =>
          obtain ⟨bk2, off2, cap2, rfl, g1, g2, gb, ⟨gc, _⟩, gr⟩ := hv'.first
          have hpos : (0 : Int) < (r2.length : Int) + 1 := by omega
          have hcp2 : (1 : Int) ≤ (cap2 : Int) := by omega
          have hr12 : (1 : Int) ≤ (r2.length : Int) + 1 := by omega
          unfold maxLen at g2
          have hr22 : ((r2.length + 1 : Nat) : Int) ≤ (cap2 : Int) := by omega
          by_cases h9 : t2.kind = 9
          · rw [h9] at gc
            have HA : Hid (dropW r2 = R) := by show _ = _; rw [← hA, dropW_yes h9]
            clear hA hv' h9
            by_cases hc1 : cap2 = 1
            · subst hc1
              obtain rfl : r2 = [] := List.length_eq_zero_iff.1 (by omega)
              rw [if_pos rfl] at gr
              go_wp2
              first
                | exact ⟨⟨[], _, rfl, gr, HA, by first | rfl | trivial⟩, by simp [lenOf]⟩
                | (refine ⟨?_, by simp [lenOf]⟩
                   repeat apply Exists.intro
                   exact ⟨⟨[], _, rfl, gr, HA, by first | rfl | trivial⟩, rfl⟩)
            · rw [if_neg hc1] at gr
              go_wp2
              first
                | exact ⟨⟨r2, _, rfl, gr, HA, by first | rfl | trivial⟩, by simp [lenOf]⟩
                | (refine ⟨?_, by simp [lenOf]⟩
                   repeat apply Exists.intro
                   exact ⟨⟨r2, _, rfl, gr, HA, by first | rfl | trivial⟩, rfl⟩)
          · obtain rfl : t2 :: r2 = R := by rw [← hA, dropW_no h9]
            have h9' : (t2.kind == 9) = false := by simpa using h9
            clear hA gr
            generalize t2.kind = k at gc h9'
            clear h9
            go_wp2
            go_meet
            exact ⟨hv', rfl⟩
    case rest =>
      obtain ⟨hv1, rfl⟩ := hcut
      clear hr2' hpp
      cases R with
      | nil =>
        obtain ⟨p1, cap1, rfl⟩ := hv1.empty
        have hd : declOf (t :: r) = none := by simp [declOf, hk, hR]
        have bz2 := below_grown b02 (grown_set3 W2 w.heap.size (.string ⟨#[]⟩) (.slice none 0 0) (.bool false)) (by omega) (Nat.le_refl _)
        obtain ⟨⟨c0, c1, c2⟩, f0, f1, f2⟩ := blk3 kk0
        clear hv1 hR hv
        go_wp2
        refine bodyPost_ret (results_struct_tmp rfl _ _ w.heap.size _ rfl (load_decl (blk_set3 kk0 _ _ _))) rfl ?_
        exact ⟨.inl ⟨hd, rfl⟩, bz2⟩
      | cons c vv =>
        obtain ⟨bk1, off1, cap1, rfl, g1, g2, gb, ⟨y0, _⟩, hvv⟩ := hv1.first
        unfold maxLen at g2
        have hz1 : ¬ (vv.length : Int) + 1 = 0 := by omega
        have hz1' : ((vv.length : Int) + 1 == 0) = false := by simpa using hz1
        have hq1 : (1 : Int) ≤ (vv.length : Int) + 1 := by omega
        have hq2 : ((vv.length + 1 : Nat) : Int) ≤ (cap1 : Int) := by omega
        have hq3 : (1 : Int) ≤ (cap1 : Int) := by omega
        by_cases h11 : c.kind = 11
        · have hd : declOf (t :: r) = some ⟨LT, (unmark (endW (dropW vv))).1, (unmark (endW (dropW vv))).2⟩ := by simp [declOf, hk, hR, h11, hLT]
          rw [h11] at y0
          obtain ⟨pq, hpq⟩ : ∃ pq : Option Addr, (if cap1 = 1 then some (⟨bk1, off1, none⟩ : Addr) else some ⟨bk1, off1 + 5, none⟩) = pq := ⟨_, rfl⟩
          rw [hpq] at hvv
          have h4 := trim_any _ vv W2 _ hvv
          have hsub : ∀ u ∈ vv, u ∈ t :: r := fun u hu => List.mem_cons_of_mem _ (dropW_mem (by rw [hR]; exact List.mem_cons_of_mem _ hu))
          have hvl : vv.length ≤ 1000000 := by
            have := dropW_len r
            rw [hR] at this
            simp only [List.length_cons] at this hl
            omega
          have hM1 : ∀ u ∈ endW (dropW vv), u.text.size ≤ maxLen := fun u hu => ht u (hsub u (dropW_mem (endW_mem hu)))
          have hVl : (endW (dropW vv)).length ≤ 1000000 := Nat.le_trans (endW_len _) (Nat.le_trans (dropW_len _) hvl)
          have hVd : dropW (endW (dropW vv)) = endW (dropW vv) := dropW_endW (dropW_dropW vv)
          have hVe : endW (endW (dropW vv)) = endW (dropW vv) := endW_endW _
          generalize endW (dropW vv) = V at *
          clear hv1 hR hv
          go_wp2_with fail
          refine h4.mono ?_
          clear h4
          rintro e w3 ⟨v3, rfl, hv3, rfl⟩
          clear hpq hvv y0
          by_cases hV : V = []
          · subst hV
            rw [show unmark [] = ([], false) from rfl] at hd
            have hv3' := hv3
            obtain ⟨p3, cap3, rfl⟩ := hv3.empty
            have hsrcE := btsSrc hv3'
            have hlE : ([] : List Bt).length ≤ 1000000 := by simp
            have hszE := b02.size
            have k2E := k2
            have k0E := kk0
            have bwE := b02
            have hltE := k2E.lt
            obtain ⟨⟨c0, c1, c2⟩, f0, f1, f2⟩ := blk3 k2E
            go_upto_region 18 with (at_builtin; refine wpList_append_src _ rfl _ _ 22 rfl (w3).heap.size 36 j0 (.agg #[.int .i64 0, .string ⟨#[]⟩, .int .i64 0, .bool false, .int .i64 0]) 5 48 Try.underlying22 ji jz0 jz1 jz2 rfl (by decide) _ 0 [] rfl (World.ownsRow_nil _ _ _ _) _ ([] : List Bt).length (btsCells ([] : List Bt)) rfl (btsCells_length ([] : List Bt)) hsrcE (btsCells_one ([] : List Bt)) (by unfold maxLen; omega) (by omega) (Nat.le_refl _) ?_; intro v9 w9 hown9 hgrow9; rw [Nat.zero_add, List.nil_append] at hown9; obtain ⟨q9, c9, rfl⟩ := form_of hown9; replace k2E := k2E.kept hgrow9 (show some _ ≠ none by simp); replace k0E := k0E.kept hgrow9 (show some _ ≠ none by simp); clear c0 c1 c2 f0 f1 f2; obtain ⟨⟨c0, c1, c2⟩, f0, f1, f2⟩ := blk3 k2E)
            have b9 : Below (w3).heap.size (w3) w9 := (Below.refl _ _).grown hgrow9 (Nat.le_refl _) (fun r e => by cases e)
            have g9 := grown_set w9 w1.heap.size 1 (.slice q9 ([] : List Bt).length c9)
            have k2F : Blk (w9.setCell ⟨w1.heap.size, 1, none⟩ (.slice q9 ([] : List Bt).length c9)) w1.heap.size 34 [.string LT, .slice q9 ([] : List Bt).length c9, .bool false] := by
              unfold Blk at k2E ⊢
              simp [World.setCell, Array.getElem?_modify, k2E]
            have k0F := k0E.kept g9 (by simp; omega)
            have rF := hown9.kept g9 (by
              cases hq9 : (Value.slice q9 ([] : List Bt).length c9).ownBlock with
              | none => exact .inl rfl
              | some j =>
                have := (World.ownsRow.lt hown9 j hq9).1
                exact .inr (by simp; omega))
            have bF : Below w.heap.size w (w9.setCell ⟨w1.heap.size, 1, none⟩ (.slice q9 ([] : List Bt).length c9)) := below_grown (below_next bwE b9) g9 (by have := b9.size; omega) (by omega)
            have hF : w1.heap.size < (w9.setCell ⟨w1.heap.size, 1, none⟩ (.slice q9 ([] : List Bt).length c9)).heap.size := k2F.lt
            clear c0 c1 c2 f0 f1 f2 hsrcE hown9 hgrow9 b9 g9 k0E k2E
            generalize w9.setCell ⟨w1.heap.size, 1, none⟩ (.slice q9 ([] : List Bt).length c9) = Z at *
            obtain ⟨⟨c0, c1, c2⟩, f0, f1, f2⟩ := blk3 k2F
            obtain ⟨⟨d0, d1, d2⟩, e0, e1, e2⟩ := blk3 k0F
            go_wp2
            refine bodyPost_ret (results_struct_tmp rfl _ _ w.heap.size _ rfl (load_decl (blk_set3 k0F _ _ _))) rfl ?_
            refine ⟨.inr ⟨_, _, hd, rfl, (owns_base rF hszE).kept (grown_set3 _ _ _ _ _) ?_⟩, below_grown bF (grown_set3 _ _ _ _ _) (by omega) (Nat.le_refl _)⟩
            cases hq9 : (Value.slice q9 ([] : List Bt).length c9).ownBlock with
            | none => exact .inl rfl
            | some j =>
              have := (World.ownsRow.lt rF j hq9).1
              exact .inr (by simp; omega)
          · obtain ⟨a, u, rfl⟩ := split_last hV
            have hlast : lastT (a ++ [u]) = some (a, u) := lastT_some hVe
            obtain ⟨bk3, off3, cap3, rfl, i1, i2, ib, ⟨z0, z1, _⟩, hra⟩ := hv3.last
            unfold maxLen at i2
            have hpos : (0 : Int) < (a.length : Int) + 1 := by omega
            have hsb : IntKind.i64.wrap ((a.length : Int) + 1 - 1) = (a.length : Int) := by rw [IntKind.wrap_i64]; omega
            have hsb2 : IntKind.i64.wrap (a.length : Int) = (a.length : Int) := by rw [IntKind.wrap_i64]; omega
            have hlt3 : (a.length : Int) < (a.length : Int) + 1 := by omega
            have hac : (a.length : Int) ≤ (cap3 : Int) := by omega
            have hc30 : ¬ cap3 = 0 := by omega
            have hul : (a ++ [u]).length = a.length + 1 := by simp
            by_cases hu1 : u.kind = 1
            · rw [hu1] at z0
              have hlowu := fun X => refLower_any u.text X (hM1 u (by simp))
              by_cases hui : lowT u.text = importantT
              · have hMW : isMarkWord u = true := by simp [isMarkWord, hu1, hui]
                rw [hui] at hlowu
                have h5 := fun X (h : BtsAt w.heap.size X (.slice (some ⟨bk3, off3, none⟩) a.length cap3) a) => trim_any _ a X w.heap.size h
                rw [trim_pre hVd rfl] at h5
                unfold importantT at hlowu
                clear hV
                go_wp2_with fail
                refine (hlowu _).mono ?_
                clear hlowu
                rintro e w4 ⟨rfl, b4⟩
                have bw4 := below_next b02 b4
                have hra4 := hra.below (b4.mono (by omega))
                have hv34 := hv3.below (b4.mono (by omega))
                have k24 := k2.below b4 (by omega)
                have k04 := kk0.below b4 (by omega)
                go_wp2_with fail
                refine (h5 _ hra4).mono ?_
                clear h5
                rintro e w5 ⟨v5, rfl, hv5, rfl⟩
                by_cases hw : endW a = []
                · rw [show unmark (a ++ [u]) = (a ++ [u], false) by simp [unmark, hlast, hMW, lastT_nil hw]] at hd
                  rw [hw] at hv5
                  obtain ⟨p5, cap5, rfl⟩ := hv5.empty
                  generalize a ++ [u] = U at hd hv34 hVl
                  clear hul
                  have hsrcE := btsSrc hv34
                  have hlE : U.length ≤ 1000000 := by assumption
                  have hszE := bw4.size
                  have k2E := k24
                  have k0E := k04
                  have bwE := bw4
                  have hltE := k2E.lt
                  obtain ⟨⟨c0, c1, c2⟩, f0, f1, f2⟩ := blk3 k2E
                  go_upto_region 18 with (at_builtin; refine wpList_append_src _ rfl _ _ 22 rfl (w5).heap.size 36 j0 (.agg #[.int .i64 0, .string ⟨#[]⟩, .int .i64 0, .bool false, .int .i64 0]) 5 48 Try.underlying22 ji jz0 jz1 jz2 rfl (by decide) _ 0 [] rfl (World.ownsRow_nil _ _ _ _) _ U.length (btsCells U) rfl (btsCells_length U) hsrcE (btsCells_one U) (by unfold maxLen; omega) (by omega) (Nat.le_refl _) ?_; intro v9 w9 hown9 hgrow9; rw [Nat.zero_add, List.nil_append] at hown9; obtain ⟨q9, c9, rfl⟩ := form_of hown9; replace k2E := k2E.kept hgrow9 (show some _ ≠ none by simp); replace k0E := k0E.kept hgrow9 (show some _ ≠ none by simp); clear c0 c1 c2 f0 f1 f2; obtain ⟨⟨c0, c1, c2⟩, f0, f1, f2⟩ := blk3 k2E)
                  have b9 : Below (w5).heap.size (w5) w9 := (Below.refl _ _).grown hgrow9 (Nat.le_refl _) (fun r e => by cases e)
                  have g9 := grown_set w9 w1.heap.size 1 (.slice q9 U.length c9)
                  have k2F : Blk (w9.setCell ⟨w1.heap.size, 1, none⟩ (.slice q9 U.length c9)) w1.heap.size 34 [.string LT, .slice q9 U.length c9, .bool false] := by
                    unfold Blk at k2E ⊢
                    simp [World.setCell, Array.getElem?_modify, k2E]
                  have k0F := k0E.kept g9 (by simp; omega)
                  have rF := hown9.kept g9 (by
                    cases hq9 : (Value.slice q9 U.length c9).ownBlock with
                    | none => exact .inl rfl
                    | some j =>
                      have := (World.ownsRow.lt hown9 j hq9).1
                      exact .inr (by simp; omega))
                  have bF : Below w.heap.size w (w9.setCell ⟨w1.heap.size, 1, none⟩ (.slice q9 U.length c9)) := below_grown (below_next bwE b9) g9 (by have := b9.size; omega) (by omega)
                  have hF : w1.heap.size < (w9.setCell ⟨w1.heap.size, 1, none⟩ (.slice q9 U.length c9)).heap.size := k2F.lt
                  clear c0 c1 c2 f0 f1 f2 hsrcE hown9 hgrow9 b9 g9 k0E k2E
                  generalize w9.setCell ⟨w1.heap.size, 1, none⟩ (.slice q9 U.length c9) = Z at *
                  obtain ⟨⟨c0, c1, c2⟩, f0, f1, f2⟩ := blk3 k2F
                  obtain ⟨⟨d0, d1, d2⟩, e0, e1, e2⟩ := blk3 k0F
                  go_wp2
                  refine bodyPost_ret (results_struct_tmp rfl _ _ w.heap.size _ rfl (load_decl (blk_set3 k0F _ _ _))) rfl ?_
                  refine ⟨.inr ⟨_, _, hd, rfl, (owns_base rF hszE).kept (grown_set3 _ _ _ _ _) ?_⟩, below_grown bF (grown_set3 _ _ _ _ _) (by omega) (Nat.le_refl _)⟩
                  cases hq9 : (Value.slice q9 U.length c9).ownBlock with
                  | none => exact .inl rfl
                  | some j =>
                    have := (World.ownsRow.lt rF j hq9).1
                    exact .inr (by simp; omega)
                · obtain ⟨a2, u2, hw2⟩ := split_last hw
                  have hlast2 := lastT_some hw2
                  have htr : endW (dropW a2) = endW a2 := trim_pre (V := endW a) (t := u2) (dropW_endW (dropW_pre hVd rfl)) hw2
                  rw [hw2] at hv5
                  obtain ⟨bk5, off5, cap5, rfl, l1, l2, lb, ⟨s0, _, _, _, s4⟩, hra2⟩ := hv5.last
                  unfold maxLen at l2
                  have hpos5 : (0 : Int) < (a2.length : Int) + 1 := by omega
                  have hsb5 : IntKind.i64.wrap ((a2.length : Int) + 1 - 1) = (a2.length : Int) := by rw [IntKind.wrap_i64]; omega
                  have hsb25 : IntKind.i64.wrap (a2.length : Int) = (a2.length : Int) := by rw [IntKind.wrap_i64]; omega
                  have hlt35 : (a2.length : Int) < (a2.length : Int) + 1 := by omega
                  have hac5 : (a2.length : Int) ≤ (cap5 : Int) := by omega
                  have hc50 : ¬ cap5 = 0 := by omega
                  by_cases h10 : u2.kind = 10
                  · rw [h10] at s0
                    by_cases h33 : u2.c = 33
                    · rw [h33] at s4
                      rw [show unmark (a ++ [u]) = (endW a2, true) by simp [unmark, hlast, hMW, hlast2, isMarkSign, h10, h33]] at hd
                      have hEl : (endW a2).length ≤ 1000000 := by
                        have e1 := endW_len a2
                        have e2 := endW_len a
                        rw [hw2] at e2
                        simp at e2 hVl
                        omega
                      have h6 := fun X (h : BtsAt w.heap.size X (.slice (some ⟨bk5, off5, none⟩) a2.length cap5) a2) => trim_any _ a2 X w.heap.size h
                      rw [htr] at h6
                      generalize endW a2 = V6 at *
                      obtain ⟨⟨c0, c1, c2⟩, f0, f1, f2⟩ := blk3 k24
                      have g6 := grown_set w5 w1.heap.size 2 (.bool true)
                      have k26 : Blk (w5.setCell ⟨w1.heap.size, 2, none⟩ (.bool true)) w1.heap.size 34 [.string LT, .slice none 0 0, .bool true] := by
                        unfold Blk at k24 ⊢
                        simp [World.setCell, Array.getElem?_modify, k24]
                      have k06 := k04.kept g6 (by simp; omega)
                      have b56 : Below w.heap.size w5 (w5.setCell ⟨w1.heap.size, 2, none⟩ (.bool true)) := below_grown (Below.refl _ _) g6 (by have := b4.size; omega) (by omega)
                      have b6 : Below w.heap.size w (w5.setCell ⟨w1.heap.size, 2, none⟩ (.bool true)) := below_grown bw4 g6 (by have := b4.size; omega) (by omega)
                      have hra26 := hra2.below b56
                      go_upto_region 16 with fail
                      clear c0 c1 c2 f0 f1 f2 k24 k04 g6
                      generalize w5.setCell ⟨w1.heap.size, 2, none⟩ (.bool true) = W6 at *
                      go_wp2_with fail
                      refine (h6 _ hra26).mono ?_
                      clear h6
                      rintro e w7 ⟨v7, rfl, hv7, rfl⟩
                      have hsrcE := btsSrc hv7
                      have hlE : V6.length ≤ 1000000 := by assumption
                      have hszE := b6.size
                      have k2E := k26
                      have k0E := k06
                      have bwE := b6
                      have hltE := k2E.lt
                      obtain ⟨⟨c0, c1, c2⟩, f0, f1, f2⟩ := blk3 k2E
                      go_upto_region 18 with (at_builtin; refine wpList_append_src _ rfl _ _ 22 rfl (w7).heap.size 36 j0 (.agg #[.int .i64 0, .string ⟨#[]⟩, .int .i64 0, .bool false, .int .i64 0]) 5 48 Try.underlying22 ji jz0 jz1 jz2 rfl (by decide) _ 0 [] rfl (World.ownsRow_nil _ _ _ _) _ V6.length (btsCells V6) rfl (btsCells_length V6) hsrcE (btsCells_one V6) (by unfold maxLen; omega) (by omega) (Nat.le_refl _) ?_; intro v9 w9 hown9 hgrow9; rw [Nat.zero_add, List.nil_append] at hown9; obtain ⟨q9, c9, rfl⟩ := form_of hown9; replace k2E := k2E.kept hgrow9 (show some _ ≠ none by simp); replace k0E := k0E.kept hgrow9 (show some _ ≠ none by simp); clear c0 c1 c2 f0 f1 f2; obtain ⟨⟨c0, c1, c2⟩, f0, f1, f2⟩ := blk3 k2E)
                      have b9 : Below (w7).heap.size (w7) w9 := (Below.refl _ _).grown hgrow9 (Nat.le_refl _) (fun r e => by cases e)
                      have g9 := grown_set w9 w1.heap.size 1 (.slice q9 V6.length c9)
                      have k2F : Blk (w9.setCell ⟨w1.heap.size, 1, none⟩ (.slice q9 V6.length c9)) w1.heap.size 34 [.string LT, .slice q9 V6.length c9, .bool true] := by
                        unfold Blk at k2E ⊢
                        simp [World.setCell, Array.getElem?_modify, k2E]
                      have k0F := k0E.kept g9 (by simp; omega)
                      have rF := hown9.kept g9 (by
                        cases hq9 : (Value.slice q9 V6.length c9).ownBlock with
                        | none => exact .inl rfl
                        | some j =>
                          have := (World.ownsRow.lt hown9 j hq9).1
                          exact .inr (by simp; omega))
                      have bF : Below w.heap.size w (w9.setCell ⟨w1.heap.size, 1, none⟩ (.slice q9 V6.length c9)) := below_grown (below_next bwE b9) g9 (by have := b9.size; omega) (by omega)
                      have hF : w1.heap.size < (w9.setCell ⟨w1.heap.size, 1, none⟩ (.slice q9 V6.length c9)).heap.size := k2F.lt
                      clear c0 c1 c2 f0 f1 f2 hsrcE hown9 hgrow9 b9 g9 k0E k2E
                      generalize w9.setCell ⟨w1.heap.size, 1, none⟩ (.slice q9 V6.length c9) = Z at *
                      obtain ⟨⟨c0, c1, c2⟩, f0, f1, f2⟩ := blk3 k2F
                      obtain ⟨⟨d0, d1, d2⟩, e0, e1, e2⟩ := blk3 k0F
                      go_wp2
                      refine bodyPost_ret (results_struct_tmp rfl _ _ w.heap.size _ rfl (load_decl (blk_set3 k0F _ _ _))) rfl ?_
                      refine ⟨.inr ⟨_, _, hd, rfl, (owns_base rF hszE).kept (grown_set3 _ _ _ _ _) ?_⟩, below_grown bF (grown_set3 _ _ _ _ _) (by omega) (Nat.le_refl _)⟩
                      cases hq9 : (Value.slice q9 V6.length c9).ownBlock with
                      | none => exact .inl rfl
                      | some j =>
                        have := (World.ownsRow.lt rF j hq9).1
                        exact .inr (by simp; omega)
                    · rw [show unmark (a ++ [u]) = (a ++ [u], false) by simp [unmark, hlast, hMW, hlast2, isMarkSign, h33]] at hd
                      have h33' : (u2.c == 33) = false := by simpa using h33
                      generalize a ++ [u] = U at hd hv34 hVl
                      clear hul
                      have hsrcE := btsSrc hv34
                      have hlE : U.length ≤ 1000000 := by assumption
                      have hszE := bw4.size
                      have k2E := k24
                      have k0E := k04
                      have bwE := bw4
                      have hltE := k2E.lt
                      obtain ⟨⟨c0, c1, c2⟩, f0, f1, f2⟩ := blk3 k2E
                      go_upto_region 18 with (at_builtin; refine wpList_append_src _ rfl _ _ 22 rfl (w5).heap.size 36 j0 (.agg #[.int .i64 0, .string ⟨#[]⟩, .int .i64 0, .bool false, .int .i64 0]) 5 48 Try.underlying22 ji jz0 jz1 jz2 rfl (by decide) _ 0 [] rfl (World.ownsRow_nil _ _ _ _) _ U.length (btsCells U) rfl (btsCells_length U) hsrcE (btsCells_one U) (by unfold maxLen; omega) (by omega) (Nat.le_refl _) ?_; intro v9 w9 hown9 hgrow9; rw [Nat.zero_add, List.nil_append] at hown9; obtain ⟨q9, c9, rfl⟩ := form_of hown9; replace k2E := k2E.kept hgrow9 (show some _ ≠ none by simp); replace k0E := k0E.kept hgrow9 (show some _ ≠ none by simp); clear c0 c1 c2 f0 f1 f2; obtain ⟨⟨c0, c1, c2⟩, f0, f1, f2⟩ := blk3 k2E)
                      have b9 : Below (w5).heap.size (w5) w9 := (Below.refl _ _).grown hgrow9 (Nat.le_refl _) (fun r e => by cases e)
                      have g9 := grown_set w9 w1.heap.size 1 (.slice q9 U.length c9)
                      have k2F : Blk (w9.setCell ⟨w1.heap.size, 1, none⟩ (.slice q9 U.length c9)) w1.heap.size 34 [.string LT, .slice q9 U.length c9, .bool false] := by
                        unfold Blk at k2E ⊢
                        simp [World.setCell, Array.getElem?_modify, k2E]
                      have k0F := k0E.kept g9 (by simp; omega)
                      have rF := hown9.kept g9 (by
                        cases hq9 : (Value.slice q9 U.length c9).ownBlock with
                        | none => exact .inl rfl
                        | some j =>
                          have := (World.ownsRow.lt hown9 j hq9).1
                          exact .inr (by simp; omega))
                      have bF : Below w.heap.size w (w9.setCell ⟨w1.heap.size, 1, none⟩ (.slice q9 U.length c9)) := below_grown (below_next bwE b9) g9 (by have := b9.size; omega) (by omega)
                      have hF : w1.heap.size < (w9.setCell ⟨w1.heap.size, 1, none⟩ (.slice q9 U.length c9)).heap.size := k2F.lt
                      clear c0 c1 c2 f0 f1 f2 hsrcE hown9 hgrow9 b9 g9 k0E k2E
                      generalize w9.setCell ⟨w1.heap.size, 1, none⟩ (.slice q9 U.length c9) = Z at *
                      obtain ⟨⟨c0, c1, c2⟩, f0, f1, f2⟩ := blk3 k2F
                      obtain ⟨⟨d0, d1, d2⟩, e0, e1, e2⟩ := blk3 k0F
                      go_wp2
                      refine bodyPost_ret (results_struct_tmp rfl _ _ w.heap.size _ rfl (load_decl (blk_set3 k0F _ _ _))) rfl ?_
                      refine ⟨.inr ⟨_, _, hd, rfl, (owns_base rF hszE).kept (grown_set3 _ _ _ _ _) ?_⟩, below_grown bF (grown_set3 _ _ _ _ _) (by omega) (Nat.le_refl _)⟩
                      cases hq9 : (Value.slice q9 U.length c9).ownBlock with
                      | none => exact .inl rfl
                      | some j =>
                        have := (World.ownsRow.lt rF j hq9).1
                        exact .inr (by simp; omega)
                  · rw [show unmark (a ++ [u]) = (a ++ [u], false) by simp [unmark, hlast, hMW, hlast2, isMarkSign, h10]] at hd
                    have h10' : (u2.kind == 10) = false := by simpa using h10
                    generalize a ++ [u] = U at hd hv34 hVl
                    clear hul
                    have hsrcE := btsSrc hv34
                    have hlE : U.length ≤ 1000000 := by assumption
                    have hszE := bw4.size
                    have k2E := k24
                    have k0E := k04
                    have bwE := bw4
                    have hltE := k2E.lt
                    obtain ⟨⟨c0, c1, c2⟩, f0, f1, f2⟩ := blk3 k2E
                    go_upto_region 18 with (at_builtin; refine wpList_append_src _ rfl _ _ 22 rfl (w5).heap.size 36 j0 (.agg #[.int .i64 0, .string ⟨#[]⟩, .int .i64 0, .bool false, .int .i64 0]) 5 48 Try.underlying22 ji jz0 jz1 jz2 rfl (by decide) _ 0 [] rfl (World.ownsRow_nil _ _ _ _) _ U.length (btsCells U) rfl (btsCells_length U) hsrcE (btsCells_one U) (by unfold maxLen; omega) (by omega) (Nat.le_refl _) ?_; intro v9 w9 hown9 hgrow9; rw [Nat.zero_add, List.nil_append] at hown9; obtain ⟨q9, c9, rfl⟩ := form_of hown9; replace k2E := k2E.kept hgrow9 (show some _ ≠ none by simp); replace k0E := k0E.kept hgrow9 (show some _ ≠ none by simp); clear c0 c1 c2 f0 f1 f2; obtain ⟨⟨c0, c1, c2⟩, f0, f1, f2⟩ := blk3 k2E)
                    have b9 : Below (w5).heap.size (w5) w9 := (Below.refl _ _).grown hgrow9 (Nat.le_refl _) (fun r e => by cases e)
                    have g9 := grown_set w9 w1.heap.size 1 (.slice q9 U.length c9)
                    have k2F : Blk (w9.setCell ⟨w1.heap.size, 1, none⟩ (.slice q9 U.length c9)) w1.heap.size 34 [.string LT, .slice q9 U.length c9, .bool false] := by
                      unfold Blk at k2E ⊢
                      simp [World.setCell, Array.getElem?_modify, k2E]
                    have k0F := k0E.kept g9 (by simp; omega)
                    have rF := hown9.kept g9 (by
                      cases hq9 : (Value.slice q9 U.length c9).ownBlock with
                      | none => exact .inl rfl
                      | some j =>
                        have := (World.ownsRow.lt hown9 j hq9).1
                        exact .inr (by simp; omega))
                    have bF : Below w.heap.size w (w9.setCell ⟨w1.heap.size, 1, none⟩ (.slice q9 U.length c9)) := below_grown (below_next bwE b9) g9 (by have := b9.size; omega) (by omega)
                    have hF : w1.heap.size < (w9.setCell ⟨w1.heap.size, 1, none⟩ (.slice q9 U.length c9)).heap.size := k2F.lt
                    clear c0 c1 c2 f0 f1 f2 hsrcE hown9 hgrow9 b9 g9 k0E k2E
                    generalize w9.setCell ⟨w1.heap.size, 1, none⟩ (.slice q9 U.length c9) = Z at *
                    obtain ⟨⟨c0, c1, c2⟩, f0, f1, f2⟩ := blk3 k2F
                    obtain ⟨⟨d0, d1, d2⟩, e0, e1, e2⟩ := blk3 k0F
                    go_wp2
                    refine bodyPost_ret (results_struct_tmp rfl _ _ w.heap.size _ rfl (load_decl (blk_set3 k0F _ _ _))) rfl ?_
                    refine ⟨.inr ⟨_, _, hd, rfl, (owns_base rF hszE).kept (grown_set3 _ _ _ _ _) ?_⟩, below_grown bF (grown_set3 _ _ _ _ _) (by omega) (Nat.le_refl _)⟩
                    cases hq9 : (Value.slice q9 U.length c9).ownBlock with
                    | none => exact .inl rfl
                    | some j =>
                      have := (World.ownsRow.lt rF j hq9).1
                      exact .inr (by simp; omega)
              · rw [show unmark (a ++ [u]) = (a ++ [u], false) by simp [unmark, hlast, isMarkWord, hui]] at hd
                have hui' := str_ne hui
                generalize lowT u.text = z at *
                go_wp2_with fail
                refine (hlowu _).mono ?_
                clear hlowu
                rintro e w4 ⟨rfl, b4⟩
                have bw4 := below_next b02 b4
                have hv34 := hv3.below (b4.mono (by omega))
                have k24 := k2.below b4 (by omega)
                have k04 := kk0.below b4 (by omega)
                generalize a ++ [u] = U at hd hv34 hVl
                clear hul
                have hsrcE := btsSrc hv34
                have hlE : U.length ≤ 1000000 := by assumption
                have hszE := bw4.size
                have k2E := k24
                have k0E := k04
                have bwE := bw4
                have hltE := k2E.lt
                obtain ⟨⟨c0, c1, c2⟩, f0, f1, f2⟩ := blk3 k2E
                go_upto_region 18 with (at_builtin; refine wpList_append_src _ rfl _ _ 22 rfl (w4).heap.size 36 j0 (.agg #[.int .i64 0, .string ⟨#[]⟩, .int .i64 0, .bool false, .int .i64 0]) 5 48 Try.underlying22 ji jz0 jz1 jz2 rfl (by decide) _ 0 [] rfl (World.ownsRow_nil _ _ _ _) _ U.length (btsCells U) rfl (btsCells_length U) hsrcE (btsCells_one U) (by unfold maxLen; omega) (by omega) (Nat.le_refl _) ?_; intro v9 w9 hown9 hgrow9; rw [Nat.zero_add, List.nil_append] at hown9; obtain ⟨q9, c9, rfl⟩ := form_of hown9; replace k2E := k2E.kept hgrow9 (show some _ ≠ none by simp); replace k0E := k0E.kept hgrow9 (show some _ ≠ none by simp); clear c0 c1 c2 f0 f1 f2; obtain ⟨⟨c0, c1, c2⟩, f0, f1, f2⟩ := blk3 k2E)
                have b9 : Below (w4).heap.size (w4) w9 := (Below.refl _ _).grown hgrow9 (Nat.le_refl _) (fun r e => by cases e)
                have g9 := grown_set w9 w1.heap.size 1 (.slice q9 U.length c9)
                have k2F : Blk (w9.setCell ⟨w1.heap.size, 1, none⟩ (.slice q9 U.length c9)) w1.heap.size 34 [.string LT, .slice q9 U.length c9, .bool false] := by
                  unfold Blk at k2E ⊢
                  simp [World.setCell, Array.getElem?_modify, k2E]
                have k0F := k0E.kept g9 (by simp; omega)
                have rF := hown9.kept g9 (by
                  cases hq9 : (Value.slice q9 U.length c9).ownBlock with
                  | none => exact .inl rfl
                  | some j =>
                    have := (World.ownsRow.lt hown9 j hq9).1
                    exact .inr (by simp; omega))
                have bF : Below w.heap.size w (w9.setCell ⟨w1.heap.size, 1, none⟩ (.slice q9 U.length c9)) := below_grown (below_next bwE b9) g9 (by have := b9.size; omega) (by omega)
                have hF : w1.heap.size < (w9.setCell ⟨w1.heap.size, 1, none⟩ (.slice q9 U.length c9)).heap.size := k2F.lt
                clear c0 c1 c2 f0 f1 f2 hsrcE hown9 hgrow9 b9 g9 k0E k2E
                generalize w9.setCell ⟨w1.heap.size, 1, none⟩ (.slice q9 U.length c9) = Z at *
                obtain ⟨⟨c0, c1, c2⟩, f0, f1, f2⟩ := blk3 k2F
                obtain ⟨⟨d0, d1, d2⟩, e0, e1, e2⟩ := blk3 k0F
                go_wp2
                refine bodyPost_ret (results_struct_tmp rfl _ _ w.heap.size _ rfl (load_decl (blk_set3 k0F _ _ _))) rfl ?_
                refine ⟨.inr ⟨_, _, hd, rfl, (owns_base rF hszE).kept (grown_set3 _ _ _ _ _) ?_⟩, below_grown bF (grown_set3 _ _ _ _ _) (by omega) (Nat.le_refl _)⟩
                cases hq9 : (Value.slice q9 U.length c9).ownBlock with
                | none => exact .inl rfl
                | some j =>
                  have := (World.ownsRow.lt rF j hq9).1
                  exact .inr (by simp; omega)
            · rw [show unmark (a ++ [u]) = (a ++ [u], false) by simp [unmark, hlast, isMarkWord, hu1]] at hd
              have hu1' : (u.kind == 1) = false := by simpa using hu1
              generalize a ++ [u] = U at hd hv3 hVl
              clear hul
              have hsrcE := btsSrc hv3
              have hlE : U.length ≤ 1000000 := by assumption
              have hszE := b02.size
              have k2E := k2
              have k0E := kk0
              have bwE := b02
              have hltE := k2E.lt
              obtain ⟨⟨c0, c1, c2⟩, f0, f1, f2⟩ := blk3 k2E
              go_upto_region 18 with (at_builtin; refine wpList_append_src _ rfl _ _ 22 rfl (w3).heap.size 36 j0 (.agg #[.int .i64 0, .string ⟨#[]⟩, .int .i64 0, .bool false, .int .i64 0]) 5 48 Try.underlying22 ji jz0 jz1 jz2 rfl (by decide) _ 0 [] rfl (World.ownsRow_nil _ _ _ _) _ U.length (btsCells U) rfl (btsCells_length U) hsrcE (btsCells_one U) (by unfold maxLen; omega) (by omega) (Nat.le_refl _) ?_; intro v9 w9 hown9 hgrow9; rw [Nat.zero_add, List.nil_append] at hown9; obtain ⟨q9, c9, rfl⟩ := form_of hown9; replace k2E := k2E.kept hgrow9 (show some _ ≠ none by simp); replace k0E := k0E.kept hgrow9 (show some _ ≠ none by simp); clear c0 c1 c2 f0 f1 f2; obtain ⟨⟨c0, c1, c2⟩, f0, f1, f2⟩ := blk3 k2E)
              have b9 : Below (w3).heap.size (w3) w9 := (Below.refl _ _).grown hgrow9 (Nat.le_refl _) (fun r e => by cases e)
              have g9 := grown_set w9 w1.heap.size 1 (.slice q9 U.length c9)
              have k2F : Blk (w9.setCell ⟨w1.heap.size, 1, none⟩ (.slice q9 U.length c9)) w1.heap.size 34 [.string LT, .slice q9 U.length c9, .bool false] := by
                unfold Blk at k2E ⊢
                simp [World.setCell, Array.getElem?_modify, k2E]
              have k0F := k0E.kept g9 (by simp; omega)
              have rF := hown9.kept g9 (by
                cases hq9 : (Value.slice q9 U.length c9).ownBlock with
                | none => exact .inl rfl
                | some j =>
                  have := (World.ownsRow.lt hown9 j hq9).1
                  exact .inr (by simp; omega))
              have bF : Below w.heap.size w (w9.setCell ⟨w1.heap.size, 1, none⟩ (.slice q9 U.length c9)) := below_grown (below_next bwE b9) g9 (by have := b9.size; omega) (by omega)
              have hF : w1.heap.size < (w9.setCell ⟨w1.heap.size, 1, none⟩ (.slice q9 U.length c9)).heap.size := k2F.lt
              clear c0 c1 c2 f0 f1 f2 hsrcE hown9 hgrow9 b9 g9 k0E k2E
              generalize w9.setCell ⟨w1.heap.size, 1, none⟩ (.slice q9 U.length c9) = Z at *
              obtain ⟨⟨c0, c1, c2⟩, f0, f1, f2⟩ := blk3 k2F
              obtain ⟨⟨d0, d1, d2⟩, e0, e1, e2⟩ := blk3 k0F
              go_wp2
              refine bodyPost_ret (results_struct_tmp rfl _ _ w.heap.size _ rfl (load_decl (blk_set3 k0F _ _ _))) rfl ?_
              refine ⟨.inr ⟨_, _, hd, rfl, (owns_base rF hszE).kept (grown_set3 _ _ _ _ _) ?_⟩, below_grown bF (grown_set3 _ _ _ _ _) (by omega) (Nat.le_refl _)⟩
              cases hq9 : (Value.slice q9 U.length c9).ownBlock with
              | none => exact .inl rfl
              | some j =>
                have := (World.ownsRow.lt rF j hq9).1
                exact .inr (by simp; omega)
        · have hd : declOf (t :: r) = none := by simp [declOf, hk, hR, h11]
          have h11' : (c.kind != 11) = true := by simpa using h11
          have bz2 := below_grown b02 (grown_set3 W2 w.heap.size (.string ⟨#[]⟩) (.slice none 0 0) (.bool false)) (by omega) (Nat.le_refl _)
          obtain ⟨⟨c0, c1, c2⟩, f0, f1, f2⟩ := blk3 kk0
          clear hv1 hR hv hvv
          generalize c.kind = ck at *
          go_wp2
          refine bodyPost_ret (results_struct_tmp rfl _ _ w.heap.size _ rfl (load_decl (blk_set3 kk0 _ _ _))) rfl ?_
          exact ⟨.inl ⟨hd, rfl⟩, bz2⟩
  · have hd : declOf (t :: r) = none := by simp [declOf, hk]
    have hk' : (t.kind != 1) = true := by simpa using hk
    clear hr hv
    generalize t.kind = ck at *
    go_wp2
    refine bodyPost_ret (results_struct_tmp rfl _ _ w.heap.size _ rfl (load_decl (blk_set3 k0 _ _ _))) rfl ?_
    exact ⟨.inl ⟨hd, rfl⟩, bz⟩

end Go.Proofs.Ytfbfgpgpccemkaa.Dc
