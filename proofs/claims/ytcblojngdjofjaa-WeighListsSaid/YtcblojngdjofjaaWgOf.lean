/- weigh: namesOf, pseudoOf, sumsOf, greatest, Of, at every selector. -/
import Derived.Test.YtcblojngdjofjaaWgSum
namespace Go.Proofs.Ytcblojngdjofjaa.Wg
open Go.Proofs.Ytcblojngdjofjaa.Tre
open Go Go.RowKit Sl

set_option maxRecDepth 100000 in
set_option maxHeartbeats 1000000 in
theorem namesOf_any (c : Cp) (w : World) (qi qk qa qp : Option Addr) (mp ci ck ca cp : Nat) (hi : c.ids.length ≤ maxLen) (hk : c.classes.length ≤ maxLen) (ha : c.attrs.length ≤ maxLen) :
    Calls Try.prog 17 #[.agg #[.string c.tag, .slice qi c.ids.length ci, .slice qk c.classes.length ck, .slice qa c.attrs.length ca, .slice qp mp cp]] w fun e w' => e = .returned (smV (namesV c)) ∧ Below w.heap.size w w' := by
  unfold smV namesV
  simp only
  obtain ⟨tt, htt⟩ : ∃ tt, (if c.tag = ⟨#[]⟩ then 0 else 1) = tt := ⟨_, rfl⟩
  rw [htt]
  have HTT : Hid ((if c.tag = ⟨#[]⟩ then 0 else 1) = tt) := htt
  clear htt
  obtain ⟨W, hW⟩ : ∃ W, (w.alloc (.cells #[.string c.tag, .slice qi c.ids.length ci, .slice qk c.classes.length ck, .slice qa c.attrs.length ca, .slice qp mp cp] 36)).alloc (.cells #[.int .u8 0, .int .u8 0, .int .u8 0] 44) = W := ⟨_, rfl⟩
  have b0 : Below w.heap.size w W := by rw [← hW]; exact ((Below.refl _ w).alloc (Nat.le_refl _) _).alloc (by simp) _
  have k0 : Blk W w.heap.size 36 [.string c.tag, .slice qi c.ids.length ci, .slice qk c.classes.length ck, .slice qa c.attrs.length ca, .slice qp mp cp] := by
    rw [← hW]
    exact (Blk.new w 36 _).kept (World.grownBy_alloc _ _ none) (by simp)
  have k2 : Blk W (w.heap.size + 1) 44 [.int .u8 0, .int .u8 0, .int .u8 0] := by
    rw [← hW]
    have := Blk.new (w.alloc (.cells #[.string c.tag, .slice qi c.ids.length ci, .slice qk c.classes.length ck, .slice qa c.attrs.length ca, .slice qp mp cp] 36)) 44 [.int .u8 0, .int .u8 0, .int .u8 0]
    rwa [World.size_alloc] at this
  go_enter Try.func17, Try.ntmps17
  go_upto_region 1 with fail
  clear hW
  obtain ⟨⟨c0, c1, c2, c3, c4⟩, _⟩ := blk5 k0
  have hV : ∃ V, W.drew = V := ⟨_, rfl⟩
  obtain ⟨V, hV⟩ := hV
  have bV : Below W.heap.size W V := by rw [← hV]; exact below_drew (Below.refl _ _)
  have hsV : W.heap.size = V.heap.size := by rw [← hV]; rfl
  have kV : Blk V w.heap.size 36 [.string c.tag, .slice qi c.ids.length ci, .slice qk c.classes.length ck, .slice qa c.attrs.length ca, .slice qp mp cp] := by rw [← hV]; exact k0
  have bA : Below V.heap.size V (V.alloc (.cells #[.int .u8 0, .int .u8 0, .int .u8 0] 44)) := (Below.refl _ _).alloc (Nat.le_refl _) _
  have kA : Blk (V.alloc (.cells #[.int .u8 0, .int .u8 0, .int .u8 0] 44)) V.heap.size 44 [.int .u8 0, .int .u8 0, .int .u8 0] := Blk.new V 44 _
  have FIN : Hid (∃ B, (Value.pointer (some ⟨V.heap.size, 0, none⟩)) = .pointer (some ⟨B, 0, none⟩) ∧ W.heap.size ≤ B ∧ Blk (set3 (V.alloc (.cells #[.int .u8 0, .int .u8 0, .int .u8 0] 44)) V.heap.size (.int .u8 (gr 0 c.ids.length)) (.int .u8 (gr (gr 0 c.classes.length) c.attrs.length)) (.int .u8 0)) B 44 [.int .u8 (gr 0 c.ids.length), .int .u8 (gr (gr 0 c.classes.length) c.attrs.length), .int .u8 0] ∧ Below W.heap.size W (set3 (V.alloc (.cells #[.int .u8 0, .int .u8 0, .int .u8 0] 44)) V.heap.size (.int .u8 (gr 0 c.ids.length)) (.int .u8 (gr (gr 0 c.classes.length) c.attrs.length)) (.int .u8 0))) :=
    ⟨_, rfl, by omega, blk_set3 kA _ _ _, below_grown (below_next bV bA) (grown_set3 _ V.heap.size _ _ _) (by have := bA.size; omega) (by omega)⟩
  have FIN2 : Hid (∃ B, (Value.pointer (some ⟨V.heap.size, 0, none⟩)) = .pointer (some ⟨B, 0, none⟩) ∧ W.heap.size ≤ B ∧ Blk (V.alloc (.cells #[.int .u8 (gr 0 c.ids.length), .int .u8 (gr (gr 0 c.classes.length) c.attrs.length), .int .u8 0] 44)) B 44 [.int .u8 (gr 0 c.ids.length), .int .u8 (gr (gr 0 c.classes.length) c.attrs.length), .int .u8 0] ∧ Below W.heap.size W (V.alloc (.cells #[.int .u8 (gr 0 c.ids.length), .int .u8 (gr (gr 0 c.classes.length) c.attrs.length), .int .u8 0] 44))) :=
    ⟨_, rfl, by omega, Blk.new V 44 _, below_next bV ((Below.refl _ _).alloc (Nat.le_refl _) _)⟩
  obtain ⟨⟨_, c1, c2, c3, _⟩, _⟩ := blk5 kV
  have HeldS : V.cell? ⟨w.heap.size, 1, none⟩ = some (.slice qi c.ids.length ci) ∧ V.cell? ⟨w.heap.size, 2, none⟩ = some (.slice qk c.classes.length ck) ∧ V.cell? ⟨w.heap.size, 3, none⟩ = some (.slice qa c.attrs.length ca) := ⟨c1, c2, c3⟩
  obtain ⟨⟨_, d1, d2, d3, _⟩, _⟩ := blk5 (kV.below bA kV.lt)
  have HeldA : (V.alloc (.cells #[.int .u8 0, .int .u8 0, .int .u8 0] 44)).cell? ⟨w.heap.size, 1, none⟩ = some (.slice qi c.ids.length ci) ∧ (V.alloc (.cells #[.int .u8 0, .int .u8 0, .int .u8 0] 44)).cell? ⟨w.heap.size, 2, none⟩ = some (.slice qk c.classes.length ck) ∧ (V.alloc (.cells #[.int .u8 0, .int .u8 0, .int .u8 0] 44)).cell? ⟨w.heap.size, 3, none⟩ = some (.slice qa c.attrs.length ca) := ⟨d1, d2, d3⟩
  obtain ⟨⟨a0, a1, a2⟩, f0, f1, f2⟩ := blk3 kA
  clear c1 c2 c3 d1 d2 d3
  go_cut [3] (fun x wx => ∃ B, x = .pointer (some ⟨B, 0, none⟩) ∧ W.heap.size ≤ B ∧ Blk wx B 44 [.int .u8 (gr 0 c.ids.length), .int .u8 (gr (gr 0 c.classes.length) c.attrs.length), .int .u8 0] ∧ Below W.heap.size W wx)
  case first =>
    refine Rg.wpD_begin [0, 1, 2, 3, 4, 5, 6, 7, 8, 9, 10, 11, 13] (fun X => X.cell? ⟨w.heap.size, 1, none⟩ = some (.slice qi c.ids.length ci) ∧ X.cell? ⟨w.heap.size, 2, none⟩ = some (.slice qk c.classes.length ck) ∧ X.cell? ⟨w.heap.size, 3, none⟩ = some (.slice qa c.attrs.length ca)) (by kernel_rfl) ?_
    rw [hV]
    clear hV k0 k2 b0 bV kV kA bA hsV
    refine Rg.wpD_load 0 (v := ?_) (by simp only [List.getElem?_toArray, List.getElem?_cons_zero]; rfl) (by kernel_rfl) (by kernel_rfl) (by intro _ _ _ h; exact h) HeldS (by rfl) (fun wz hz => ?_) ?_
    rotate_left
    · first | (go_simp; done) | (go_simp; with_reducible rfl)
    simp only [Act.put, List.setIfInBounds_toArray, List.set_cons_succ, List.set_cons_zero]
    refine Rg.wpD_load 1 (v := ?_) (by simp only [List.getElem?_toArray, List.getElem?_cons_succ, List.getElem?_cons_zero]; rfl) (by kernel_rfl) (by kernel_rfl) (by intro _ _ _ h; exact h) HeldS (by rfl) (fun wz hz => ?_) ?_
    rotate_left
    · first | (go_simp; done) | (go_simp; with_reducible rfl)
    simp only [Act.put, List.setIfInBounds_toArray, List.set_cons_succ, List.set_cons_zero]
    refine Rg.wpD_load 2 (v := ?_) (by simp only [List.getElem?_toArray, List.getElem?_cons_succ, List.getElem?_cons_zero]; rfl) (by kernel_rfl) (by kernel_rfl) (by intro _ _ _ h; exact h) HeldS (by rfl) (fun wz hz => ?_) ?_
    rotate_left
    · first | (go_simp; done) | (go_simp; with_reducible rfl)
    simp only [Act.put, List.setIfInBounds_toArray, List.set_cons_succ, List.set_cons_zero]
    refine Rg.wpD_load 4 (v := ?_) (by simp only [List.getElem?_toArray, List.getElem?_cons_succ, List.getElem?_cons_zero]; rfl) (by kernel_rfl) (by kernel_rfl) (by intro _ _ _ h; exact h) HeldS (by rfl) (fun wz hz => ?_) ?_
    rotate_left
    · first | (go_simp; done) | (go_simp; with_reducible rfl)
    simp only [Act.put, List.setIfInBounds_toArray, List.set_cons_succ, List.set_cons_zero]
    refine Rg.wpD_load 5 (v := ?_) (by simp only [List.getElem?_toArray, List.getElem?_cons_succ, List.getElem?_cons_zero]; rfl) (by kernel_rfl) (by kernel_rfl) (by intro _ _ _ h; exact h) HeldS (by rfl) (fun wz hz => ?_) ?_
    rotate_left
    · first | (go_simp; done) | (go_simp; with_reducible rfl)
    simp only [Act.put, List.setIfInBounds_toArray, List.set_cons_succ, List.set_cons_zero]
    refine Rg.wpD_load 6 (v := ?_) (by simp only [List.getElem?_toArray, List.getElem?_cons_succ, List.getElem?_cons_zero]; rfl) (by kernel_rfl) (by kernel_rfl) (by intro _ _ _ h; exact h) HeldS (by rfl) (fun wz hz => ?_) ?_
    rotate_left
    · first | (go_simp; done) | (go_simp; with_reducible rfl)
    simp only [Act.put, List.setIfInBounds_toArray, List.set_cons_succ, List.set_cons_zero]
    refine Rg.wpD_load 8 (v := ?_) (by simp only [List.getElem?_toArray, List.getElem?_cons_succ, List.getElem?_cons_zero]; rfl) (by kernel_rfl) (by kernel_rfl) (by intro _ _ _ h; exact h) HeldS (by rfl) (fun wz hz => ?_) ?_
    rotate_left
    · first | (go_simp; done) | (go_simp; with_reducible rfl)
    simp only [Act.put, List.setIfInBounds_toArray, List.set_cons_succ, List.set_cons_zero]
    refine Rg.wpD_load 9 (v := ?_) (by simp only [List.getElem?_toArray, List.getElem?_cons_succ, List.getElem?_cons_zero]; rfl) (by kernel_rfl) (by kernel_rfl) (by intro _ _ _ h; exact h) HeldS (by rfl) (fun wz hz => ?_) ?_
    rotate_left
    · first | (go_simp; done) | (go_simp; with_reducible rfl)
    simp only [Act.put, List.setIfInBounds_toArray, List.set_cons_succ, List.set_cons_zero]
    refine Rg.wpD_load 10 (v := ?_) (by simp only [List.getElem?_toArray, List.getElem?_cons_succ, List.getElem?_cons_zero]; rfl) (by kernel_rfl) (by kernel_rfl) (by intro _ _ _ h; exact h) HeldS (by rfl) (fun wz hz => ?_) ?_
    rotate_left
    · first | (go_simp; done) | (go_simp; with_reducible rfl)
    simp only [Act.put, List.setIfInBounds_toArray, List.set_cons_succ, List.set_cons_zero]
    refine Rg.wpD_two 3 13 (by kernel_rfl) (by simp only [List.getElem?_toArray, List.getElem?_cons_succ, List.getElem?_cons_zero]; rfl) (by simp only [List.getElem?_toArray, List.getElem?_cons_succ, List.getElem?_cons_zero]; rfl) (fun K hK => ?_) (fun K hK => ?_)
    · go_simp
      go_at_call 32
      refine Calls.mono (grownI_any 0 c.ids.length (by omega) hi _) ?_
      rintro e X ⟨rfl, rfl⟩
      refine hK _ _ (fun _ => HeldS) ?_
      clear hK K
      refine Rg.wpD_two 7 13 (by kernel_rfl) (by simp only [List.getElem?_toArray, List.getElem?_cons_succ, List.getElem?_cons_zero]; rfl) (by simp only [List.getElem?_toArray, List.getElem?_cons_succ, List.getElem?_cons_zero]; rfl) (fun K hK => ?_) (fun K hK => ?_)
      · go_simp
        go_at_call 32
        refine Calls.mono (grownI_any 0 c.classes.length (by omega) hk _) ?_
        rintro e X ⟨rfl, rfl⟩
        refine hK _ _ (fun _ => HeldS) ?_
        clear hK K
        refine Rg.wpD_two 11 13 (by kernel_rfl) (by simp only [List.getElem?_toArray, List.getElem?_cons_succ, List.getElem?_cons_zero]; rfl) (by simp only [List.getElem?_toArray, List.getElem?_cons_succ, List.getElem?_cons_zero]; rfl) (fun K hK => ?_) (fun K hK => ?_)
        · go_simp
          go_at_call 32
          refine Calls.mono (grownI_any (gr 0 c.classes.length) c.attrs.length (gr_le _ _) ha _) ?_
          rintro e X ⟨rfl, rfl⟩
          refine hK _ _ (fun _ => HeldS) ?_
          clear hK K
          refine Rg.wpD_pure 12 (v := ?_) (by simp only [List.getElem?_toArray, List.getElem?_cons_succ, List.getElem?_cons_zero]; rfl) (by kernel_rfl) (by kernel_rfl) (by intro _ _ _ h; exact h) (by rfl) (fun wz => ?_) ?_
          rotate_left
          · first | (go_simp; done) | (go_simp; with_reducible rfl)
          simp only [Act.put, List.setIfInBounds_toArray, List.set_cons_succ, List.set_cons_zero]
          refine Rg.wpD_do 13 (by kernel_rfl) (by simp only [List.getElem?_toArray, List.getElem?_cons_succ, List.getElem?_cons_zero]; rfl) (fun K hK => ?_)
          go_simp
          refine hK _ _ (fun _ => HeldA) ?_
          clear hK K
          refine Rg.wpD_do 14 (by kernel_rfl) (by simp only [List.getElem?_toArray, List.getElem?_cons_succ, List.getElem?_cons_zero]; rfl) (fun K hK => ?_)
          go_simp
          refine hK _ _ (fun h => absurd h (by decide)) ?_
          clear hK K
          refine Rg.wpD_done (by kernel_rfl) ?_
          go_wp2
          go_meet
          first | exact FIN | exact FIN2
        · go_simp
          refine hK _ _ (fun _ => HeldA) ?_
          clear hK K
          refine Rg.wpD_do 11 (by kernel_rfl) (by simp only [List.getElem?_toArray, List.getElem?_cons_succ, List.getElem?_cons_zero]; rfl) (fun K hK => ?_)
          go_simp
          go_at_call 32
          refine Calls.mono (grownI_any (gr 0 c.classes.length) c.attrs.length (gr_le _ _) ha _) ?_
          rintro e X ⟨rfl, rfl⟩
          refine hK _ _ (fun _ => HeldA) ?_
          clear hK K
          refine Rg.wpD_pure 12 (v := ?_) (by simp only [List.getElem?_toArray, List.getElem?_cons_succ, List.getElem?_cons_zero]; rfl) (by kernel_rfl) (by kernel_rfl) (by intro _ _ _ h; exact h) (by rfl) (fun wz => ?_) ?_
          rotate_left
          · first | (go_simp; done) | (go_simp; with_reducible rfl)
          simp only [Act.put, List.setIfInBounds_toArray, List.set_cons_succ, List.set_cons_zero]
          refine Rg.wpD_do 14 (by kernel_rfl) (by simp only [List.getElem?_toArray, List.getElem?_cons_succ, List.getElem?_cons_zero]; rfl) (fun K hK => ?_)
          go_simp
          refine hK _ _ (fun h => absurd h (by decide)) ?_
          clear hK K
          refine Rg.wpD_done (by kernel_rfl) ?_
          go_wp2
          go_meet
          first | exact FIN | exact FIN2
      · go_simp
        refine hK _ _ (fun _ => HeldA) ?_
        clear hK K
        refine Rg.wpD_do 7 (by kernel_rfl) (by simp only [List.getElem?_toArray, List.getElem?_cons_succ, List.getElem?_cons_zero]; rfl) (fun K hK => ?_)
        go_simp
        go_at_call 32
        refine Calls.mono (grownI_any 0 c.classes.length (by omega) hk _) ?_
        rintro e X ⟨rfl, rfl⟩
        refine hK _ _ (fun _ => HeldA) ?_
        clear hK K
        refine Rg.wpD_do 11 (by kernel_rfl) (by simp only [List.getElem?_toArray, List.getElem?_cons_succ, List.getElem?_cons_zero]; rfl) (fun K hK => ?_)
        go_simp
        go_at_call 32
        refine Calls.mono (grownI_any (gr 0 c.classes.length) c.attrs.length (gr_le _ _) ha _) ?_
        rintro e X ⟨rfl, rfl⟩
        refine hK _ _ (fun _ => HeldA) ?_
        clear hK K
        refine Rg.wpD_pure 12 (v := ?_) (by simp only [List.getElem?_toArray, List.getElem?_cons_succ, List.getElem?_cons_zero]; rfl) (by kernel_rfl) (by kernel_rfl) (by intro _ _ _ h; exact h) (by rfl) (fun wz => ?_) ?_
        rotate_left
        · first | (go_simp; done) | (go_simp; with_reducible rfl)
        simp only [Act.put, List.setIfInBounds_toArray, List.set_cons_succ, List.set_cons_zero]
        refine Rg.wpD_do 14 (by kernel_rfl) (by simp only [List.getElem?_toArray, List.getElem?_cons_succ, List.getElem?_cons_zero]; rfl) (fun K hK => ?_)
        go_simp
        refine hK _ _ (fun h => absurd h (by decide)) ?_
        clear hK K
        refine Rg.wpD_done (by kernel_rfl) ?_
        go_wp2
        go_meet
        first | exact FIN | exact FIN2
    · go_simp
      refine hK _ _ (fun _ => HeldA) ?_
      clear hK K
      refine Rg.wpD_do 3 (by kernel_rfl) (by simp only [List.getElem?_toArray, List.getElem?_cons_succ, List.getElem?_cons_zero]; rfl) (fun K hK => ?_)
      go_simp
      go_at_call 32
      refine Calls.mono (grownI_any 0 c.ids.length (by omega) hi _) ?_
      rintro e X ⟨rfl, rfl⟩
      refine hK _ _ (fun _ => HeldA) ?_
      clear hK K
      refine Rg.wpD_do 7 (by kernel_rfl) (by simp only [List.getElem?_toArray, List.getElem?_cons_succ, List.getElem?_cons_zero]; rfl) (fun K hK => ?_)
      go_simp
      go_at_call 32
      refine Calls.mono (grownI_any 0 c.classes.length (by omega) hk _) ?_
      rintro e X ⟨rfl, rfl⟩
      refine hK _ _ (fun _ => HeldA) ?_
      clear hK K
      refine Rg.wpD_do 11 (by kernel_rfl) (by simp only [List.getElem?_toArray, List.getElem?_cons_succ, List.getElem?_cons_zero]; rfl) (fun K hK => ?_)
      go_simp
      go_at_call 32
      refine Calls.mono (grownI_any (gr 0 c.classes.length) c.attrs.length (gr_le _ _) ha _) ?_
      rintro e X ⟨rfl, rfl⟩
      refine hK _ _ (fun _ => HeldA) ?_
      clear hK K
      refine Rg.wpD_pure 12 (v := ?_) (by simp only [List.getElem?_toArray, List.getElem?_cons_succ, List.getElem?_cons_zero]; rfl) (by kernel_rfl) (by kernel_rfl) (by intro _ _ _ h; exact h) (by rfl) (fun wz => ?_) ?_
      rotate_left
      · first | (go_simp; done) | (go_simp; with_reducible rfl)
      simp only [Act.put, List.setIfInBounds_toArray, List.set_cons_succ, List.set_cons_zero]
      refine Rg.wpD_do 14 (by kernel_rfl) (by simp only [List.getElem?_toArray, List.getElem?_cons_succ, List.getElem?_cons_zero]; rfl) (fun K hK => ?_)
      go_simp
      refine hK _ _ (fun h => absurd h (by decide)) ?_
      clear hK K
      refine Rg.wpD_done (by kernel_rfl) ?_
      go_wp2
      go_meet
      first | exact FIN | exact FIN2
  case rest =>
  clear FIN FIN2 HeldS HeldA a0 a1 a2 f0 f1 f2 bA kA kV bV hsV hV
  obtain ⟨B, rfl, hB, kB, bB⟩ := hcut
  have hBk : w.heap.size + 1 < B := by have := k2.lt; omega
  replace k0 := k0.below bB k0.lt
  replace k2 := k2.below bB k2.lt
  have b1 := below_next b0 bB
  obtain ⟨⟨c0, _⟩, _⟩ := blk5 k0
  obtain ⟨⟨d0, d1, d2⟩, f0, f1, f2⟩ := blk3 kB
  obtain ⟨⟨z0, z1, z2⟩, e0, e1, e2⟩ := blk3 k2
  by_cases ht : c.tag = ⟨#[]⟩
  · obtain rfl : 0 = tt := (if_pos ht).symm.trans HTT
    rw [ht] at c0
    clear HTT
    go_wp2
    refine bodyPost_ret (results_struct rfl _ _ (w.heap.size + 1) _ rfl (load_sm (blk_set3 k2 _ _ _))) rfl ?_
    exact ⟨rfl, below_grown b1 (grown_set3 wc (w.heap.size + 1) _ _ _) (by have := b1.size; omega) (by omega)⟩
  · obtain rfl : 1 = tt := (if_neg ht).symm.trans HTT
    have hne : (c.tag.toList == []) = false := by
      rw [ByteArray.toList_eq, beq_eq_false_iff_ne]
      intro e
      exact ht (by
        cases h : c.tag with
        | mk d =>
          rw [h] at e
          simp only [ByteArray.mk.injEq]
          exact Array.toList_inj.1 e)
    have k3 := blk_put kB 2 (.int .u8 1)
    have k4 := k2.kept (grown_set wc B 2 (.int .u8 1)) (by simp; omega)
    have b2 := below_grown b1 (grown_set wc B 2 (.int .u8 1)) (by have := b1.size; omega) (by omega)
    clear ht HTT
    go_upto_region 4 with fail
    generalize wc.setCell ⟨B, 2, none⟩ (.int .u8 1) = W3 at *
    clear d0 d1 d2 f0 f1 f2 z0 z1 z2 e0 e1 e2
    obtain ⟨⟨d0, d1, d2⟩, f0, f1, f2⟩ := blk3 (show Blk W3 B 44 [.int .u8 (gr 0 c.ids.length), .int .u8 (gr (gr 0 c.classes.length) c.attrs.length), .int .u8 1] from k3)
    obtain ⟨⟨z0, z1, z2⟩, e0, e1, e2⟩ := blk3 k4
    go_wp2
    refine bodyPost_ret (results_struct rfl _ _ (w.heap.size + 1) _ rfl (load_sm (blk_set3 k4 _ _ _))) rfl ?_
    exact ⟨rfl, below_grown b2 (grown_set3 W3 (w.heap.size + 1) _ _ _) (by have := b2.size; omega) (by omega)⟩

end Go.Proofs.Ytcblojngdjofjaa.Wg
