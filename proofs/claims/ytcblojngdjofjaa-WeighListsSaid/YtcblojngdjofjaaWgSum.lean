/- weigh: sums (grown, weight, with, namesOf), at every input. -/
import Derived.Test.YtcblojngdjofjaaWgMem
import Derived.Test.YtcblojngdjofjaaRgn
namespace Go.Proofs.Ytcblojngdjofjaa.Wg
open Go.Proofs.Ytcblojngdjofjaa.Tre
open Go Go.RowKit Sl

theorem infoSm : (Try.prog.info? 44).map (·.size) = some 3 := by kernel_rfl
theorem load_sm {w : World} {g : Nat} {a b c : Value} (h : Blk w g 44 [a, b, c]) : (loadVar 44 ⟨g, 0, none⟩).run Try.prog w = .ok (.agg #[a, b, c]) w :=
  run_loadVar_row w g _ 44 #[a, b, c] (0, 0) _ h Try.underlying44 rfl infoSm

set_option maxRecDepth 100000 in
set_option maxHeartbeats 1000000 in
theorem grown8_any (s n : Nat) (hs : s ≤ 255) (_hn : n ≤ 255) (w : World) :
    Calls Try.prog 31 #[.int .u8 s, .int .u8 n] w fun e w' => e = .returned (.int .u8 (gr s n)) ∧ w' = w := by
  obtain ⟨g, hg⟩ : ∃ g, gr s n = g := ⟨_, rfl⟩
  rw [hg]
  unfold gr at hg
  have h1 : IntKind.u8.wrap (255 - (s : Int)) = 255 - (s : Int) := by rw [IntKind.wrap_u8]; omega
  by_cases hle : s + n ≤ 255
  · rw [if_pos hle] at hg
    have hm : min (n : Int) (255 - (s : Int)) = n := by omega
    have h2 : IntKind.u8.wrap ((s : Int) + (n : Int)) = (g : Int) := by rw [IntKind.wrap_u8]; omega
    clear hle hg
    go_enter Try.func31, Try.ntmps31
    go_wp2
    go_ret
    exact ⟨rfl, rfl⟩
  · rw [if_neg hle] at hg
    subst hg
    have hm : min (n : Int) (255 - (s : Int)) = 255 - (s : Int) := by omega
    have h2 : IntKind.u8.wrap ((s : Int) + (255 - (s : Int))) = 255 := by rw [IntKind.wrap_u8]; omega
    have h5 : (s : Int) + (255 - (s : Int)) = 255 := by omega
    clear hle
    go_enter Try.func31, Try.ntmps31
    go_wp2
    go_ret
    exact ⟨rfl, rfl⟩
set_option maxRecDepth 100000 in
set_option maxHeartbeats 1000000 in
theorem grownI_any (s n : Nat) (hs : s ≤ 255) (hn : n ≤ maxLen) (w : World) :
    Calls Try.prog 32 #[.int .u8 s, .int .i64 n] w fun e w' => e = .returned (.int .u8 (gr s n)) ∧ w' = w := by
  unfold maxLen at hn
  obtain ⟨g, hg⟩ : ∃ g, gr s n = g := ⟨_, rfl⟩
  rw [hg]
  unfold gr at hg
  have h1 : IntKind.u8.wrap (255 - (s : Int)) = 255 - (s : Int) := by rw [IntKind.wrap_u8]; omega
  have h3 : IntKind.i64.wrap (255 - (s : Int)) = 255 - (s : Int) := by rw [IntKind.wrap_i64]; omega
  by_cases hle : s + n ≤ 255
  · rw [if_pos hle] at hg
    have hm : min (n : Int) (255 - (s : Int)) = n := by omega
    have h2 : IntKind.u8.wrap ((s : Int) + (n : Int)) = (g : Int) := by rw [IntKind.wrap_u8]; omega
    have h4 : IntKind.u8.wrap (n : Int) = (n : Int) := by rw [IntKind.wrap_u8]; omega
    clear hle hg
    go_enter Try.func32, Try.ntmps32
    go_wp2
    go_ret
    exact ⟨rfl, rfl⟩
  · rw [if_neg hle] at hg
    subst hg
    have hm : min (n : Int) (255 - (s : Int)) = 255 - (s : Int) := by omega
    have h2 : IntKind.u8.wrap ((s : Int) + (255 - (s : Int))) = 255 := by rw [IntKind.wrap_u8]; omega
    have h5 : (s : Int) + (255 - (s : Int)) = 255 := by omega
    clear hle
    go_enter Try.func32, Try.ntmps32
    go_wp2
    go_ret
    exact ⟨rfl, rfl⟩
set_option maxRecDepth 100000 in
set_option maxHeartbeats 1000000 in
theorem weight_any (s : Sm) (hs : s.ok) (w : World) :
    Calls Try.prog 12 #[smV s] w fun e w' => e = .returned (.int .i64 (weightV s)) ∧ Below w.heap.size w w' := by
  obtain ⟨i, c, t⟩ := s
  obtain ⟨hi, hc, ht⟩ := hs
  simp only at hi hc ht
  unfold smV weightV
  simp only
  have b0 : Below w.heap.size w (w.alloc (.cells #[.int .u8 i, .int .u8 c, .int .u8 t] 44)) := (Below.refl _ w).alloc (Nat.le_refl _) _
  have k0 : Blk (w.alloc (.cells #[.int .u8 i, .int .u8 c, .int .u8 t] 44)) w.heap.size 44 [.int .u8 i, .int .u8 c, .int .u8 t] := Blk.new w 44 _
  go_enter Try.func12, Try.ntmps12
  go_upto_region 1 with fail
  generalize w.alloc (.cells #[.int .u8 i, .int .u8 c, .int .u8 t] 44) = W at *
  obtain ⟨⟨c0, c1, c2⟩, _⟩ := blk3 k0
  have h1 : IntKind.i64.wrap (i : Int) = (i : Int) := by rw [IntKind.wrap_i64]; omega
  have h2 : IntKind.i64.wrap (c : Int) = (c : Int) := by rw [IntKind.wrap_i64]; omega
  have h3 : IntKind.i64.wrap (t : Int) = (t : Int) := by rw [IntKind.wrap_i64]; omega
  go_wp2
  go_ret
  exact ⟨by simp; omega, b0⟩
set_option maxRecDepth 100000 in
set_option maxHeartbeats 1000000 in
theorem with_any (a b : Sm) (ha : a.ok) (hb : b.ok) (w : World) :
    Calls Try.prog 16 #[smV a, smV b] w fun e w' => e = .returned (smV (withV a b)) ∧ Below w.heap.size w w' := by
  obtain ⟨i, c, t⟩ := a
  obtain ⟨j, d, u⟩ := b
  obtain ⟨hi, hc, ht⟩ := ha
  obtain ⟨hj, hd, hu⟩ := hb
  simp only at hi hc ht hj hd hu
  unfold smV withV
  simp only
  obtain ⟨W, hW⟩ : ∃ W, ((w.alloc (.cells #[.int .u8 i, .int .u8 c, .int .u8 t] 44)).alloc (.cells #[.int .u8 j, .int .u8 d, .int .u8 u] 44)).alloc (.cells #[.int .u8 0, .int .u8 0, .int .u8 0] 44) = W := ⟨_, rfl⟩
  have b0 : Below w.heap.size w W := by rw [← hW]; exact (((Below.refl _ w).alloc (Nat.le_refl _) _).alloc (by simp) _).alloc (by simp; omega) _
  have k0 : Blk W w.heap.size 44 [.int .u8 i, .int .u8 c, .int .u8 t] := by
    rw [← hW]
    exact ((Blk.new w 44 _).kept (World.grownBy_alloc _ _ none) (by simp)).kept (World.grownBy_alloc _ _ none) (by simp)
  have k1 : Blk W (w.heap.size + 1) 44 [.int .u8 j, .int .u8 d, .int .u8 u] := by
    rw [← hW]
    have := (Blk.new (w.alloc (.cells #[.int .u8 i, .int .u8 c, .int .u8 t] 44)) 44 [.int .u8 j, .int .u8 d, .int .u8 u]).kept (World.grownBy_alloc _ (.cells #[.int .u8 0, .int .u8 0, .int .u8 0] 44) none) (by simp)
    rwa [World.size_alloc] at this
  have k2 : Blk W (w.heap.size + 1 + 1) 44 [.int .u8 0, .int .u8 0, .int .u8 0] := by
    rw [← hW]
    have := Blk.new ((w.alloc (.cells #[.int .u8 i, .int .u8 c, .int .u8 t] 44)).alloc (.cells #[.int .u8 j, .int .u8 d, .int .u8 u] 44)) 44 [.int .u8 0, .int .u8 0, .int .u8 0]
    rwa [World.size_alloc, World.size_alloc] at this
  go_enter Try.func16, Try.ntmps16
  go_upto_region 1 with fail
  clear hW
  obtain ⟨⟨c0, c1, c2⟩, _⟩ := blk3 k0
  obtain ⟨⟨d0, d1, d2⟩, _⟩ := blk3 k1
  obtain ⟨⟨z0, z1, z2⟩, f0, f1, f2⟩ := blk3 k2
  have HeldS : W.drew.cell? ⟨w.heap.size, 0, none⟩ = some (.int .u8 i) ∧ W.drew.cell? ⟨w.heap.size, 1, none⟩ = some (.int .u8 c) ∧ W.drew.cell? ⟨w.heap.size, 2, none⟩ = some (.int .u8 t) ∧ W.drew.cell? ⟨w.heap.size + 1, 0, none⟩ = some (.int .u8 j) ∧ W.drew.cell? ⟨w.heap.size + 1, 1, none⟩ = some (.int .u8 d) ∧ W.drew.cell? ⟨w.heap.size + 1, 2, none⟩ = some (.int .u8 u) := ⟨c0, c1, c2, d0, d1, d2⟩
  clear c0 c1 c2 d0 d1 d2
  refine Rg.wpD_begin [0, 1, 2, 3, 4, 5, 6, 7, 8, 9, 10, 11, 12, 13, 14] (fun X => X.cell? ⟨w.heap.size, 0, none⟩ = some (.int .u8 i) ∧ X.cell? ⟨w.heap.size, 1, none⟩ = some (.int .u8 c) ∧ X.cell? ⟨w.heap.size, 2, none⟩ = some (.int .u8 t) ∧ X.cell? ⟨w.heap.size + 1, 0, none⟩ = some (.int .u8 j) ∧ X.cell? ⟨w.heap.size + 1, 1, none⟩ = some (.int .u8 d) ∧ X.cell? ⟨w.heap.size + 1, 2, none⟩ = some (.int .u8 u)) (by kernel_rfl) ?_
  refine Rg.wpD_load 0 (v := ?_) (by simp only [List.getElem?_toArray, List.getElem?_cons_zero]; rfl) (by kernel_rfl) (by kernel_rfl) (by intro _ _ _ h; exact h) HeldS (by rfl) (fun wz hz => ?_) ?_
  rotate_left
  · first | (go_simp; done) | (go_simp; with_reducible rfl)
  simp only [Act.put, List.setIfInBounds_toArray, List.set_cons_succ, List.set_cons_zero]
  refine Rg.wpD_load 1 (v := ?_) (by simp only [List.getElem?_toArray, List.getElem?_cons_succ, List.getElem?_cons_zero]; rfl) (by kernel_rfl) (by kernel_rfl) (by intro _ _ _ h; exact h) HeldS (by rfl) (fun wz hz => ?_) ?_
  rotate_left
  · first | (go_simp; done) | (go_simp; with_reducible rfl)
  simp only [Act.put, List.setIfInBounds_toArray, List.set_cons_succ, List.set_cons_zero]
  refine Rg.wpD_load 2 (v := ?_) (by simp only [List.getElem?_toArray, List.getElem?_cons_succ, List.getElem?_cons_zero]; rfl) (by kernel_rfl) (by kernel_rfl) (by intro _ _ _ h; exact h) HeldS (by rfl) (fun wz hz => ?_) ?_
  rotate_left
  · first | (go_simp; done) | (go_simp; with_reducible rfl)
  simp only [Act.put, List.setIfInBounds_toArray, List.set_cons_succ, List.set_cons_zero]
  refine Rg.wpD_load 3 (v := ?_) (by simp only [List.getElem?_toArray, List.getElem?_cons_succ, List.getElem?_cons_zero]; rfl) (by kernel_rfl) (by kernel_rfl) (by intro _ _ _ h; exact h) HeldS (by rfl) (fun wz hz => ?_) ?_
  rotate_left
  · first | (go_simp; done) | (go_simp; with_reducible rfl)
  simp only [Act.put, List.setIfInBounds_toArray, List.set_cons_succ, List.set_cons_zero]
  refine Rg.wpD_load 5 (v := ?_) (by simp only [List.getElem?_toArray, List.getElem?_cons_succ, List.getElem?_cons_zero]; rfl) (by kernel_rfl) (by kernel_rfl) (by intro _ _ _ h; exact h) HeldS (by rfl) (fun wz hz => ?_) ?_
  rotate_left
  · first | (go_simp; done) | (go_simp; with_reducible rfl)
  simp only [Act.put, List.setIfInBounds_toArray, List.set_cons_succ, List.set_cons_zero]
  refine Rg.wpD_load 6 (v := ?_) (by simp only [List.getElem?_toArray, List.getElem?_cons_succ, List.getElem?_cons_zero]; rfl) (by kernel_rfl) (by kernel_rfl) (by intro _ _ _ h; exact h) HeldS (by rfl) (fun wz hz => ?_) ?_
  rotate_left
  · first | (go_simp; done) | (go_simp; with_reducible rfl)
  simp only [Act.put, List.setIfInBounds_toArray, List.set_cons_succ, List.set_cons_zero]
  refine Rg.wpD_load 7 (v := ?_) (by simp only [List.getElem?_toArray, List.getElem?_cons_succ, List.getElem?_cons_zero]; rfl) (by kernel_rfl) (by kernel_rfl) (by intro _ _ _ h; exact h) HeldS (by rfl) (fun wz hz => ?_) ?_
  rotate_left
  · first | (go_simp; done) | (go_simp; with_reducible rfl)
  simp only [Act.put, List.setIfInBounds_toArray, List.set_cons_succ, List.set_cons_zero]
  refine Rg.wpD_load 8 (v := ?_) (by simp only [List.getElem?_toArray, List.getElem?_cons_succ, List.getElem?_cons_zero]; rfl) (by kernel_rfl) (by kernel_rfl) (by intro _ _ _ h; exact h) HeldS (by rfl) (fun wz hz => ?_) ?_
  rotate_left
  · first | (go_simp; done) | (go_simp; with_reducible rfl)
  simp only [Act.put, List.setIfInBounds_toArray, List.set_cons_succ, List.set_cons_zero]
  refine Rg.wpD_load 10 (v := ?_) (by simp only [List.getElem?_toArray, List.getElem?_cons_succ, List.getElem?_cons_zero]; rfl) (by kernel_rfl) (by kernel_rfl) (by intro _ _ _ h; exact h) HeldS (by rfl) (fun wz hz => ?_) ?_
  rotate_left
  · first | (go_simp; done) | (go_simp; with_reducible rfl)
  simp only [Act.put, List.setIfInBounds_toArray, List.set_cons_succ, List.set_cons_zero]
  refine Rg.wpD_load 11 (v := ?_) (by simp only [List.getElem?_toArray, List.getElem?_cons_succ, List.getElem?_cons_zero]; rfl) (by kernel_rfl) (by kernel_rfl) (by intro _ _ _ h; exact h) HeldS (by rfl) (fun wz hz => ?_) ?_
  rotate_left
  · first | (go_simp; done) | (go_simp; with_reducible rfl)
  simp only [Act.put, List.setIfInBounds_toArray, List.set_cons_succ, List.set_cons_zero]
  refine Rg.wpD_load 12 (v := ?_) (by simp only [List.getElem?_toArray, List.getElem?_cons_succ, List.getElem?_cons_zero]; rfl) (by kernel_rfl) (by kernel_rfl) (by intro _ _ _ h; exact h) HeldS (by rfl) (fun wz hz => ?_) ?_
  rotate_left
  · first | (go_simp; done) | (go_simp; with_reducible rfl)
  simp only [Act.put, List.setIfInBounds_toArray, List.set_cons_succ, List.set_cons_zero]
  refine Rg.wpD_load 13 (v := ?_) (by simp only [List.getElem?_toArray, List.getElem?_cons_succ, List.getElem?_cons_zero]; rfl) (by kernel_rfl) (by kernel_rfl) (by intro _ _ _ h; exact h) HeldS (by rfl) (fun wz hz => ?_) ?_
  rotate_left
  · first | (go_simp; done) | (go_simp; with_reducible rfl)
  simp only [Act.put, List.setIfInBounds_toArray, List.set_cons_succ, List.set_cons_zero]
  refine Rg.wpD_do 4 (by kernel_rfl) (by simp only [List.getElem?_toArray, List.getElem?_cons_succ, List.getElem?_cons_zero]; rfl) (fun K hK => ?_)
  go_simp
  go_at_call 31
  refine Calls.mono (grown8_any i j hi hj _) ?_
  rintro e X ⟨rfl, rfl⟩
  refine hK _ _ (fun _ => HeldS) ?_
  clear hK K
  refine Rg.wpD_do 9 (by kernel_rfl) (by simp only [List.getElem?_toArray, List.getElem?_cons_succ, List.getElem?_cons_zero]; rfl) (fun K hK => ?_)
  go_simp
  go_at_call 31
  refine Calls.mono (grown8_any c d hc hd _) ?_
  rintro e X ⟨rfl, rfl⟩
  refine hK _ _ (fun _ => HeldS) ?_
  clear hK K
  refine Rg.wpD_do 14 (by kernel_rfl) (by simp only [List.getElem?_toArray, List.getElem?_cons_succ, List.getElem?_cons_zero]; rfl) (fun K hK => ?_)
  go_simp
  go_at_call 31
  refine Calls.mono (grown8_any t u ht hu _) ?_
  rintro e X ⟨rfl, rfl⟩
  refine hK _ _ (fun _ => HeldS) ?_
  clear hK K
  refine Rg.wpD_pure 15 (v := ?_) (by simp only [List.getElem?_toArray, List.getElem?_cons_succ, List.getElem?_cons_zero]; rfl) (by kernel_rfl) (by kernel_rfl) (by intro _ _ _ h; exact h) (by rfl) (fun wz => ?_) ?_
  rotate_left
  · first | (go_simp; done) | (go_simp; with_reducible rfl)
  simp only [Act.put, List.setIfInBounds_toArray, List.set_cons_succ, List.set_cons_zero]
  refine Rg.wpD_do 16 (by kernel_rfl) (by simp only [List.getElem?_toArray, List.getElem?_cons_succ, List.getElem?_cons_zero]; rfl) (fun K hK => ?_)
  go_simp
  refine hK _ _ (fun h => absurd h (by decide)) ?_
  clear hK K
  refine Rg.wpD_done (by kernel_rfl) ?_
  go_wp2
  refine bodyPost_ret (results_struct rfl _ _ (w.heap.size + 1 + 1) _ rfl (load_sm (blk_set3 (blk_drew k2 1) _ _ _))) rfl ?_
  exact ⟨rfl, below_grown (below_drew b0) (grown_set3 W.drew (w.heap.size + 1 + 1) _ _ _) (Nat.le_trans b0.size (Nat.le_refl _)) (by omega)⟩

end Go.Proofs.Ytcblojngdjofjaa.Wg
