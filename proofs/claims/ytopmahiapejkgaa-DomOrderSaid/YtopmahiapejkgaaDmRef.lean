/- The document's own trees: lowered, New. -/
import Derived.Test.YtopmahiapejkgaaDmSame
namespace Go.Proofs.Ytopmahiapejkgaa.Dm
open Go Go.RowKit

set_option maxRecDepth 100000 in
set_option maxHeartbeats 4000000 in
theorem lowered_any (n : Nd) (cv av : Value) (w : World) (hc : StrsAt w.heap.size w cv n.cls) (ha : PairsAt w.heap.size w av n.ats) (hN : NdOk n) :
    Calls Try.prog 22 #[ndVal n cv av] w fun e w' => ∃ cv' av', e = .returned (ndVal (lowN n) cv' av') ∧ StrRow w.heap.size w' cv' n.cls ∧ PairRow w.heap.size w' av' (n.ats.map lowA) ∧ Below w.heap.size w w' := by
  unfold ndVal
  obtain ⟨parent, tag, id, cls, ats⟩ := n
  obtain ⟨n1, n2, n3, n4, n5, n6⟩ := hN
  simp only at hc ha n1 n2 n3 n4 n5 n6
  obtain ⟨pc, cc, rfl⟩ := hc.len
  obtain ⟨pa, ca, rfl⟩ := ha.len
  have k1 : Blk (w.alloc (.cells #[.int .i64 parent, .string tag, .string id, .slice pc cls.length cc, .slice pa ats.length ca] 31)) w.heap.size 31 [.int .i64 parent, .string tag, .string id, .slice pc cls.length cc, .slice pa ats.length ca] := Blk.new w 31 [.int .i64 parent, .string tag, .string id, .slice pc cls.length cc, .slice pa ats.length ca]
  have b1 : Below w.heap.size w (w.alloc (.cells #[.int .i64 parent, .string tag, .string id, .slice pc cls.length cc, .slice pa ats.length ca] 31)) := (Below.refl _ _).alloc (Nat.le_refl _) _
  have hs1 : (w.alloc (.cells #[.int .i64 parent, .string tag, .string id, .slice pc cls.length cc, .slice pa ats.length ca] 31)).heap.size = w.heap.size + 1 := World.size_alloc _ _
  have b2 : Below (w.heap.size + 1) (w.alloc (.cells #[.int .i64 parent, .string tag, .string id, .slice pc cls.length cc, .slice pa ats.length ca] 31)) ((w.alloc (.cells #[.int .i64 parent, .string tag, .string id, .slice pc cls.length cc, .slice pa ats.length ca] 31)).alloc (.cells #[.int .i64 0, .string ⟨#[]⟩, .string ⟨#[]⟩, .slice none 0 0, .slice none 0 0] 31)) := (Below.refl _ _).alloc (by rw [hs1]; exact Nat.le_refl _) _
  have k2 : Blk ((w.alloc (.cells #[.int .i64 parent, .string tag, .string id, .slice pc cls.length cc, .slice pa ats.length ca] 31)).alloc (.cells #[.int .i64 0, .string ⟨#[]⟩, .string ⟨#[]⟩, .slice none 0 0, .slice none 0 0] 31)) (w.heap.size + 1) 31 [.int .i64 0, .string ⟨#[]⟩, .string ⟨#[]⟩, .slice none 0 0, .slice none 0 0] := by
    rw [← hs1]; exact Blk.new _ 31 [.int .i64 0, .string ⟨#[]⟩, .string ⟨#[]⟩, .slice none 0 0, .slice none 0 0]
  have k3 := k1.below b2 (Nat.lt_succ_self _)
  have b3 := b1.trans (b2.mono (Nat.le_succ _))
  obtain ⟨i0, hi, hz0, hz1, hz2⟩ := info_parts infoStr
  obtain ⟨j0, hj, hx0, hx1, hx2⟩ := info_parts infoPair
  clear k1 b1 b2 hs1
  go_enter Try.func22, Try.ntmps22
  go_upto_region 1 with fail
  generalize (w.alloc (.cells #[.int .i64 parent, .string tag, .string id, .slice pc cls.length cc, .slice pa ats.length ca] 31)).alloc (.cells #[.int .i64 0, .string ⟨#[]⟩, .string ⟨#[]⟩, .slice none 0 0, .slice none 0 0] 31) = W1 at *
  have hs1 := k2.lt
  have hsw := b3.size
  have y1 := (blk5 k3).1.2.1
  have hlow := refLow_any W1 tag n1
  go_wp2_with fail
  refine hlow.mono ?_
  clear hlow y1
  rintro e w2 ⟨rfl, bL⟩
  have k32 := k3.next bL
  have k22 := k2.next bL
  have bb2 := below_next b3 bL
  have k33 := blk_put k32 1 (.string (lowS tag))
  simp only [List.set_cons_succ, List.set_cons_zero] at k33
  have g3 := grown_set w2 w.heap.size 1 (.string (lowS tag))
  have k23 := k22.kept g3 (by simp)
  have bb3 := below_grown bb2 g3 bb2.size (Nat.le_refl _)
  have f1 := (blk5 k32).2.2.1
  have y1 := (blk5 k32).1.2.1
  have hsz3 : W1.heap.size ≤ (w2.setCell ⟨w.heap.size, 1, none⟩ (.string (lowS tag))).heap.size := Nat.le_trans bL.size g3.size
  go_upto_region 2 with fail
  generalize w2.setCell ⟨w.heap.size, 1, none⟩ (.string (lowS tag)) = W3 at *
  clear f1 y1 g3 bb2 k22 k32 bL k2 k3 b3
  have y3 := (blk5 k33).1.2.2.2.1
  have hc3 := hc.below bb3
  have ha3 := ha.below bb3
  have hsrc := SlAt.src (sz := 1) (f := stCells) (by decide) (fun _ => rfl) hc3
  rw [flat_st] at hsrc
  have H1 : ∀ u ∈ cls.map Value.string, u.oneCell' = true := fun u hu => by obtain ⟨x, _, rfl⟩ := List.mem_map.1 hu; rfl
  have m1 : 0 + cls.length ≤ maxLen := by unfold maxLen; omega
  have m2 : (0 + cls.length) * 16 ≤ 140737488355328 := by omega
  have hl1 : (cls.map Value.string).length = cls.length * 1 := by simp
  go_upto_region 3 with (at_builtin; refine Rg.wpList_append_src _ rfl _ _ 28 rfl W3.heap.size 9 i0 (.string ⟨#[]⟩) 1 16 Try.underlying28 hi hz0 hz1 hz2 rfl (by decide) _ 0 [] rfl (World.ownsRow_nil _ _ _ _) _ cls.length (cls.map Value.string) rfl hl1 hsrc H1 m1 m2 (Nat.le_refl _) ?_; intro cv' w4 hownC hgrowC; obtain ⟨qc, cq, rfl⟩ := owns_form hownC; have b4 : Below W3.heap.size W3 w4 := (Below.refl _ _).grown hgrowC (Nat.le_refl _) (fun r e => (by cases e)); have k34 := k33.next b4; have f3 := (blk5 k34).2.2.2.2.1; have y3' := (blk5 k34).1.2.2.2.1)
  have k4 := blk_put k34 3 (.slice qc cls.length cq)
  simp only [List.set_cons_succ, List.set_cons_zero] at k4
  have g4 := grown_set w4 w.heap.size 3 (.slice qc cls.length cq)
  have hC4 : StrRow W3.heap.size (w4.setCell ⟨w.heap.size, 3, none⟩ (.slice qc cls.length cq)) (.slice qc cls.length cq) cls := by
    have h0 : w4.ownsRow W3.heap.size 9 1 (.slice qc cls.length cq) cls.length (cls.map Value.string) := by simpa using hownC
    exact h0.kept g4 (.inr (row_blk (e := 9) (t := 31) (by decide) h0 k34))
  have k24 := (k23.next b4).kept g4 (by simp)
  have bb4 := below_grown (below_next bb3 b4) g4 (by have := bb3.size; have := b4.size; omega) (Nat.le_refl _)
  have hs4 : W3.heap.size ≤ (w4.setCell ⟨w.heap.size, 3, none⟩ (.slice qc cls.length cq)).heap.size := Nat.le_trans b4.size g4.size
  have HN4 : Hid (∀ a ∈ ats, a.1.size ≤ 281474976710656 ∧ a.2.size ≤ 281474976710656) := n4
  have HA : Hid (PairsAt w.heap.size w (.slice pa ats.length ca) ats) := ha
  have hlA := ha.short
  have l4 : ats.length ≤ 4398046511104 := by omega
  have hsw3 : w.heap.size + 1 < W3.heap.size := by omega
  clear n3 n4 hc ha hc3 ha3 hsrc H1 m1 m2 hl1 hownC hgrowC y3 y3' f3 g4 k34 k33 k23 bb3 b4
  generalize w4.setCell ⟨w.heap.size, 3, none⟩ (.slice qc cls.length cq) = W5 at *
  go_wp2
  go_loopw [3, 4] (fun x y wr => ∃ (k : Nat) (v : Value), x = v ∧ y = .int .i64 k ∧ k ≤ ats.length ∧ PairRow W5.heap.size wr v ((ats.take k).map lowA) ∧ Below W5.heap.size W5 wr) (fun _ y _ => ats.length - (intOf y).toNat)
  case atStart => exact ⟨0, _, rfl, rfl, Nat.zero_le _, World.ownsRow_nil _ _ _ _, Below.refl _ _⟩
  case round =>
    obtain ⟨k, v, rfl, rfl, hk, hP, bW⟩ := hrel
    have k5 := k4.next bW
    by_cases hlt : k < ats.length
    · have hki : (k : Int) < (ats.length : Int) := by omega
      have hlk : ((ats.take k).map lowA).length = k := by rw [List.length_map]; exact List.length_take_of_le hk
      have hs := HN4.out _ (List.getElem_mem hlt)
      have HTK : Hid ((ats.take (k + 1)).map lowA = (ats.take k).map lowA ++ [lowA ats[k]]) := by show _ = _; rw [take_more hlt, List.map_append]; rfl
      obtain ⟨bk, off, rfl, hbk, hcc, hmx, hcell⟩ := (HA.out.below (below_next bb4 bW)).get (List.getElem?_eq_getElem hlt)
      have x0 := hcell 0 _ rfl
      have x1 := hcell 1 _ rfl
      simp only [Nat.add_zero] at x0
      unfold PairRow at hP
      rw [hlk] at hP
      unfold maxLen at hmx
      obtain ⟨pq, cq', rfl⟩ := owns_form hP
      have hltb : bk < wr.heap.size := by have := (below_next bb4 bW).size; omega
      generalize ats[k] = s at *
      obtain ⟨nm, tx⟩ := s
      simp only at x0 x1 hs
      obtain ⟨hsA, hsB⟩ := hs
      have HS : Hid (∀ X : World, Below wr.heap.size wr X → X.cell? ⟨w.heap.size, 4, none⟩ = some (.slice (some ⟨bk, off, none⟩) ats.length ca) ∧ X.cell? ⟨bk, off + k * 2, none⟩ = some (.string nm) ∧ X.cell? ⟨bk, off + k * 2 + 1, none⟩ = some (.string tx)) := fun X hX => ⟨(blk5 (k5.next hX)).1.2.2.2.2, (hX.cell (p := ⟨bk, _, none⟩) hltb).trans x0, (hX.cell (p := ⟨bk, _, none⟩) hltb).trans x1⟩
      have HR4 : Hid (∀ (X : World) (o : Obj), Below wr.heap.size wr X → (X.alloc o).ownsRow W5.heap.size 40 2 (.slice pq k cq') k (((ats.take k).map lowA).flatMap paCells)) := fun X o hX => (owns_next hP hX).alloc o
      have HBW : Hid (∀ (X : World) (o : Obj) w7, Below wr.heap.size wr X → (X.alloc o).grownBy w7 (Value.slice pq k cq').ownBlock → Below W5.heap.size W5 w7) := fun X o w7 hX hg => by
        have h1 := (below_nextN bW hX (Nat.le_refl _)).alloc (by have := hX.size; have := bW.size; omega) o
        exact h1.grown hg h1.size (fun r e => (owns_lt hP e).1)
      have H1 : ∀ u ∈ ([.string (lowS nm), .string tx] : List Value), u.oneCell' = true := fun u hu => by simp at hu; rcases hu with rfl | rfl <;> rfl
      have m1 : k + 1 ≤ maxLen := by unfold maxLen; omega
      have m2 : (k + 1) * 32 ≤ 140737488355328 := by omega
      have hsz := bW.size
      have y4 := (blk5 k5).1.2.2.2.2
      clear hcell hP bW k5 x0 x1
      go_upto_region 7 with fail
      refine Rg.wpD_begin [0, 1, 2, 3, 4, 5, 6, 7, 8, 9, 10, 11, 12, 13, 14, 15] (fun X => X.cell? ⟨w.heap.size, 4, none⟩ = some (.slice (some ⟨bk, off, none⟩) ats.length ca) ∧ X.cell? ⟨bk, off + k * 2, none⟩ = some (.string nm) ∧ X.cell? ⟨bk, off + k * 2 + 1, none⟩ = some (.string tx)) (by kernel_rfl) ?_
      have q0 : Below wr.heap.size wr wr.drew := below_drew (Below.refl _ _)
      have HeldS := HS.out _ q0
      refine Rg.wpD_load 0 (v := ?_) (by simp only [List.getElem?_toArray, List.getElem?_cons_zero]; rfl) (by kernel_rfl) (by kernel_rfl) (by intro _ _ _ h; exact h) HeldS (by rfl) (fun wz hz => ?_) ?_
      rotate_left
      · first | (go_simp; done) | (go_simp; with_reducible rfl)
      simp only [Act.put, List.setIfInBounds_toArray, List.set_cons_succ, List.set_cons_zero]
      refine Rg.wpD_load 1 (v := ?_) (by simp only [List.getElem?_toArray, List.getElem?_cons_succ, List.getElem?_cons_zero]; rfl) (by kernel_rfl) (by kernel_rfl) (by intro _ _ _ h; exact h) HeldS (by rfl) (fun wz hz => ?_) ?_
      rotate_left
      · first | (go_simp; done) | (go_simp; with_reducible rfl)
      simp only [Act.put, List.setIfInBounds_toArray, List.set_cons_succ, List.set_cons_zero]
      refine Rg.wpD_load 2 (v := ?_) (by simp only [List.getElem?_toArray, List.getElem?_cons_succ, List.getElem?_cons_zero]; rfl) (by kernel_rfl) (by kernel_rfl) (by intro _ _ _ h; exact h) HeldS (by rfl) (fun wz hz => ?_) ?_
      rotate_left
      · first | (go_simp; done) | (go_simp; with_reducible rfl)
      simp only [Act.put, List.setIfInBounds_toArray, List.set_cons_succ, List.set_cons_zero]
      refine Rg.wpD_load 3 (v := ?_) (by simp only [List.getElem?_toArray, List.getElem?_cons_succ, List.getElem?_cons_zero]; rfl) (by kernel_rfl) (by kernel_rfl) (by intro _ _ _ h; exact h) HeldS (by rfl) (fun wz hz => ?_) ?_
      rotate_left
      · first | (go_simp; done) | (go_simp; with_reducible rfl)
      simp only [Act.put, List.setIfInBounds_toArray, List.set_cons_succ, List.set_cons_zero]
      refine Rg.wpD_load 4 (v := ?_) (by simp only [List.getElem?_toArray, List.getElem?_cons_succ, List.getElem?_cons_zero]; rfl) (by kernel_rfl) (by kernel_rfl) (by intro _ _ _ h; exact h) HeldS (by rfl) (fun wz hz => ?_) ?_
      rotate_left
      · first | (go_simp; done) | (go_simp; with_reducible rfl)
      simp only [Act.put, List.setIfInBounds_toArray, List.set_cons_succ, List.set_cons_zero]
      refine Rg.wpD_load 5 (v := ?_) (by simp only [List.getElem?_toArray, List.getElem?_cons_succ, List.getElem?_cons_zero]; rfl) (by kernel_rfl) (by kernel_rfl) (by intro _ _ _ h; exact h) HeldS (by rfl) (fun wz hz => ?_) ?_
      rotate_left
      · first | (go_simp; done) | (go_simp; with_reducible rfl)
      simp only [Act.put, List.setIfInBounds_toArray, List.set_cons_succ, List.set_cons_zero]
      refine Rg.wpD_load 6 (v := ?_) (by simp only [List.getElem?_toArray, List.getElem?_cons_succ, List.getElem?_cons_zero]; rfl) (by kernel_rfl) (by kernel_rfl) (by intro _ _ _ h; exact h) HeldS (by rfl) (fun wz hz => ?_) ?_
      rotate_left
      · first | (go_simp; done) | (go_simp; with_reducible rfl)
      simp only [Act.put, List.setIfInBounds_toArray, List.set_cons_succ, List.set_cons_zero]
      refine Rg.wpD_load 8 (v := ?_) (by simp only [List.getElem?_toArray, List.getElem?_cons_succ, List.getElem?_cons_zero]; rfl) (by kernel_rfl) (by kernel_rfl) (by intro _ _ _ h; exact h) HeldS (by rfl) (fun wz hz => ?_) ?_
      rotate_left
      · first | (go_simp; done) | (go_simp; with_reducible rfl)
      simp only [Act.put, List.setIfInBounds_toArray, List.set_cons_succ, List.set_cons_zero]
      refine Rg.wpD_load 9 (v := ?_) (by simp only [List.getElem?_toArray, List.getElem?_cons_succ, List.getElem?_cons_zero]; rfl) (by kernel_rfl) (by kernel_rfl) (by intro _ _ _ h; exact h) HeldS (by rfl) (fun wz hz => ?_) ?_
      rotate_left
      · first | (go_simp; done) | (go_simp; with_reducible rfl)
      simp only [Act.put, List.setIfInBounds_toArray, List.set_cons_succ, List.set_cons_zero]
      refine Rg.wpD_load 10 (v := ?_) (by simp only [List.getElem?_toArray, List.getElem?_cons_succ, List.getElem?_cons_zero]; rfl) (by kernel_rfl) (by kernel_rfl) (by intro _ _ _ h; exact h) HeldS (by rfl) (fun wz hz => ?_) ?_
      rotate_left
      · first | (go_simp; done) | (go_simp; with_reducible rfl)
      simp only [Act.put, List.setIfInBounds_toArray, List.set_cons_succ, List.set_cons_zero]
      refine Rg.wpD_load 11 (v := ?_) (by simp only [List.getElem?_toArray, List.getElem?_cons_succ, List.getElem?_cons_zero]; rfl) (by kernel_rfl) (by kernel_rfl) (by intro _ _ _ h; exact h) HeldS (by rfl) (fun wz hz => ?_) ?_
      rotate_left
      · first | (go_simp; done) | (go_simp; with_reducible rfl)
      simp only [Act.put, List.setIfInBounds_toArray, List.set_cons_succ, List.set_cons_zero]
      refine Rg.wpD_load 12 (v := ?_) (by simp only [List.getElem?_toArray, List.getElem?_cons_succ, List.getElem?_cons_zero]; rfl) (by kernel_rfl) (by kernel_rfl) (by intro _ _ _ h; exact h) HeldS (by rfl) (fun wz hz => ?_) ?_
      rotate_left
      · first | (go_simp; done) | (go_simp; with_reducible rfl)
      simp only [Act.put, List.setIfInBounds_toArray, List.set_cons_succ, List.set_cons_zero]
      refine Rg.wpD_load 13 (v := ?_) (by simp only [List.getElem?_toArray, List.getElem?_cons_succ, List.getElem?_cons_zero]; rfl) (by kernel_rfl) (by kernel_rfl) (by intro _ _ _ h; exact h) HeldS (by rfl) (fun wz hz => ?_) ?_
      rotate_left
      · first | (go_simp; done) | (go_simp; with_reducible rfl)
      simp only [Act.put, List.setIfInBounds_toArray, List.set_cons_succ, List.set_cons_zero]
      refine Rg.wpD_do 7 (by kernel_rfl) (by simp only [List.getElem?_toArray, List.getElem?_cons_succ, List.getElem?_cons_zero]; rfl) (fun K hK => ?_)
      go_simp
      go_at_call 33
      refine Calls.mono (refLow_any wr.drew nm hsA) ?_
      rintro e wN ⟨rfl, bN⟩
      have qN : Below wr.heap.size wr wN := below_next q0 bN
      refine hK _ _ (fun _ => HS.out _ qN) ?_
      clear HeldS hK K bN
      have HeldS := HS.out _ qN
      refine Rg.wpD_load 14 (v := ?_) (by simp only [List.getElem?_toArray, List.getElem?_cons_succ, List.getElem?_cons_zero]; rfl) (by kernel_rfl) (by kernel_rfl) (by intro _ _ _ h; exact h) HeldS (by rfl) (fun wz hz => ?_) ?_
      rotate_left
      · first | (go_simp; done) | (go_simp; with_reducible rfl)
      simp only [Act.put, List.setIfInBounds_toArray, List.set_cons_succ, List.set_cons_zero]
      refine Rg.wpD_do 15 (by kernel_rfl) (by simp only [List.getElem?_toArray, List.getElem?_cons_succ, List.getElem?_cons_zero]; rfl) (fun K hK => ?_)
      go_simp
      have qL : Below wr.heap.size wr (wN.alloc (.cells #[.string (lowS nm), .string tx] 40)) := qN.alloc qN.size _
      refine hK _ _ (fun _ => HS.out _ qL) ?_
      clear HeldS hK K
      have hcp := cells_plain wN [.string (lowS nm), .string tx] 40
      have hsL : W5.heap.size ≤ (wN.alloc (.cells #[.string (lowS nm), .string tx] 40)).heap.size := Nat.le_trans hsz qL.size
      refine Rg.wpD_do 16 (by kernel_rfl) (by simp only [List.getElem?_toArray, List.getElem?_cons_succ, List.getElem?_cons_zero]; rfl) (fun K hK => ?_)
      refine step_append_lies (w := wN.alloc _) rfl _ _ 29 rfl W5.heap.size 40 j0 (.agg #[.string ⟨#[]⟩, .string ⟨#[]⟩]) 2 32 Try.underlying29 hj hx0 hx1 hx2 rfl (by decide) (.slice pq k cq') _ _ rfl (HR4.out _ _ qN) ⟨wN.heap.size, 0, none⟩ 1 1 [.string (lowS nm), .string tx] rfl rfl hcp H1 (by decide) m1 m2 hsL _ rfl ?_
      intro g7 c7 w7 hown7 hgrow7 hat7 hlt7
      refine hK _ _ (fun h => absurd h (by decide)) ?_
      clear hK K hcp
      refine Rg.wpD_pure 17 (v := ?_) (by simp only [List.getElem?_toArray, List.getElem?_cons_succ, List.getElem?_cons_zero]; rfl) (by kernel_rfl) (by kernel_rfl) (by intro _ _ _ h; exact h) (by rfl) (fun wz => ?_) ?_
      rotate_left
      · first | (go_simp; done) | (go_simp; with_reducible rfl)
      simp only [Act.put, List.setIfInBounds_toArray, List.set_cons_succ, List.set_cons_zero]
      refine Rg.wpD_done (by kernel_rfl) ?_
      have b7 := HBW.out _ _ _ qN hgrow7
      have hrow : PairRow W5.heap.size w7 (.slice (some ⟨g7, 0, none⟩) (k + 1) c7) ((ats.take (k + 1)).map lowA) := by
        unfold PairRow
        rw [HTK.out, List.length_append, hlk, List.flatMap_append]
        exact hown7
      clear hown7 hgrow7 HTK hlk
      go_wp2
      exact ⟨⟨k + 1, _, rfl, by go_num, by omega, hrow, b7⟩, by simp [intOf]; omega⟩
    · have hki : ¬ (k : Int) < (ats.length : Int) := by omega
      obtain rfl : k = ats.length := by omega
      rw [List.take_length] at hP
      unfold PairRow at hP
      rw [List.length_map] at hP
      obtain ⟨pq, cq', rfl⟩ := owns_form hP
      have f4 := (blk5 k5).2.2.2.2.2
      have y4 := (blk5 k5).1.2.2.2.2
      have k6 := blk_put k5 4 (.slice pq ats.length cq')
      simp only [List.set_cons_succ, List.set_cons_zero] at k6
      have g6 := grown_set wr w.heap.size 4 (.slice pq ats.length cq')
      have hP6 := hP.kept g6 (.inr (row_blk (e := 40) (t := 31) (by decide) hP k5))
      have hC5 := hC4.next bW
      have hC6 := hC5.kept g6 (.inr (row_blk (e := 9) (t := 31) (by decide) hC5 k5))
      have k26 := (k24.next bW).kept g6 (by simp)
      have bb6 := below_grown (below_next bb4 bW) g6 (below_next bb4 bW).size (Nat.le_refl _)
      go_upto_region 9 with fail
      generalize wr.setCell ⟨w.heap.size, 4, none⟩ (.slice pq ats.length cq') = W7 at *
      have kW := blk_set5 k26 (.int .i64 parent) (.string (lowS tag)) (.string id) (.slice qc cls.length cq) (.slice pq ats.length cq')
      have gW := grown_set5 W7 (w.heap.size + 1) (.int .i64 parent) (.string (lowS tag)) (.string id) (.slice qc cls.length cq) (.slice pq ats.length cq')
      have hR9 := owns_base (b' := w.heap.size) (hC6.kept gW (.inr (row_blk (e := 9) (t := 31) (by decide) hC6 k26))) (by omega)
      have hP9 := owns_base (b' := w.heap.size) (hP6.kept gW (.inr (row_blk (e := 40) (t := 31) (by decide) hP6 k26))) (by omega)
      have b9 := below_grown bb6 gW bb6.size (Nat.le_succ _)
      clear f4 y4
      obtain ⟨⟨y0, y1, y2, y3, y4⟩, _⟩ := blk5 k6
      obtain ⟨⟨t0, t1, t2, t3, t4⟩, f0, f1, f2, f3, f4⟩ := blk5 k26
      unfold set5 at kW hR9 hP9 b9
      clear gW k26 hC6 hP6 k6 hC5 hP k5 k4
      go_wp2
      refine bodyPost_ret (results_struct rfl _ _ _ _ rfl (load_node kW)) rfl ?_
      refine ⟨_, _, rfl, hR9, ?_, b9⟩
      unfold PairRow
      rw [List.length_map]
      exact hP9

end Go.Proofs.Ytopmahiapejkgaa.Dm
