/- For every slice of nodes: the law tapestrierlaw10.MatchPlaces returns true and leaves its argument as it was; no condition. -/
import Derived.Test.YtgjfapdnobhkcabMtTrees
import Derived.Test.YtgjfapdnobhkcabMtWant
import Derived.Test.YtgjfapdnobhkcabDmRefP
import Derived.Test.YtgjfapdnobhkcabDmArgs
import Derived.Test.YtgjfapdnobhkcabRows
namespace Go.Proofs.Ytgjfapdnobhkcab
open Go Go.ChangeShapes Go.WideShapes Go.ChangeAt Go.RowKit Dm Mt
open Go.ChangeMaps (open_string shut_string)

set_option maxRecDepth 100000 in
set_option maxHeartbeats 2000000 in
theorem matchPlaces_walk (w : World) (v : Value) (l : List Nv) (hv : NodesAt w.heap.size w v l) (hN : ∀ n ∈ l, NdOk n.nd) (_hl : l.length * 88 ≤ 140737488351232) :
    Calls Try.prog 4 #[v] w fun e w' => e = .returned (.bool true) ∧ Below w.heap.size w w' := by
  have h0 := Mt.alive_any w
  obtain ⟨p, cap, rfl⟩ := hv.row.len
  have HV : Hid (NodesAt w.heap.size w (.slice p l.length cap) l) := hv
  have HN : Hid (∀ n ∈ l, NdOk n.nd) := hN
  clear hv hN
  go_enter Try.func4, Try.ntmps4
  go_wp2_with fail
  refine h0.mono ?_
  clear h0
  rintro e w1 ⟨rfl, b1⟩
  have h1 := trees_any _ l w1 (HV.out.next b1) HN.out
  go_wp2_with fail
  refine h1.mono ?_
  clear h1
  rintro e w2 ⟨hm, b2⟩
  have b12 := below_next b1 b2
  clear b1 b2
  rcases hm with rfl | ⟨tb, rb, b, nv, dv, ns, ds, es, rfl, hG, hR, hE, hel, h40⟩
  · go_wp2
    go_ret
    exact ⟨rfl, b12⟩
  · have HG : Hid (Mt.Good w2 tb es) := hG
    have HR : Hid (RTr b w2 rb nv dv ns ds) := hR
    have HE : Hid (Tells es ns ds) := hE
    have HL : Hid (es.length = l.length) := hel
    clear hG hR hE hel
    go_wp2
    go_loopw [7] (fun y wr => ∃ k : Nat, y = .int .i64 k ∧ k ≤ l.length ∧ Below w2.heap.size w2 wr) (fun y _ => l.length - (intOf y).toNat)
    case atStart => exact ⟨0, rfl, Nat.zero_le _, Below.refl _ _⟩
    case round =>
      obtain ⟨k, rfl, hk, bw⟩ := hrel
      by_cases hlt : k < l.length
      · have hki : (k : Int) < (l.length : Int) := by omega
        have h1 := refParent_any b rb nv dv ns ds es (k : Int) wr (HR.out.next bw) HE.out
        have h2 := refChildren_any b rb nv dv ns ds es (parentV es (k : Int)) wr (HR.out.next bw) HE.out HG.out.ok HG.out.len
        go_wp2_with fail
        refine h1.mono ?_
        clear h1
        rintro e wr' ⟨rfl, rfl⟩
        go_wp2_with fail
        refine h2.mono ?_
        clear h2
        rintro e w3 ⟨v3, rfl, hr3, b3⟩
        have bw3 := below_next bw b3
        unfold IntRow at hr3
        rw [chI_len] at hr3
        obtain ⟨p3, c3, rfl⟩ := owns_form hr3
        clear hr3 b3
        obtain ⟨C, hC⟩ : ∃ C : Nat, (childrenV es (k : Int)).length = C := ⟨_, rfl⟩
        obtain ⟨c4, hc4⟩ : ∃ c4 : Bool, ((C : Int) == 0) = c4 := ⟨_, rfl⟩
        have hke : k < es.length := by rw [HL.out]; exact hlt
        by_cases hk0 : k = 0
        · have e0 : ((k : Int) == 0) = true := by rw [hk0]; rfl
          have hpl := place_root HG.out.ok hke hk0
          have HWANT : Hid (∀ i : Nat, i < 5 → compoundV es (k : Int) (psCp (.mk (1 + (i : Int)) 0 0 [])) = [true, true, true, true, c4].getD i false) := fun i hi => by
            have h := want_root HG.out.ok hke hk0 i hi
            rw [hC, hc4] at h
            exact h
          clear hk0
          have h3 := refPlace_any b rb nv dv ns ds es (k : Int) w3 (HR.out.next bw3) HE.out HG.out.ok HG.out.len
          rw [hpl] at h3
          go_wp2_with fail
          refine h3.mono ?_
          clear h3
          rintro e w4 ⟨rfl, n4, e4⟩
          have bw4 : Below w2.heap.size w2 w4 := by rw [e4]; exact below_drewN' bw3 n4
          clear e4
          have h4 := refPlace_any b rb nv dv ns ds es (k : Int) w4 (HR.out.next bw4) HE.out HG.out.ok HG.out.len
          rw [hpl] at h4
          go_wp2_with fail
          refine h4.mono ?_
          clear h4
          rintro e w5 ⟨rfl, n5, e5⟩
          have bw5 : Below w2.heap.size w2 w5 := by rw [e5]; exact below_drewN' bw4 n5
          clear e5 bw4
          have h5 := refChildren_any b rb nv dv ns ds es (k : Int) w5 (HR.out.next bw5) HE.out HG.out.ok HG.out.len
          go_wp2_with fail
          refine h5.mono ?_
          clear h5
          rintro e w6 ⟨v6, rfl, hr6, b6⟩
          have bw6 := below_next bw5 b6
          unfold IntRow at hr6
          rw [chI_len, hC] at hr6
          obtain ⟨p6, c6, rfl⟩ := owns_form hr6
          clear hr6 b6 bw5 bw3
          obtain ⟨W9, hW9⟩ : ∃ W9, w6.alloc (.cells #[.bool true, .bool true, .bool true, .bool true, .bool c4] 4) = W9 := ⟨_, rfl⟩
          have b9 : Below w6.heap.size w6 W9 := by rw [← hW9]; exact (Below.refl _ _).alloc (Nat.le_refl _) _
          have k9 : Blk W9 w6.heap.size 4 ([true, true, true, true, c4].map Value.bool) := by rw [← hW9]; exact Blk.new w6 4 ([true, true, true, true, c4].map Value.bool)
          have K9 : Hid (Blk W9 w6.heap.size 4 ([true, true, true, true, c4].map Value.bool)) := k9
          have bw9 := below_next bw6 b9
          clear k9 b9 bw6
          go_wp2
          go_loopw [10] (fun y wq => ∃ i : Nat, y = .int .i64 i ∧ i ≤ 5 ∧ Below W9.heap.size W9 wq) (fun y _ => 5 - (intOf y).toNat)
          case atStart => exact ⟨0, rfl, Nat.zero_le _, Below.refl _ _⟩
          case round =>
            rename World => wq
            obtain ⟨i, rfl, hi, bq⟩ := hrel
            have bwq := below_next bw9 bq
            by_cases hi5 : i < 5
            · have hii : (i : Int) < 5 := by omega
              obtain ⟨wi, hwi⟩ : ∃ wi, [true, true, true, true, c4].getD i false = wi := ⟨_, rfl⟩
              have hcell : ([true, true, true, true, c4].map Value.bool)[i]? = some (.bool wi) := by
                rw [List.getElem?_map, ← hwi]
                simp only [List.getD]
                rw [List.getElem?_eq_getElem (show i < [true, true, true, true, c4].length from hi5)]
                rfl
              have hww : (wi != wi) = false := bne_self_eq_false _
              obtain ⟨P1, hP1⟩ : ∃ P1, wq.alloc (.cells #[.int .i64 (1 + (i : Int)), .int .i64 0, .int .i64 0, .slice none 0 0] 54) = P1 := ⟨_, rfl⟩
              have bP : Below wq.heap.size wq P1 := by rw [← hP1]; exact (Below.refl _ _).alloc (Nat.le_refl _) _
              have kP : Blk P1 wq.heap.size 54 (psCells (.mk (1 + (i : Int)) 0 0 []) (.slice none 0 0)) := by rw [← hP1]; exact Blk.new wq 54 (psCells (.mk (1 + (i : Int)) 0 0 []) (.slice none 0 0))
              obtain ⟨R, hR⟩ : ∃ R, P1.alloc (.cells #[.string ⟨#[]⟩, .slice none 0 0, .slice none 0 0, .slice none 0 0, .slice (some ⟨wq.heap.size, 0, none⟩) 1 1] 42) = R := ⟨_, rfl⟩
              have bR : Below P1.heap.size P1 R := by rw [← hR]; exact (Below.refl _ _).alloc (Nat.le_refl _) _
              have kR : Blk R P1.heap.size 42 [.string ⟨#[]⟩, .slice none 0 0, .slice none 0 0, .slice none 0 0, .slice (some ⟨wq.heap.size, 0, none⟩) 1 1] := by rw [← hR]; exact Blk.new P1 42 [.string ⟨#[]⟩, .slice none 0 0, .slice none 0 0, .slice none 0 0, .slice (some ⟨wq.heap.size, 0, none⟩) 1 1]
              have bqR : Below wq.heap.size wq R := below_next bP bR
              have hsz : P1.heap.size = wq.heap.size + 1 := by rw [← hP1, World.size_alloc]
              rw [hsz] at kR
              have HS : Hid (∀ X : World, Below R.heap.size R X → X.cell? ⟨wq.heap.size + 1, 0, none⟩ = some (.string ⟨#[]⟩) ∧ X.cell? ⟨wq.heap.size + 1, 1, none⟩ = some (.slice none 0 0) ∧ X.cell? ⟨wq.heap.size + 1, 2, none⟩ = some (.slice none 0 0) ∧ X.cell? ⟨wq.heap.size + 1, 3, none⟩ = some (.slice none 0 0) ∧ X.cell? ⟨wq.heap.size + 1, 4, none⟩ = some (.slice (some ⟨wq.heap.size, 0, none⟩) 1 1) ∧ X.cell? ⟨w6.heap.size, i, none⟩ = some (.bool wi)) := fun X hX => by
                obtain ⟨⟨y0, y1, y2, y3, y4⟩, _⟩ := blk5 (kR.next hX)
                exact ⟨y0, y1, y2, y3, y4, (cell_row (K9.out.next (below_next (below_next bq bqR) hX)) hcell).1⟩
              have q0 : Below R.heap.size R R.drew := below_drew (Below.refl _ _)
              have hc : Calls Try.prog 11 #[.pointer (some ⟨tb, 0, none⟩), .int .i64 (k : Int), .agg #[.string ⟨#[]⟩, .slice none 0 0, .slice none 0 0, .slice none 0 0, .slice (some ⟨wq.heap.size, 0, none⟩) 1 1]] R.drew fun r w' => r = .returned (.bool wi) ∧ Below R.heap.size R w' := by
                have bD := below_next bR q0
                have q := (HG.out.next (below_next (below_next bwq bqR) q0)).cmp (k : Int) 0 (psCp (.mk (1 + (i : Int)) 0 0 [])) _ _ _ _ (cp_ps (kP.next bD) ⟨rfl, _, _, rfl⟩ (show i64 (1 + (i : Int)) from ⟨by omega, by omega⟩) (show i64 0 from ⟨by decide, by decide⟩) (show i64 0 from ⟨by decide, by decide⟩) (Nat.zero_le _))
                rw [HWANT.out i hi5, hwi] at q
                exact q.mono (fun r w' h => ⟨h.1, below_next q0 h.2⟩)
              have BQ : Hid (∀ X, Below R.heap.size R X → Below W9.heap.size W9 X) := fun X hX => below_next (below_next bq bqR) hX
              obtain ⟨⟨y0, y1, y2, y3, y4⟩, _⟩ := blk5 kR
              clear hwi hcell bP kP bR kR bqR bq bwq
              go_upto_region 16 with fail
              clear y0 y1 y2 y3 y4
              refine Rg.wpD_begin [0, 1, 2, 3, 4, 5, 6, 7] (fun X => X.cell? ⟨wq.heap.size + 1, 0, none⟩ = some (.string ⟨#[]⟩) ∧ X.cell? ⟨wq.heap.size + 1, 1, none⟩ = some (.slice none 0 0) ∧ X.cell? ⟨wq.heap.size + 1, 2, none⟩ = some (.slice none 0 0) ∧ X.cell? ⟨wq.heap.size + 1, 3, none⟩ = some (.slice none 0 0) ∧ X.cell? ⟨wq.heap.size + 1, 4, none⟩ = some (.slice (some ⟨wq.heap.size, 0, none⟩) 1 1) ∧ X.cell? ⟨w6.heap.size, i, none⟩ = some (.bool wi)) (by kernel_rfl) ?_
              have HeldS := HS.out _ q0
              refine Rg.wpD_load 0 (v := ?_) (by simp only [List.getElem?_toArray, List.getElem?_cons_zero]; rfl) (by kernel_rfl) (by kernel_rfl) (by intro _ _ _ h; exact h) HeldS (by rfl) (fun wz hz => ?_) ?_
              rotate_left
              · first | (go_simp; done) | (go_simp; with_reducible rfl)
              simp only [Act.put, List.setIfInBounds_toArray, List.set_cons_succ, List.set_cons_zero]
              refine Rg.wpD_load 1 (v := ?_) (by simp only [List.getElem?_toArray, List.getElem?_cons_succ, List.getElem?_cons_zero]; rfl) (by kernel_rfl) (by kernel_rfl) (by intro _ _ _ h; exact h) HeldS (by rfl) (fun wz hz => ?_) ?_
              rotate_left
              · first | (go_simp; done) | (go_simp; with_reducible rfl)
              simp only [Act.put, List.setIfInBounds_toArray, List.set_cons_succ, List.set_cons_zero]
              refine Rg.wpD_load 2 (v := ?_) (by simp only [List.getElem?_toArray, List.getElem?_cons_succ, List.getElem?_cons_zero]; rfl) (by kernel_rfl) (by kernel_rfl) (by intro _ _ _ h; exact h) HeldS (by rfl) (fun wz hz => ?_) ?_
              rotate_left
              · first | (go_simp; done) | (go_simp; with_reducible rfl)
              simp only [Act.put, List.setIfInBounds_toArray, List.set_cons_succ, List.set_cons_zero]
              refine Rg.wpD_load 4 (v := ?_) (by simp only [List.getElem?_toArray, List.getElem?_cons_succ, List.getElem?_cons_zero]; rfl) (by kernel_rfl) (by kernel_rfl) (by intro _ _ _ h; exact h) HeldS (by rfl) (fun wz hz => ?_) ?_
              rotate_left
              · first | (go_simp; done) | (go_simp; with_reducible rfl)
              simp only [Act.put, List.setIfInBounds_toArray, List.set_cons_succ, List.set_cons_zero]
              refine Rg.wpD_load 5 (v := ?_) (by simp only [List.getElem?_toArray, List.getElem?_cons_succ, List.getElem?_cons_zero]; rfl) (by kernel_rfl) (by kernel_rfl) (by intro _ _ _ h; exact h) HeldS (by rfl) (fun wz hz => ?_) ?_
              rotate_left
              · first | (go_simp; done) | (go_simp; with_reducible rfl)
              simp only [Act.put, List.setIfInBounds_toArray, List.set_cons_succ, List.set_cons_zero]
              refine Rg.wpD_load 6 (v := ?_) (by simp only [List.getElem?_toArray, List.getElem?_cons_succ, List.getElem?_cons_zero]; rfl) (by kernel_rfl) (by kernel_rfl) (by intro _ _ _ h; exact h) HeldS (by rfl) (fun wz hz => ?_) ?_
              rotate_left
              · first | (go_simp; done) | (go_simp; with_reducible rfl)
              simp only [Act.put, List.setIfInBounds_toArray, List.set_cons_succ, List.set_cons_zero]
              refine Rg.wpD_load 7 (v := ?_) (by simp only [List.getElem?_toArray, List.getElem?_cons_succ, List.getElem?_cons_zero]; rfl) (by kernel_rfl) (by kernel_rfl) (by intro _ _ _ h; exact h) HeldS (by rfl) (fun wz hz => ?_) ?_
              rotate_left
              · first | (go_simp; done) | (go_simp; with_reducible rfl)
              simp only [Act.put, List.setIfInBounds_toArray, List.set_cons_succ, List.set_cons_zero]
              refine Rg.wpD_do 3 (by kernel_rfl) (by simp only [List.getElem?_toArray, List.getElem?_cons_succ, List.getElem?_cons_zero]; rfl) (fun K hK => ?_)
              go_simp
              go_at_call 11
              refine Calls.mono hc ?_
              clear hc
              rintro r X ⟨rfl, bX⟩
              have b10 := BQ.out X bX
              refine hK _ _ (fun _ => HS.out _ bX) ?_
              clear hK K HeldS HS q0 BQ bX
              refine Rg.wpD_pure 8 (v := ?_) (by simp only [List.getElem?_toArray, List.getElem?_cons_succ, List.getElem?_cons_zero]; rfl) (by kernel_rfl) (by kernel_rfl) (by intro _ _ _ h; exact h) (by rfl) (fun wz => ?_) ?_
              rotate_left
              · first | (go_simp; done) | (go_simp; with_reducible rfl)
              simp only [Act.put, List.setIfInBounds_toArray, List.set_cons_succ, List.set_cons_zero]
              refine Rg.wpD_done (by kernel_rfl) ?_
              go_wp2
              exact ⟨⟨i + 1, by go_num, by omega, b10⟩, by simp [intOf]; omega⟩
            · have hii : ¬ (i : Int) < 5 := by omega
              go_wp2
              exact ⟨⟨k + 1, by go_num, by omega, bwq⟩, by simp [intOf]; omega⟩
        · have e0 : ((k : Int) == 0) = false := by simpa using hk0
          obtain ⟨P, hpl⟩ : ∃ P : Int, placeV es (k : Int) = P := ⟨_, rfl⟩
          obtain ⟨K0, hK0⟩ : ∃ K0 : Nat, (childrenV es (parentV es (k : Int))).length = K0 := ⟨_, rfl⟩
          obtain ⟨c1, hc1⟩ : ∃ c1 : Bool, (P == 1) = c1 := ⟨_, rfl⟩
          obtain ⟨c2, hc2⟩ : ∃ c2 : Bool, (P == (K0 : Int)) = c2 := ⟨_, rfl⟩
          obtain ⟨c5, hc5⟩ : ∃ c5 : Bool, ((K0 : Int) == 1) = c5 := ⟨_, rfl⟩
          have HWANT : Hid (∀ i : Nat, i < 5 → compoundV es (k : Int) (psCp (.mk (1 + (i : Int)) 0 0 [])) = [false, c1, c2, c5, c4].getD i false) := fun i hi => by
            have h := want_in HG.out.ok hke (by omega) i hi
            rw [hC, hc4, hpl, hK0, hc1, hc2, hc5] at h
            exact h
          rw [hK0]
          have h3 := refPlace_any b rb nv dv ns ds es (k : Int) w3 (HR.out.next bw3) HE.out HG.out.ok HG.out.len
          rw [hpl] at h3
          go_wp2_with fail
          refine h3.mono ?_
          clear h3
          rintro e w4 ⟨rfl, n4, e4⟩
          have bw4 : Below w2.heap.size w2 w4 := by rw [e4]; exact below_drewN' bw3 n4
          clear e4
          have h4 := refPlace_any b rb nv dv ns ds es (k : Int) w4 (HR.out.next bw4) HE.out HG.out.ok HG.out.len
          rw [hpl] at h4
          go_wp2_with fail
          refine h4.mono ?_
          clear h4
          rintro e w5 ⟨rfl, n5, e5⟩
          have bw5 : Below w2.heap.size w2 w5 := by rw [e5]; exact below_drewN' bw4 n5
          clear e5 bw4
          have h5 := refChildren_any b rb nv dv ns ds es (k : Int) w5 (HR.out.next bw5) HE.out HG.out.ok HG.out.len
          go_wp2_with fail
          refine h5.mono ?_
          clear h5
          rintro e w6 ⟨v6, rfl, hr6, b6⟩
          have bw6 := below_next bw5 b6
          unfold IntRow at hr6
          rw [chI_len, hC] at hr6
          obtain ⟨p6, c6, rfl⟩ := owns_form hr6
          clear hr6 b6 bw5 bw3
          obtain ⟨W9, hW9⟩ : ∃ W9, w6.alloc (.cells #[.bool false, .bool c1, .bool c2, .bool c5, .bool c4] 4) = W9 := ⟨_, rfl⟩
          have b9 : Below w6.heap.size w6 W9 := by rw [← hW9]; exact (Below.refl _ _).alloc (Nat.le_refl _) _
          have k9 : Blk W9 w6.heap.size 4 ([false, c1, c2, c5, c4].map Value.bool) := by rw [← hW9]; exact Blk.new w6 4 ([false, c1, c2, c5, c4].map Value.bool)
          have K9 : Hid (Blk W9 w6.heap.size 4 ([false, c1, c2, c5, c4].map Value.bool)) := k9
          have bw9 := below_next bw6 b9
          clear k9 b9 bw6
          go_wp2
          go_loopw [10] (fun y wq => ∃ i : Nat, y = .int .i64 i ∧ i ≤ 5 ∧ Below W9.heap.size W9 wq) (fun y _ => 5 - (intOf y).toNat)
          case atStart => exact ⟨0, rfl, Nat.zero_le _, Below.refl _ _⟩
          case round =>
            rename World => wq
            obtain ⟨i, rfl, hi, bq⟩ := hrel
            have bwq := below_next bw9 bq
            by_cases hi5 : i < 5
            · have hii : (i : Int) < 5 := by omega
              obtain ⟨wi, hwi⟩ : ∃ wi, [false, c1, c2, c5, c4].getD i false = wi := ⟨_, rfl⟩
              have hcell : ([false, c1, c2, c5, c4].map Value.bool)[i]? = some (.bool wi) := by
                rw [List.getElem?_map, ← hwi]
                simp only [List.getD]
                rw [List.getElem?_eq_getElem (show i < [false, c1, c2, c5, c4].length from hi5)]
                rfl
              have hww : (wi != wi) = false := bne_self_eq_false _
              obtain ⟨P1, hP1⟩ : ∃ P1, wq.alloc (.cells #[.int .i64 (1 + (i : Int)), .int .i64 0, .int .i64 0, .slice none 0 0] 54) = P1 := ⟨_, rfl⟩
              have bP : Below wq.heap.size wq P1 := by rw [← hP1]; exact (Below.refl _ _).alloc (Nat.le_refl _) _
              have kP : Blk P1 wq.heap.size 54 (psCells (.mk (1 + (i : Int)) 0 0 []) (.slice none 0 0)) := by rw [← hP1]; exact Blk.new wq 54 (psCells (.mk (1 + (i : Int)) 0 0 []) (.slice none 0 0))
              obtain ⟨R, hR⟩ : ∃ R, P1.alloc (.cells #[.string ⟨#[]⟩, .slice none 0 0, .slice none 0 0, .slice none 0 0, .slice (some ⟨wq.heap.size, 0, none⟩) 1 1] 42) = R := ⟨_, rfl⟩
              have bR : Below P1.heap.size P1 R := by rw [← hR]; exact (Below.refl _ _).alloc (Nat.le_refl _) _
              have kR : Blk R P1.heap.size 42 [.string ⟨#[]⟩, .slice none 0 0, .slice none 0 0, .slice none 0 0, .slice (some ⟨wq.heap.size, 0, none⟩) 1 1] := by rw [← hR]; exact Blk.new P1 42 [.string ⟨#[]⟩, .slice none 0 0, .slice none 0 0, .slice none 0 0, .slice (some ⟨wq.heap.size, 0, none⟩) 1 1]
              have bqR : Below wq.heap.size wq R := below_next bP bR
              have hsz : P1.heap.size = wq.heap.size + 1 := by rw [← hP1, World.size_alloc]
              rw [hsz] at kR
              have HS : Hid (∀ X : World, Below R.heap.size R X → X.cell? ⟨wq.heap.size + 1, 0, none⟩ = some (.string ⟨#[]⟩) ∧ X.cell? ⟨wq.heap.size + 1, 1, none⟩ = some (.slice none 0 0) ∧ X.cell? ⟨wq.heap.size + 1, 2, none⟩ = some (.slice none 0 0) ∧ X.cell? ⟨wq.heap.size + 1, 3, none⟩ = some (.slice none 0 0) ∧ X.cell? ⟨wq.heap.size + 1, 4, none⟩ = some (.slice (some ⟨wq.heap.size, 0, none⟩) 1 1) ∧ X.cell? ⟨w6.heap.size, i, none⟩ = some (.bool wi)) := fun X hX => by
                obtain ⟨⟨y0, y1, y2, y3, y4⟩, _⟩ := blk5 (kR.next hX)
                exact ⟨y0, y1, y2, y3, y4, (cell_row (K9.out.next (below_next (below_next bq bqR) hX)) hcell).1⟩
              have q0 : Below R.heap.size R R.drew := below_drew (Below.refl _ _)
              have hc : Calls Try.prog 11 #[.pointer (some ⟨tb, 0, none⟩), .int .i64 (k : Int), .agg #[.string ⟨#[]⟩, .slice none 0 0, .slice none 0 0, .slice none 0 0, .slice (some ⟨wq.heap.size, 0, none⟩) 1 1]] R.drew fun r w' => r = .returned (.bool wi) ∧ Below R.heap.size R w' := by
                have bD := below_next bR q0
                have q := (HG.out.next (below_next (below_next bwq bqR) q0)).cmp (k : Int) 0 (psCp (.mk (1 + (i : Int)) 0 0 [])) _ _ _ _ (cp_ps (kP.next bD) ⟨rfl, _, _, rfl⟩ (show i64 (1 + (i : Int)) from ⟨by omega, by omega⟩) (show i64 0 from ⟨by decide, by decide⟩) (show i64 0 from ⟨by decide, by decide⟩) (Nat.zero_le _))
                rw [HWANT.out i hi5, hwi] at q
                exact q.mono (fun r w' h => ⟨h.1, below_next q0 h.2⟩)
              have BQ : Hid (∀ X, Below R.heap.size R X → Below W9.heap.size W9 X) := fun X hX => below_next (below_next bq bqR) hX
              obtain ⟨⟨y0, y1, y2, y3, y4⟩, _⟩ := blk5 kR
              clear hwi hcell bP kP bR kR bqR bq bwq
              go_upto_region 16 with fail
              clear y0 y1 y2 y3 y4
              refine Rg.wpD_begin [0, 1, 2, 3, 4, 5, 6, 7] (fun X => X.cell? ⟨wq.heap.size + 1, 0, none⟩ = some (.string ⟨#[]⟩) ∧ X.cell? ⟨wq.heap.size + 1, 1, none⟩ = some (.slice none 0 0) ∧ X.cell? ⟨wq.heap.size + 1, 2, none⟩ = some (.slice none 0 0) ∧ X.cell? ⟨wq.heap.size + 1, 3, none⟩ = some (.slice none 0 0) ∧ X.cell? ⟨wq.heap.size + 1, 4, none⟩ = some (.slice (some ⟨wq.heap.size, 0, none⟩) 1 1) ∧ X.cell? ⟨w6.heap.size, i, none⟩ = some (.bool wi)) (by kernel_rfl) ?_
              have HeldS := HS.out _ q0
              refine Rg.wpD_load 0 (v := ?_) (by simp only [List.getElem?_toArray, List.getElem?_cons_zero]; rfl) (by kernel_rfl) (by kernel_rfl) (by intro _ _ _ h; exact h) HeldS (by rfl) (fun wz hz => ?_) ?_
              rotate_left
              · first | (go_simp; done) | (go_simp; with_reducible rfl)
              simp only [Act.put, List.setIfInBounds_toArray, List.set_cons_succ, List.set_cons_zero]
              refine Rg.wpD_load 1 (v := ?_) (by simp only [List.getElem?_toArray, List.getElem?_cons_succ, List.getElem?_cons_zero]; rfl) (by kernel_rfl) (by kernel_rfl) (by intro _ _ _ h; exact h) HeldS (by rfl) (fun wz hz => ?_) ?_
              rotate_left
              · first | (go_simp; done) | (go_simp; with_reducible rfl)
              simp only [Act.put, List.setIfInBounds_toArray, List.set_cons_succ, List.set_cons_zero]
              refine Rg.wpD_load 2 (v := ?_) (by simp only [List.getElem?_toArray, List.getElem?_cons_succ, List.getElem?_cons_zero]; rfl) (by kernel_rfl) (by kernel_rfl) (by intro _ _ _ h; exact h) HeldS (by rfl) (fun wz hz => ?_) ?_
              rotate_left
              · first | (go_simp; done) | (go_simp; with_reducible rfl)
              simp only [Act.put, List.setIfInBounds_toArray, List.set_cons_succ, List.set_cons_zero]
              refine Rg.wpD_load 4 (v := ?_) (by simp only [List.getElem?_toArray, List.getElem?_cons_succ, List.getElem?_cons_zero]; rfl) (by kernel_rfl) (by kernel_rfl) (by intro _ _ _ h; exact h) HeldS (by rfl) (fun wz hz => ?_) ?_
              rotate_left
              · first | (go_simp; done) | (go_simp; with_reducible rfl)
              simp only [Act.put, List.setIfInBounds_toArray, List.set_cons_succ, List.set_cons_zero]
              refine Rg.wpD_load 5 (v := ?_) (by simp only [List.getElem?_toArray, List.getElem?_cons_succ, List.getElem?_cons_zero]; rfl) (by kernel_rfl) (by kernel_rfl) (by intro _ _ _ h; exact h) HeldS (by rfl) (fun wz hz => ?_) ?_
              rotate_left
              · first | (go_simp; done) | (go_simp; with_reducible rfl)
              simp only [Act.put, List.setIfInBounds_toArray, List.set_cons_succ, List.set_cons_zero]
              refine Rg.wpD_load 6 (v := ?_) (by simp only [List.getElem?_toArray, List.getElem?_cons_succ, List.getElem?_cons_zero]; rfl) (by kernel_rfl) (by kernel_rfl) (by intro _ _ _ h; exact h) HeldS (by rfl) (fun wz hz => ?_) ?_
              rotate_left
              · first | (go_simp; done) | (go_simp; with_reducible rfl)
              simp only [Act.put, List.setIfInBounds_toArray, List.set_cons_succ, List.set_cons_zero]
              refine Rg.wpD_load 7 (v := ?_) (by simp only [List.getElem?_toArray, List.getElem?_cons_succ, List.getElem?_cons_zero]; rfl) (by kernel_rfl) (by kernel_rfl) (by intro _ _ _ h; exact h) HeldS (by rfl) (fun wz hz => ?_) ?_
              rotate_left
              · first | (go_simp; done) | (go_simp; with_reducible rfl)
              simp only [Act.put, List.setIfInBounds_toArray, List.set_cons_succ, List.set_cons_zero]
              refine Rg.wpD_do 3 (by kernel_rfl) (by simp only [List.getElem?_toArray, List.getElem?_cons_succ, List.getElem?_cons_zero]; rfl) (fun K hK => ?_)
              go_simp
              go_at_call 11
              refine Calls.mono hc ?_
              clear hc
              rintro r X ⟨rfl, bX⟩
              have b10 := BQ.out X bX
              refine hK _ _ (fun _ => HS.out _ bX) ?_
              clear hK K HeldS HS q0 BQ bX
              refine Rg.wpD_pure 8 (v := ?_) (by simp only [List.getElem?_toArray, List.getElem?_cons_succ, List.getElem?_cons_zero]; rfl) (by kernel_rfl) (by kernel_rfl) (by intro _ _ _ h; exact h) (by rfl) (fun wz => ?_) ?_
              rotate_left
              · first | (go_simp; done) | (go_simp; with_reducible rfl)
              simp only [Act.put, List.setIfInBounds_toArray, List.set_cons_succ, List.set_cons_zero]
              refine Rg.wpD_done (by kernel_rfl) ?_
              go_wp2
              exact ⟨⟨i + 1, by go_num, by omega, b10⟩, by simp [intOf]; omega⟩
            · have hii : ¬ (i : Int) < 5 := by omega
              go_wp2
              exact ⟨⟨k + 1, by go_num, by omega, bwq⟩, by simp [intOf]; omega⟩
      · have hki : ¬ (k : Int) < (l.length : Int) := by omega
        have bb := below_next b12 bw
        go_wp2
        go_ret
        exact ⟨rfl, bb⟩


set_option maxRecDepth 100000 in
theorem matchPlaces_lifted (os : Os) (started : os.Started) (H : Type) (enc : TypeId × Value → H) :
    ReturnsInHanded {} Try.checked os 4 .any (Rows.matchPlacesSpec.pre6 enc Try.prog Try.f4 Rows.matchPlacesRow.domain false) (Rows.matchPlacesSpec.post enc Try.prog Try.f4 false true false false) := by
  refine returnsInHanded_of_change_sized (C := Try.checked) ownNone started (by kernel_rfl) Try.func4
    (ChangeSpec.witness6 (enc := enc) (C := Try.checked) false ⟨#[], #[.slice none 0 0], []⟩ 8 (by kernel_rfl) (by kernel_rfl) (by kernel_rfl) (by kernel_rfl)) ?_
  intro W base args ds gs before hval hW _ hsz0 _
  have hW' := hW
  obtain ⟨p, q, hA0, hV, rfl, hfz, hnd⟩ := hW
  have hA : DataW.TrodAll enc Try.prog W 0 (fun _ => true) true Try.f4.params.toList args.toList ds p := hA0
  rw [Try.params4] at hA hval hsz0
  obtain ⟨v0, vs0, d0, ds0, p0, q0, hargs, rfl, rfl, h0, r0⟩ := trodAll_cons hA
  obtain ⟨rfl, rfl, rfl⟩ := trodAll_nil r0
  obtain rfl : args = #[v0] := by cases args; simp_all
  obtain ⟨rfl, rfl⟩ := trodVars_none hV
  have hsz := List.all_eq_true.1 hsz0
  obtain ⟨a0, len0, cap0, rfl⟩ := okWide_slice Try.underlying29 (hval 0 29 v0 rfl rfl)
  have k0 := h0
  have lt0 : ∀ x ∈ p0, x.block < W.heap.size := by obtain ⟨m, hm⟩ := k0; exact DataW.trod_lt m _ _ _ hm
  obtain ⟨z0, w0, y0, u0⟩ := Dm.nodesAt_of_reads k0 (fun n hn => by simpa using hsz n (DataW.weights_mem_each (j := 0) rfl rfl n hn))
  clear hA0
  refine (matchPlaces_walk W _ z0 w0 y0 u0).mono fun e W' ⟨he, bel⟩ => ?_
  subst he
  exact ⟨_, rfl, _, _, _, [], _, [], hW', trodAll_mk1 (shut_bool Try.underlying4 _), (trodAll_cons_mk (Below.trod laidOut (by kernel_rfl) (of_decide_eq_true (by kernel_rfl)) k0 bel lt0) trodAll_mk0), rfl, bel.frame _, fun h => by cases h⟩

theorem matchPlaces_said : Rows.MatchPlacesSaid :=
  OpenClaim.holds_of_wide 4 Try.f4 rfl rfl rfl rfl rfl rfl rfl ⟨rfl, rfl, rfl, rfl, rfl⟩ rfl rfl rfl rfl rfl (by kernel_rfl) Try.func4 (by kernel_rfl)
    (of_decide_eq_true (by kernel_rfl)) (by unfold Func.isWrapper; first | (rw [if_pos (by decide +kernel)]; kernel_rfl) | (rw [if_neg (by decide +kernel)]; exact ⟨rfl, rfl⟩))
    (fun os started H enc _ => matchPlaces_lifted os started H enc)
#print axioms matchPlaces_said


end Go.Proofs.Ytgjfapdnobhkcab
