/- For every five strings: the law tapestrierlaw9.DomNames returns true and leaves its arguments as they were; no condition. -/
import Derived.Test.YtghpllhfgpoidaaDmAlive
import Derived.Test.YtghpllhfgpoidaaDmArgs
import Derived.Test.YtghpllhfgpoidaaRows
namespace Go.Proofs.Ytghpllhfgpoidaa
open Go Go.ChangeShapes Go.WideShapes Go.ChangeAt Go.RowKit Dm
open Go.ChangeMaps (open_string shut_string)

theorem strs_one {w : World} {B : Nat} {s : ByteArray} (h : Blk w B 9 [.string s]) : StrsAt w.heap.size w (.slice (some ⟨B, 0, none⟩) 1 1) [s] :=
  .inr ⟨B, 0, 1, rfl, Nat.le_refl _, by unfold maxLen; omega, h.lt, fun j x hj i u hu => by
    have hj0 : j = 0 := by have := (List.getElem?_eq_some_iff.1 hj).1; simpa using this
    have hi0 : i = 0 := by have := (List.getElem?_eq_some_iff.1 hu).1; simpa [stCells] using this
    subst hj0 hi0
    obtain rfl : s = x := by simpa using hj
    rw [cell_of_block (show w.heap[B]? = _ from h)]
    exact hu⟩
theorem pairs_one {w : World} {B : Nat} {a : ByteArray × ByteArray} (h : Blk w B 47 [.string a.1, .string a.2]) : PairsAt w.heap.size w (.slice (some ⟨B, 0, none⟩) 1 1) [a] :=
  .inr ⟨B, 0, 1, rfl, Nat.le_refl _, by unfold maxLen; omega, h.lt, fun j x hj i u hu => by
    have hj0 : j = 0 := by have := (List.getElem?_eq_some_iff.1 hj).1; simpa using this
    subst hj0
    obtain rfl : a = x := by simpa using hj
    rw [cell_of_block (show w.heap[B]? = _ from h), Nat.zero_mul, Nat.zero_add]
    simpa [paCells] using hu⟩
theorem names_new (n : Nd) (h : n.parent = -1) : newV [n] = .ok [⟨lowN n, 0, 1, []⟩] := by
  show newF [] [n] = _
  unfold newF addV
  simp [h, newF]
theorem one_row {b : Nat} {W : World} {v : Value} {s : ByteArray} (h : StrRow b W v [s]) : ∃ g c, v = .slice (some ⟨g, 0, none⟩) 1 c ∧ 1 ≤ c ∧ c ≤ 9223372036854775807 ∧ W.cell? ⟨g, 0, none⟩ = some (.string s) := by
  rcases h.2 with ⟨_, h0⟩ | ⟨g, cap, cur, rfl, _, _, h1, h2, _⟩
  · cases h0
  · unfold maxLen at h2
    exact ⟨g, cap, rfl, h1, by omega, by have := World.ownsRow.cellAt h 0 (by simp); simpa using this⟩
theorem one_pair {b : Nat} {W : World} {v : Value} {a : ByteArray × ByteArray} (h : PairRow b W v [a]) : ∃ g c, v = .slice (some ⟨g, 0, none⟩) 1 c ∧ 1 ≤ c ∧ c ≤ 9223372036854775807 ∧ W.cell? ⟨g, 0, none⟩ = some (.string a.1) ∧ W.cell? ⟨g, 1, none⟩ = some (.string a.2) := by
  rcases h.2 with ⟨_, h0⟩ | ⟨g, cap, cur, rfl, _, _, h1, h2, _⟩
  · cases h0
  · unfold maxLen at h2
    refine ⟨g, cap, rfl, h1, by omega, ?_, ?_⟩
    · have := World.ownsRow.cellAt h 0 (by simp); simpa [paCells] using this
    · have := World.ownsRow.cellAt h 1 (by simp); simpa [paCells] using this

set_option maxRecDepth 100000 in
set_option maxHeartbeats 8000000 in
theorem domNames_walk (w : World) (tag : ByteArray) (_h0 : tag.size ≤ 281474976710656) (id : ByteArray) (_h1 : id.size ≤ 281474976710656) (cl : ByteArray) (_h2 : cl.size ≤ 281474976710656) (nm : ByteArray) (_h3 : nm.size ≤ 281474976710656) (tx : ByteArray) (_h4 : tx.size ≤ 281474976710656) :
    Calls Try.prog 7 #[.string tag, .string id, .string cl, .string nm, .string tx] w fun e w' => e = .returned (.bool true) ∧ Below w.heap.size w w' := by
  have h0 := alive_any w
  go_enter Try.func7, Try.ntmps7
  go_wp2_with fail
  refine h0.mono ?_
  clear h0
  rintro e w1 ⟨rfl, bb1⟩
  have out : ∀ (C : Prop), (100 < tag.size → C) → (tag.size ≤ 100 → 100 < id.size → C) → (tag.size ≤ 100 → id.size ≤ 100 → 100 < cl.size → C) → (tag.size ≤ 100 → id.size ≤ 100 → cl.size ≤ 100 → 100 < nm.size → C) → (tag.size ≤ 100 → id.size ≤ 100 → cl.size ≤ 100 → nm.size ≤ 100 → 100 < tx.size → C) → (tag.size ≤ 100 → id.size ≤ 100 → cl.size ≤ 100 → nm.size ≤ 100 → tx.size ≤ 100 → C) → C := fun C a b c d e f => by
    by_cases g1 : 100 < tag.size
    · exact a g1
    by_cases g2 : 100 < id.size
    · exact b (by omega) g2
    by_cases g3 : 100 < cl.size
    · exact c (by omega) (by omega) g3
    by_cases g4 : 100 < nm.size
    · exact d (by omega) (by omega) (by omega) g4
    by_cases g5 : 100 < tx.size
    · exact e (by omega) (by omega) (by omega) (by omega) g5
    exact f (by omega) (by omega) (by omega) (by omega) (by omega)
  refine out _ ?_ ?_ ?_ ?_ ?_ ?_ <;> clear out <;> intros
  iterate 5
    · go_wp2
      go_ret
      exact ⟨rfl, bb1⟩
  rename_i g1 g2 g3 g4 g5
  have ba : Below w1.heap.size w1 (w1.alloc (.cells #[.string cl] 9)) := (Below.refl _ _).alloc (Nat.le_refl _) _
  have ka : Blk (w1.alloc (.cells #[.string cl] 9)) w1.heap.size 9 [.string cl] := Blk.new w1 9 [.string cl]
  have hsa : (w1.alloc (.cells #[.string cl] 9)).heap.size = w1.heap.size + 1 := World.size_alloc _ _
  have bb : Below (w1.alloc (.cells #[.string cl] 9)).heap.size (w1.alloc (.cells #[.string cl] 9)) ((w1.alloc (.cells #[.string cl] 9)).alloc (.cells #[.string nm, .string tx] 47)) := (Below.refl _ _).alloc (Nat.le_refl _) _
  have kb : Blk ((w1.alloc (.cells #[.string cl] 9)).alloc (.cells #[.string nm, .string tx] 47)) (w1.heap.size + 1) 47 [.string nm, .string tx] := by rw [← hsa]; exact Blk.new _ 47 [.string nm, .string tx]
  have hsb : ((w1.alloc (.cells #[.string cl] 9)).alloc (.cells #[.string nm, .string tx] 47)).heap.size = w1.heap.size + 2 := by rw [World.size_alloc, hsa]
  have bc : Below ((w1.alloc (.cells #[.string cl] 9)).alloc (.cells #[.string nm, .string tx] 47)).heap.size ((w1.alloc (.cells #[.string cl] 9)).alloc (.cells #[.string nm, .string tx] 47)) (((w1.alloc (.cells #[.string cl] 9)).alloc (.cells #[.string nm, .string tx] 47)).alloc (.cells #[.int .i64 (-1), .string tag, .string id, .slice (some ⟨w1.heap.size, 0, none⟩) 1 1, .slice (some ⟨w1.heap.size + 1, 0, none⟩) 1 1] 41)) := (Below.refl _ _).alloc (Nat.le_refl _) _
  have kc : Blk (((w1.alloc (.cells #[.string cl] 9)).alloc (.cells #[.string nm, .string tx] 47)).alloc (.cells #[.int .i64 (-1), .string tag, .string id, .slice (some ⟨w1.heap.size, 0, none⟩) 1 1, .slice (some ⟨w1.heap.size + 1, 0, none⟩) 1 1] 41)) (w1.heap.size + 2) 41 [.int .i64 (-1), .string tag, .string id, .slice (some ⟨w1.heap.size, 0, none⟩) 1 1, .slice (some ⟨w1.heap.size + 1, 0, none⟩) 1 1] := by rw [← hsb]; exact Blk.new _ 41 [.int .i64 (-1), .string tag, .string id, .slice (some ⟨w1.heap.size, 0, none⟩) 1 1, .slice (some ⟨w1.heap.size + 1, 0, none⟩) 1 1]
  have ka3 := (ka.next bb).next bc
  have kb3 := kb.next bc
  have b3 := below_next (below_next (below_next bb1 ba) bb) bc
  clear ka kb ba bb bc hsa hsb
  go_wp2_with fail
  generalize ((w1.alloc (.cells #[.string cl] 9)).alloc (.cells #[.string nm, .string tx] 47)).alloc (.cells #[.int .i64 (-1), .string tag, .string id, .slice (some ⟨w1.heap.size, 0, none⟩) 1 1, .slice (some ⟨w1.heap.size + 1, 0, none⟩) 1 1] 41) = W3 at *
  have hN : NdOk ⟨-1, tag, id, [cl], [(nm, tx)]⟩ := ⟨by simp only; omega, by simp only; omega, fun s hs => by obtain rfl := List.mem_singleton.1 hs; omega, fun a ha => by obtain rfl := List.mem_singleton.1 ha; exact ⟨by simp only; omega, by simp only; omega⟩, by simp, by simp⟩
  have hn := new_any (.slice (some ⟨w1.heap.size + 2, 0, none⟩) 1 1) [⟨⟨-1, tag, id, [cl], [(nm, tx)]⟩, .slice (some ⟨w1.heap.size, 0, none⟩) 1 1, .slice (some ⟨w1.heap.size + 1, 0, none⟩) 1 1⟩] W3
    (nodes_new (l := [⟨⟨-1, tag, id, [cl], [(nm, tx)]⟩, .slice (some ⟨w1.heap.size, 0, none⟩) 1 1, .slice (some ⟨w1.heap.size + 1, 0, none⟩) 1 1⟩]) kc (by simp) (fun n h => by obtain rfl := List.mem_singleton.1 h; exact strs_one ka3) (fun n h => by obtain rfl := List.mem_singleton.1 h; exact pairs_one (a := (nm, tx)) kb3))
    (fun n h => by obtain rfl := List.mem_singleton.1 h; exact hN)
  refine hn.mono ?_
  clear hn
  rintro e w4 ⟨hm, b4⟩
  unfold Made at hm
  rw [show ([⟨⟨-1, tag, id, [cl], [(nm, tx)]⟩, .slice (some ⟨w1.heap.size, 0, none⟩) 1 1, .slice (some ⟨w1.heap.size + 1, 0, none⟩) 1 1⟩] : List Nv).map Nv.nd = [⟨-1, tag, id, [cl], [(nm, tx)]⟩] from rfl, names_new _ rfl] at hm
  rcases hm with ⟨tb, g, cap, qs, hV, rfl, hT⟩ | ⟨x, hV, _⟩
  · have hV' : qs.map Em.e = [⟨lowN ⟨-1, tag, id, [cl], [(nm, tx)]⟩, 0, 1, []⟩] := (Except.ok.inj hV).symm
    have h5 := num_any 0 w4
    have h6 := node_any _ tb g cap qs 0 w4 hT (fun q hq => by
      have hm : q.e ∈ qs.map Em.e := List.mem_map.2 ⟨q, hq, rfl⟩
      rw [hV'] at hm
      rw [List.mem_singleton.1 hm]
      exact ⟨by show (lowS tag).size ≤ _; rw [lowS_size]; omega, by show id.size ≤ _; omega, hN.cls, fun a ha => by
        obtain rfl : a = lowA (nm, tx) := List.mem_singleton.1 ha
        exact ⟨by show (lowS nm).size ≤ _; rw [lowS_size]; omega, by show tx.size ≤ _; omega⟩, by show [cl].length * 16 ≤ _; simp, by show [lowA (nm, tx)].length * 32 ≤ _; simp⟩)
    have hnd : nodeV (qs.map Em.e) 0 = ⟨-1, lowS tag, id, [cl], [(lowS nm, tx)]⟩ := by rw [hV']; rfl
    rw [hnd] at h6
    unfold Noded ndVal at h6
    have b34 := below_next b3 b4
    clear hV hV' hnd hT hN kc ka3 kb3 b3 b4
    go_wp2_with fail
    refine h5.mono ?_
    clear h5
    rintro e w4' ⟨rfl, rfl⟩
    go_wp2_with fail
    refine h6.mono ?_
    clear h6
    rintro e w5 ⟨cv, av, rfl, hc, ha, b5⟩
    have bN : Below w5.heap.size w5 (w5.alloc (.cells #[.int .i64 (-1), .string (lowS tag), .string id, cv, av] 41)) := (Below.refl _ _).alloc (Nat.le_refl _) _
    have kN : Blk (w5.alloc (.cells #[.int .i64 (-1), .string (lowS tag), .string id, cv, av] 41)) w5.heap.size 41 [.int .i64 (-1), .string (lowS tag), .string id, cv, av] := Blk.new w5 41 [.int .i64 (-1), .string (lowS tag), .string id, cv, av]
    have hcN := hc.next bN
    have haN := ha.next bN
    obtain ⟨gc, cc, rfl, hcc1, hcc2, _⟩ := one_row hc
    obtain ⟨ga, ca, rfl, hca1, hca2, _⟩ := one_pair ha
    have b5N := below_next (below_next b34 b5) bN
    clear b5 bN b34 hc ha
    go_upto_region 8 with fail
    generalize w5.alloc (.cells #[.int .i64 (-1), .string (lowS tag), .string id, .slice (some ⟨gc, 0, none⟩) 1 cc, .slice (some ⟨ga, 0, none⟩) 1 ca] 41) = W6 at *
    generalize w5.heap.size = B at *
    have HS : Hid (∀ X : World, Below W6.heap.size W6 X → X.cell? ⟨B, 1, none⟩ = some (.string (lowS tag)) ∧ X.cell? ⟨B, 2, none⟩ = some (.string id) ∧ X.cell? ⟨B, 3, none⟩ = some (.slice (some ⟨gc, 0, none⟩) 1 cc) ∧ X.cell? ⟨B, 4, none⟩ = some (.slice (some ⟨ga, 0, none⟩) 1 ca) ∧ X.cell? ⟨gc, 0, none⟩ = some (.string cl) ∧ X.cell? ⟨ga, 0, none⟩ = some (.string (lowS nm)) ∧ X.cell? ⟨ga, 1, none⟩ = some (.string tx)) := fun X hX => by
      obtain ⟨⟨_, e1, e2, e3, e4⟩, _⟩ := blk5 (kN.next hX)
      obtain ⟨g1, c1, h1, _, _, d1⟩ := one_row (hcN.next hX)
      obtain ⟨g2, c2, h2, _, _, d2, d3⟩ := one_pair (haN.next hX)
      cases h1
      cases h2
      exact ⟨e1, e2, e3, e4, d1, d2, d3⟩
    clear kN hcN haN
    refine Rg.wpD_begin [0, 1, 2, 3, 4, 5, 6, 7, 8, 9, 10, 11, 12, 13, 14, 15, 16, 17, 18, 19, 20, 21, 22, 23, 24, 25, 26, 27, 28, 29, 30, 31, 32, 33, 34, 35, 36, 37, 38, 39, 40, 41, 42] (fun X => X.cell? ⟨B, 1, none⟩ = some (.string (lowS tag)) ∧ X.cell? ⟨B, 2, none⟩ = some (.string id) ∧ X.cell? ⟨B, 3, none⟩ = some (.slice (some ⟨gc, 0, none⟩) 1 cc) ∧ X.cell? ⟨B, 4, none⟩ = some (.slice (some ⟨ga, 0, none⟩) 1 ca) ∧ X.cell? ⟨gc, 0, none⟩ = some (.string cl) ∧ X.cell? ⟨ga, 0, none⟩ = some (.string (lowS nm)) ∧ X.cell? ⟨ga, 1, none⟩ = some (.string tx)) (by kernel_rfl) ?_
    have q0 : Below W6.heap.size W6 W6.drew := below_drew (Below.refl _ _)
    have HeldS := HS.out _ q0
    refine Rg.wpD_load 0 (v := ?_) (by simp only [List.getElem?_toArray, List.getElem?_cons_zero]; rfl) (by kernel_rfl) (by kernel_rfl) (by intro _ _ _ h; exact h) HeldS (by rfl) (fun wz hz => ?_) ?_
    rotate_left
    · first | (go_simp; done) | (go_simp; with_reducible rfl)
    simp only [Act.put, List.setIfInBounds_toArray, List.set_cons_succ, List.set_cons_zero]
    refine Rg.wpD_load 1 (v := ?_) (by simp only [List.getElem?_toArray, List.getElem?_cons_succ, List.getElem?_cons_zero]; rfl) (by kernel_rfl) (by kernel_rfl) (by intro _ _ _ h; exact h) HeldS (by rfl) (fun wz hz => ?_) ?_
    rotate_left
    · first | (go_simp; done) | (go_simp; with_reducible rfl)
    simp only [Act.put, List.setIfInBounds_toArray, List.set_cons_succ, List.set_cons_zero]
    refine Rg.wpD_load 2 (v := ?_) (by simp only [List.getElem?_toArray, List.getElem?_cons_succ, List.getElem?_cons_zero]; rfl) (by kernel_rfl) (by kernel_rfl) (by intro _ _ _ h; exact h) HeldS (by rfl) (fun wz hz => ?_) ?_
    rotate_left
    · first | (go_simp; done) | (go_simp; with_reducible rfl)
    simp only [Act.put, List.setIfInBounds_toArray, List.set_cons_succ, List.set_cons_zero]
    refine Rg.wpD_do 3 (by kernel_rfl) (by simp only [List.getElem?_toArray, List.getElem?_cons_succ, List.getElem?_cons_zero]; rfl) (fun K hK => ?_)
    go_simp
    go_at_call 31
    refine Calls.mono (refLow_any W6.drew tag (by omega)) ?_
    rintro e wN ⟨rfl, bN⟩
    have qN : Below W6.heap.size W6 wN := below_next q0 bN
    refine hK _ _ (fun _ => HS.out _ qN) ?_
    clear HeldS hK K bN
    have HeldS := HS.out _ qN
    refine Rg.wpD_load 4 (v := ?_) (by simp only [List.getElem?_toArray, List.getElem?_cons_succ, List.getElem?_cons_zero]; rfl) (by kernel_rfl) (by kernel_rfl) (by intro _ _ _ h; exact h) HeldS (by rfl) (fun wz hz => ?_) ?_
    rotate_left
    · first | (go_simp; done) | (go_simp; with_reducible rfl)
    simp only [Act.put, List.setIfInBounds_toArray, List.set_cons_succ, List.set_cons_zero]
    refine Rg.wpD_load 5 (v := ?_) (by simp only [List.getElem?_toArray, List.getElem?_cons_succ, List.getElem?_cons_zero]; rfl) (by kernel_rfl) (by kernel_rfl) (by intro _ _ _ h; exact h) HeldS (by rfl) (fun wz hz => ?_) ?_
    rotate_left
    · first | (go_simp; done) | (go_simp; with_reducible rfl)
    simp only [Act.put, List.setIfInBounds_toArray, List.set_cons_succ, List.set_cons_zero]
    refine Rg.wpD_load 6 (v := ?_) (by simp only [List.getElem?_toArray, List.getElem?_cons_succ, List.getElem?_cons_zero]; rfl) (by kernel_rfl) (by kernel_rfl) (by intro _ _ _ h; exact h) HeldS (by rfl) (fun wz hz => ?_) ?_
    rotate_left
    · first | (go_simp; done) | (go_simp; with_reducible rfl)
    simp only [Act.put, List.setIfInBounds_toArray, List.set_cons_succ, List.set_cons_zero]
    refine Rg.wpD_load 7 (v := ?_) (by simp only [List.getElem?_toArray, List.getElem?_cons_succ, List.getElem?_cons_zero]; rfl) (by kernel_rfl) (by kernel_rfl) (by intro _ _ _ h; exact h) HeldS (by rfl) (fun wz hz => ?_) ?_
    rotate_left
    · first | (go_simp; done) | (go_simp; with_reducible rfl)
    simp only [Act.put, List.setIfInBounds_toArray, List.set_cons_succ, List.set_cons_zero]
    refine Rg.wpD_load 8 (v := ?_) (by simp only [List.getElem?_toArray, List.getElem?_cons_succ, List.getElem?_cons_zero]; rfl) (by kernel_rfl) (by kernel_rfl) (by intro _ _ _ h; exact h) HeldS (by rfl) (fun wz hz => ?_) ?_
    rotate_left
    · first | (go_simp; done) | (go_simp; with_reducible rfl)
    simp only [Act.put, List.setIfInBounds_toArray, List.set_cons_succ, List.set_cons_zero]
    refine Rg.wpD_load 9 (v := ?_) (by simp only [List.getElem?_toArray, List.getElem?_cons_succ, List.getElem?_cons_zero]; rfl) (by kernel_rfl) (by kernel_rfl) (by intro _ _ _ h; exact h) HeldS (by rfl) (fun wz hz => ?_) ?_
    rotate_left
    · first | (go_simp; done) | (go_simp; with_reducible rfl)
    simp only [Act.put, List.setIfInBounds_toArray, List.set_cons_succ, List.set_cons_zero]
    refine Rg.wpD_load 10 (v := ?_) (by simp only [List.getElem?_toArray, List.getElem?_cons_succ, List.getElem?_cons_zero]; rfl) (by kernel_rfl) (by kernel_rfl) (by intro _ _ _ h; exact h) HeldS (by rfl) (fun wz hz => ?_) ?_
    rotate_left
    · first | (go_simp; done) | (go_simp; with_reducible rfl)
    simp only [Act.put, List.setIfInBounds_toArray, List.set_cons_succ, List.set_cons_zero]
    refine Rg.wpD_load 11 (v := ?_) (by simp only [List.getElem?_toArray, List.getElem?_cons_succ, List.getElem?_cons_zero]; rfl) (by kernel_rfl) (by kernel_rfl) (by intro _ _ _ h; exact h) HeldS (by rfl) (fun wz hz => ?_) ?_
    rotate_left
    · first | (go_simp; done) | (go_simp; with_reducible rfl)
    simp only [Act.put, List.setIfInBounds_toArray, List.set_cons_succ, List.set_cons_zero]
    refine Rg.wpD_load 12 (v := ?_) (by simp only [List.getElem?_toArray, List.getElem?_cons_succ, List.getElem?_cons_zero]; rfl) (by kernel_rfl) (by kernel_rfl) (by intro _ _ _ h; exact h) HeldS (by rfl) (fun wz hz => ?_) ?_
    rotate_left
    · first | (go_simp; done) | (go_simp; with_reducible rfl)
    simp only [Act.put, List.setIfInBounds_toArray, List.set_cons_succ, List.set_cons_zero]
    refine Rg.wpD_load 13 (v := ?_) (by simp only [List.getElem?_toArray, List.getElem?_cons_succ, List.getElem?_cons_zero]; rfl) (by kernel_rfl) (by kernel_rfl) (by intro _ _ _ h; exact h) HeldS (by rfl) (fun wz hz => ?_) ?_
    rotate_left
    · first | (go_simp; done) | (go_simp; with_reducible rfl)
    simp only [Act.put, List.setIfInBounds_toArray, List.set_cons_succ, List.set_cons_zero]
    refine Rg.wpD_load 14 (v := ?_) (by simp only [List.getElem?_toArray, List.getElem?_cons_succ, List.getElem?_cons_zero]; rfl) (by kernel_rfl) (by kernel_rfl) (by intro _ _ _ h; exact h) HeldS (by rfl) (fun wz hz => ?_) ?_
    rotate_left
    · first | (go_simp; done) | (go_simp; with_reducible rfl)
    simp only [Act.put, List.setIfInBounds_toArray, List.set_cons_succ, List.set_cons_zero]
    refine Rg.wpD_load 15 (v := ?_) (by simp only [List.getElem?_toArray, List.getElem?_cons_succ, List.getElem?_cons_zero]; rfl) (by kernel_rfl) (by kernel_rfl) (by intro _ _ _ h; exact h) HeldS (by rfl) (fun wz hz => ?_) ?_
    rotate_left
    · first | (go_simp; done) | (go_simp; with_reducible rfl)
    simp only [Act.put, List.setIfInBounds_toArray, List.set_cons_succ, List.set_cons_zero]
    refine Rg.wpD_load 16 (v := ?_) (by simp only [List.getElem?_toArray, List.getElem?_cons_succ, List.getElem?_cons_zero]; rfl) (by kernel_rfl) (by kernel_rfl) (by intro _ _ _ h; exact h) HeldS (by rfl) (fun wz hz => ?_) ?_
    rotate_left
    · first | (go_simp; done) | (go_simp; with_reducible rfl)
    simp only [Act.put, List.setIfInBounds_toArray, List.set_cons_succ, List.set_cons_zero]
    refine Rg.wpD_load 17 (v := ?_) (by simp only [List.getElem?_toArray, List.getElem?_cons_succ, List.getElem?_cons_zero]; rfl) (by kernel_rfl) (by kernel_rfl) (by intro _ _ _ h; exact h) HeldS (by rfl) (fun wz hz => ?_) ?_
    rotate_left
    · first | (go_simp; done) | (go_simp; with_reducible rfl)
    simp only [Act.put, List.setIfInBounds_toArray, List.set_cons_succ, List.set_cons_zero]
    refine Rg.wpD_load 18 (v := ?_) (by simp only [List.getElem?_toArray, List.getElem?_cons_succ, List.getElem?_cons_zero]; rfl) (by kernel_rfl) (by kernel_rfl) (by intro _ _ _ h; exact h) HeldS (by rfl) (fun wz hz => ?_) ?_
    rotate_left
    · first | (go_simp; done) | (go_simp; with_reducible rfl)
    simp only [Act.put, List.setIfInBounds_toArray, List.set_cons_succ, List.set_cons_zero]
    refine Rg.wpD_load 19 (v := ?_) (by simp only [List.getElem?_toArray, List.getElem?_cons_succ, List.getElem?_cons_zero]; rfl) (by kernel_rfl) (by kernel_rfl) (by intro _ _ _ h; exact h) HeldS (by rfl) (fun wz hz => ?_) ?_
    rotate_left
    · first | (go_simp; done) | (go_simp; with_reducible rfl)
    simp only [Act.put, List.setIfInBounds_toArray, List.set_cons_succ, List.set_cons_zero]
    refine Rg.wpD_load 20 (v := ?_) (by simp only [List.getElem?_toArray, List.getElem?_cons_succ, List.getElem?_cons_zero]; rfl) (by kernel_rfl) (by kernel_rfl) (by intro _ _ _ h; exact h) HeldS (by rfl) (fun wz hz => ?_) ?_
    rotate_left
    · first | (go_simp; done) | (go_simp; with_reducible rfl)
    simp only [Act.put, List.setIfInBounds_toArray, List.set_cons_succ, List.set_cons_zero]
    refine Rg.wpD_load 21 (v := ?_) (by simp only [List.getElem?_toArray, List.getElem?_cons_succ, List.getElem?_cons_zero]; rfl) (by kernel_rfl) (by kernel_rfl) (by intro _ _ _ h; exact h) HeldS (by rfl) (fun wz hz => ?_) ?_
    rotate_left
    · first | (go_simp; done) | (go_simp; with_reducible rfl)
    simp only [Act.put, List.setIfInBounds_toArray, List.set_cons_succ, List.set_cons_zero]
    refine Rg.wpD_load 22 (v := ?_) (by simp only [List.getElem?_toArray, List.getElem?_cons_succ, List.getElem?_cons_zero]; rfl) (by kernel_rfl) (by kernel_rfl) (by intro _ _ _ h; exact h) HeldS (by rfl) (fun wz hz => ?_) ?_
    rotate_left
    · first | (go_simp; done) | (go_simp; with_reducible rfl)
    simp only [Act.put, List.setIfInBounds_toArray, List.set_cons_succ, List.set_cons_zero]
    refine Rg.wpD_load 23 (v := ?_) (by simp only [List.getElem?_toArray, List.getElem?_cons_succ, List.getElem?_cons_zero]; rfl) (by kernel_rfl) (by kernel_rfl) (by intro _ _ _ h; exact h) HeldS (by rfl) (fun wz hz => ?_) ?_
    rotate_left
    · first | (go_simp; done) | (go_simp; with_reducible rfl)
    simp only [Act.put, List.setIfInBounds_toArray, List.set_cons_succ, List.set_cons_zero]
    refine Rg.wpD_load 24 (v := ?_) (by simp only [List.getElem?_toArray, List.getElem?_cons_succ, List.getElem?_cons_zero]; rfl) (by kernel_rfl) (by kernel_rfl) (by intro _ _ _ h; exact h) HeldS (by rfl) (fun wz hz => ?_) ?_
    rotate_left
    · first | (go_simp; done) | (go_simp; with_reducible rfl)
    simp only [Act.put, List.setIfInBounds_toArray, List.set_cons_succ, List.set_cons_zero]
    refine Rg.wpD_load 25 (v := ?_) (by simp only [List.getElem?_toArray, List.getElem?_cons_succ, List.getElem?_cons_zero]; rfl) (by kernel_rfl) (by kernel_rfl) (by intro _ _ _ h; exact h) HeldS (by rfl) (fun wz hz => ?_) ?_
    rotate_left
    · first | (go_simp; done) | (go_simp; with_reducible rfl)
    simp only [Act.put, List.setIfInBounds_toArray, List.set_cons_succ, List.set_cons_zero]
    refine Rg.wpD_load 26 (v := ?_) (by simp only [List.getElem?_toArray, List.getElem?_cons_succ, List.getElem?_cons_zero]; rfl) (by kernel_rfl) (by kernel_rfl) (by intro _ _ _ h; exact h) HeldS (by rfl) (fun wz hz => ?_) ?_
    rotate_left
    · first | (go_simp; done) | (go_simp; with_reducible rfl)
    simp only [Act.put, List.setIfInBounds_toArray, List.set_cons_succ, List.set_cons_zero]
    refine Rg.wpD_load 27 (v := ?_) (by simp only [List.getElem?_toArray, List.getElem?_cons_succ, List.getElem?_cons_zero]; rfl) (by kernel_rfl) (by kernel_rfl) (by intro _ _ _ h; exact h) HeldS (by rfl) (fun wz hz => ?_) ?_
    rotate_left
    · first | (go_simp; done) | (go_simp; with_reducible rfl)
    simp only [Act.put, List.setIfInBounds_toArray, List.set_cons_succ, List.set_cons_zero]
    refine Rg.wpD_load 28 (v := ?_) (by simp only [List.getElem?_toArray, List.getElem?_cons_succ, List.getElem?_cons_zero]; rfl) (by kernel_rfl) (by kernel_rfl) (by intro _ _ _ h; exact h) HeldS (by rfl) (fun wz hz => ?_) ?_
    rotate_left
    · first | (go_simp; done) | (go_simp; with_reducible rfl)
    simp only [Act.put, List.setIfInBounds_toArray, List.set_cons_succ, List.set_cons_zero]
    refine Rg.wpD_load 29 (v := ?_) (by simp only [List.getElem?_toArray, List.getElem?_cons_succ, List.getElem?_cons_zero]; rfl) (by kernel_rfl) (by kernel_rfl) (by intro _ _ _ h; exact h) HeldS (by rfl) (fun wz hz => ?_) ?_
    rotate_left
    · first | (go_simp; done) | (go_simp; with_reducible rfl)
    simp only [Act.put, List.setIfInBounds_toArray, List.set_cons_succ, List.set_cons_zero]
    refine Rg.wpD_load 30 (v := ?_) (by simp only [List.getElem?_toArray, List.getElem?_cons_succ, List.getElem?_cons_zero]; rfl) (by kernel_rfl) (by kernel_rfl) (by intro _ _ _ h; exact h) HeldS (by rfl) (fun wz hz => ?_) ?_
    rotate_left
    · first | (go_simp; done) | (go_simp; with_reducible rfl)
    simp only [Act.put, List.setIfInBounds_toArray, List.set_cons_succ, List.set_cons_zero]
    refine Rg.wpD_load 31 (v := ?_) (by simp only [List.getElem?_toArray, List.getElem?_cons_succ, List.getElem?_cons_zero]; rfl) (by kernel_rfl) (by kernel_rfl) (by intro _ _ _ h; exact h) HeldS (by rfl) (fun wz hz => ?_) ?_
    rotate_left
    · first | (go_simp; done) | (go_simp; with_reducible rfl)
    simp only [Act.put, List.setIfInBounds_toArray, List.set_cons_succ, List.set_cons_zero]
    refine Rg.wpD_load 32 (v := ?_) (by simp only [List.getElem?_toArray, List.getElem?_cons_succ, List.getElem?_cons_zero]; rfl) (by kernel_rfl) (by kernel_rfl) (by intro _ _ _ h; exact h) HeldS (by rfl) (fun wz hz => ?_) ?_
    rotate_left
    · first | (go_simp; done) | (go_simp; with_reducible rfl)
    simp only [Act.put, List.setIfInBounds_toArray, List.set_cons_succ, List.set_cons_zero]
    refine Rg.wpD_load 33 (v := ?_) (by simp only [List.getElem?_toArray, List.getElem?_cons_succ, List.getElem?_cons_zero]; rfl) (by kernel_rfl) (by kernel_rfl) (by intro _ _ _ h; exact h) HeldS (by rfl) (fun wz hz => ?_) ?_
    rotate_left
    · first | (go_simp; done) | (go_simp; with_reducible rfl)
    simp only [Act.put, List.setIfInBounds_toArray, List.set_cons_succ, List.set_cons_zero]
    refine Rg.wpD_load 34 (v := ?_) (by simp only [List.getElem?_toArray, List.getElem?_cons_succ, List.getElem?_cons_zero]; rfl) (by kernel_rfl) (by kernel_rfl) (by intro _ _ _ h; exact h) HeldS (by rfl) (fun wz hz => ?_) ?_
    rotate_left
    · first | (go_simp; done) | (go_simp; with_reducible rfl)
    simp only [Act.put, List.setIfInBounds_toArray, List.set_cons_succ, List.set_cons_zero]
    refine Rg.wpD_load 35 (v := ?_) (by simp only [List.getElem?_toArray, List.getElem?_cons_succ, List.getElem?_cons_zero]; rfl) (by kernel_rfl) (by kernel_rfl) (by intro _ _ _ h; exact h) HeldS (by rfl) (fun wz hz => ?_) ?_
    rotate_left
    · first | (go_simp; done) | (go_simp; with_reducible rfl)
    simp only [Act.put, List.setIfInBounds_toArray, List.set_cons_succ, List.set_cons_zero]
    refine Rg.wpD_load 36 (v := ?_) (by simp only [List.getElem?_toArray, List.getElem?_cons_succ, List.getElem?_cons_zero]; rfl) (by kernel_rfl) (by kernel_rfl) (by intro _ _ _ h; exact h) HeldS (by rfl) (fun wz hz => ?_) ?_
    rotate_left
    · first | (go_simp; done) | (go_simp; with_reducible rfl)
    simp only [Act.put, List.setIfInBounds_toArray, List.set_cons_succ, List.set_cons_zero]
    refine Rg.wpD_load 38 (v := ?_) (by simp only [List.getElem?_toArray, List.getElem?_cons_succ, List.getElem?_cons_zero]; rfl) (by kernel_rfl) (by kernel_rfl) (by intro _ _ _ h; exact h) HeldS (by rfl) (fun wz hz => ?_) ?_
    rotate_left
    · first | (go_simp; done) | (go_simp; with_reducible rfl)
    simp only [Act.put, List.setIfInBounds_toArray, List.set_cons_succ, List.set_cons_zero]
    refine Rg.wpD_do 37 (by kernel_rfl) (by simp only [List.getElem?_toArray, List.getElem?_cons_succ, List.getElem?_cons_zero]; rfl) (fun K hK => ?_)
    go_simp
    go_at_call 31
    refine Calls.mono (refLow_any wN nm (by omega)) ?_
    rintro e wM ⟨rfl, bM⟩
    have qM : Below W6.heap.size W6 wM := below_next qN bM
    refine hK _ _ (fun _ => HS.out _ qM) ?_
    clear HeldS hK K bM
    have HeldS := HS.out _ qM
    refine Rg.wpD_load 39 (v := ?_) (by simp only [List.getElem?_toArray, List.getElem?_cons_succ, List.getElem?_cons_zero]; rfl) (by kernel_rfl) (by kernel_rfl) (by intro _ _ _ h; exact h) HeldS (by rfl) (fun wz hz => ?_) ?_
    rotate_left
    · first | (go_simp; done) | (go_simp; with_reducible rfl)
    simp only [Act.put, List.setIfInBounds_toArray, List.set_cons_succ, List.set_cons_zero]
    refine Rg.wpD_load 40 (v := ?_) (by simp only [List.getElem?_toArray, List.getElem?_cons_succ, List.getElem?_cons_zero]; rfl) (by kernel_rfl) (by kernel_rfl) (by intro _ _ _ h; exact h) HeldS (by rfl) (fun wz hz => ?_) ?_
    rotate_left
    · first | (go_simp; done) | (go_simp; with_reducible rfl)
    simp only [Act.put, List.setIfInBounds_toArray, List.set_cons_succ, List.set_cons_zero]
    refine Rg.wpD_load 41 (v := ?_) (by simp only [List.getElem?_toArray, List.getElem?_cons_succ, List.getElem?_cons_zero]; rfl) (by kernel_rfl) (by kernel_rfl) (by intro _ _ _ h; exact h) HeldS (by rfl) (fun wz hz => ?_) ?_
    rotate_left
    · first | (go_simp; done) | (go_simp; with_reducible rfl)
    simp only [Act.put, List.setIfInBounds_toArray, List.set_cons_succ, List.set_cons_zero]
    refine Rg.wpD_load 42 (v := ?_) (by simp only [List.getElem?_toArray, List.getElem?_cons_succ, List.getElem?_cons_zero]; rfl) (by kernel_rfl) (by kernel_rfl) (by intro _ _ _ h; exact h) HeldS (by rfl) (fun wz hz => ?_) ?_
    rotate_left
    · first | (go_simp; done) | (go_simp; with_reducible rfl)
    simp only [Act.put, List.setIfInBounds_toArray, List.set_cons_succ, List.set_cons_zero]
    refine Rg.wpD_done (by kernel_rfl) ?_
    go_wp2
    go_ret
    exact ⟨rfl, below_next b5N qM⟩
  · cases hV


set_option maxRecDepth 100000 in
theorem domNames_lifted (os : Os) (started : os.Started) (H : Type) (enc : TypeId × Value → H) :
    ReturnsInHanded {} Try.checked os 7 .any (Rows.domNamesSpec.pre6 enc Try.prog Try.f7 Rows.domNamesRow.domain false) (Rows.domNamesSpec.post enc Try.prog Try.f7 false true false false) := by
  refine returnsInHanded_of_change_sized (C := Try.checked) ownNone started (by kernel_rfl) Try.func7
    (ChangeSpec.witness6 (enc := enc) (C := Try.checked) false ⟨#[], #[.string ⟨#[]⟩, .string ⟨#[]⟩, .string ⟨#[]⟩, .string ⟨#[]⟩, .string ⟨#[]⟩], []⟩ 8 (by kernel_rfl) (by kernel_rfl) (by kernel_rfl) (by kernel_rfl)) ?_
  intro W base args ds gs before hval hW _ hsz0 _
  have hW' := hW
  obtain ⟨p, q, hA0, hV, rfl, hfz, hnd⟩ := hW
  have hA : DataW.TrodAll enc Try.prog W 0 (fun _ => true) true Try.f7.params.toList args.toList ds p := hA0
  rw [Try.params7] at hA hval hsz0
  obtain ⟨v0, vs0, d0, ds0, p0, q0, hargs, rfl, rfl, h0, r0⟩ := trodAll_cons hA
  obtain ⟨v1, vs1, d1, ds1, p1, q1, rfl, rfl, rfl, h1, r1⟩ := trodAll_cons r0
  obtain ⟨v2, vs2, d2, ds2, p2, q2, rfl, rfl, rfl, h2, r2⟩ := trodAll_cons r1
  obtain ⟨v3, vs3, d3, ds3, p3, q3, rfl, rfl, rfl, h3, r3⟩ := trodAll_cons r2
  obtain ⟨v4, vs4, d4, ds4, p4, q4, rfl, rfl, rfl, h4, r4⟩ := trodAll_cons r3
  obtain ⟨rfl, rfl, rfl⟩ := trodAll_nil r4
  obtain rfl : args = #[v0, v1, v2, v3, v4] := by cases args; simp_all
  obtain ⟨rfl, rfl⟩ := trodVars_none hV
  have hsz := List.all_eq_true.1 hsz0
  obtain ⟨s0, rfl, rfl, rfl, w0⟩ := open_string Try.underlying9 (hval 0 9 v0 rfl rfl) h0
  have y0 : s0.size ≤ 281474976710656 := short_string (by simpa using hsz s0.data.toList.length (DataW.weights_mem_each (j := 0) rfl rfl _ (by simp [DataW.weights])))
  obtain ⟨s1, rfl, rfl, rfl, w1⟩ := open_string Try.underlying9 (hval 1 9 v1 rfl rfl) h1
  have y1 : s1.size ≤ 281474976710656 := short_string (by simpa using hsz s1.data.toList.length (DataW.weights_mem_each (j := 1) rfl rfl _ (by simp [DataW.weights])))
  obtain ⟨s2, rfl, rfl, rfl, w2⟩ := open_string Try.underlying9 (hval 2 9 v2 rfl rfl) h2
  have y2 : s2.size ≤ 281474976710656 := short_string (by simpa using hsz s2.data.toList.length (DataW.weights_mem_each (j := 2) rfl rfl _ (by simp [DataW.weights])))
  obtain ⟨s3, rfl, rfl, rfl, w3⟩ := open_string Try.underlying9 (hval 3 9 v3 rfl rfl) h3
  have y3 : s3.size ≤ 281474976710656 := short_string (by simpa using hsz s3.data.toList.length (DataW.weights_mem_each (j := 3) rfl rfl _ (by simp [DataW.weights])))
  obtain ⟨s4, rfl, rfl, rfl, w4⟩ := open_string Try.underlying9 (hval 4 9 v4 rfl rfl) h4
  have y4 : s4.size ≤ 281474976710656 := short_string (by simpa using hsz s4.data.toList.length (DataW.weights_mem_each (j := 4) rfl rfl _ (by simp [DataW.weights])))
  clear hA0
  refine (domNames_walk W s0 y0 s1 y1 s2 y2 s3 y3 s4 y4).mono fun e W' ⟨he, bel⟩ => ?_
  subst he
  exact ⟨_, rfl, _, _, _, [], _, [], hW', trodAll_mk1 (shut_bool Try.underlying4 _), (trodAll_cons_mk (shut_string Try.underlying9 w0) (trodAll_cons_mk (shut_string Try.underlying9 w1) (trodAll_cons_mk (shut_string Try.underlying9 w2) (trodAll_cons_mk (shut_string Try.underlying9 w3) (trodAll_cons_mk (shut_string Try.underlying9 w4) trodAll_mk0))))), rfl, bel.frame _, fun h => by cases h⟩

theorem domNames_said : Rows.DomNamesSaid :=
  OpenClaim.holds_of_wide 7 Try.f7 rfl rfl rfl rfl rfl rfl rfl ⟨rfl, rfl, rfl, rfl, rfl⟩ rfl rfl rfl rfl rfl (by kernel_rfl) Try.func7 (by kernel_rfl)
    (of_decide_eq_true (by kernel_rfl)) (by unfold Func.isWrapper; first | (rw [if_pos (by decide +kernel)]; kernel_rfl) | (rw [if_neg (by decide +kernel)]; exact ⟨rfl, rfl⟩))
    (fun os started H enc _ => domNames_lifted os started H enc)
#print axioms domNames_said


end Go.Proofs.Ytghpllhfgpoidaa
