/- For every number and every text: the law tapestrierlaw11.WeighKinds returns true and leaves its arguments as they were; no condition. -/
import Derived.Test.YtgjjedodbgimfaaWgB
import Derived.Test.YtgjjedodbgimfaaWgArgs
import Derived.Test.YtgjjedodbgimfaaRows
namespace Go.Proofs.Ytgjjedodbgimfaa
open Go.Proofs.Ytgjjedodbgimfaa.Tre
open Go Go.ChangeShapes Go.WideShapes Go.ChangeAt Go.RowKit Sl Wg
open Go.ChangeMaps (open_string shut_string)

def wantK : List Int := [0, 1, 65536, 256, 256, 256, 0, 0, 256]
def cmpK (s : ByteArray) : List Cp := [.mk ⟨#[]⟩ [] [] [] [], .mk ⟨#[97]⟩ [] [] [] [], .mk ⟨#[]⟩ [s] [] [] [], .mk ⟨#[]⟩ [] [s] [] [], .mk ⟨#[]⟩ [] [] [⟨s, 0, ⟨#[]⟩⟩] [], .mk ⟨#[]⟩ [] [] [] [.mk 2 0 0 []], .mk ⟨#[]⟩ [] [] [] [.mk 7 0 0 []], .mk ⟨#[]⟩ [] [] [] [.mk 8 0 0 []], .mk ⟨#[]⟩ [] [] [] [.mk 99 0 0 []]]
abbrev nilV : Value := .slice none 0 0
abbrev oneV (b : Nat) : Value := .slice (some ⟨b, 0, none⟩) 1 1
def cellK (n : Nat) : List (List Value) := [[.string ⟨#[]⟩, nilV, nilV, nilV, nilV], [.string ⟨#[97]⟩, nilV, nilV, nilV, nilV], [.string ⟨#[]⟩, oneV n, nilV, nilV, nilV], [.string ⟨#[]⟩, nilV, oneV (n + 1), nilV, nilV], [.string ⟨#[]⟩, nilV, nilV, oneV (n + 1 + 1), nilV], [.string ⟨#[]⟩, nilV, nilV, nilV, oneV (n + 1 + 1 + 1)], [.string ⟨#[]⟩, nilV, nilV, nilV, oneV (n + 1 + 1 + 1 + 1)], [.string ⟨#[]⟩, nilV, nilV, nilV, oneV (n + 1 + 1 + 1 + 1 + 1)], [.string ⟨#[]⟩, nilV, nilV, nilV, oneV (n + 1 + 1 + 1 + 1 + 1 + 1)]]
def objsK (s : ByteArray) (n : Nat) : List Obj := [.cells #[.string s] 9, .cells #[.string s] 9, .cells #[.string s, .int .i64 0, .string ⟨#[]⟩] 38, .cells #[.int .i64 2, .int .i64 0, .int .i64 0, nilV] 41, .cells #[.int .i64 7, .int .i64 0, .int .i64 0, nilV] 41, .cells #[.int .i64 8, .int .i64 0, .int .i64 0, nilV] 41, .cells #[.int .i64 99, .int .i64 0, .int .i64 0, nilV] 41,
  .cells #[.string ⟨#[]⟩, nilV, nilV, nilV, nilV, .string ⟨#[97]⟩, nilV, nilV, nilV, nilV, .string ⟨#[]⟩, oneV n, nilV, nilV, nilV, .string ⟨#[]⟩, nilV, oneV (n + 1), nilV, nilV, .string ⟨#[]⟩, nilV, nilV, oneV (n + 1 + 1), nilV, .string ⟨#[]⟩, nilV, nilV, nilV, oneV (n + 1 + 1 + 1), .string ⟨#[]⟩, nilV, nilV, nilV, oneV (n + 1 + 1 + 1 + 1), .string ⟨#[]⟩, nilV, nilV, nilV, oneV (n + 1 + 1 + 1 + 1 + 1), .string ⟨#[]⟩, nilV, nilV, nilV, oneV (n + 1 + 1 + 1 + 1 + 1 + 1)] 30,
  .cells #[.int .i64 0, .int .i64 1, .int .i64 65536, .int .i64 256, .int .i64 256, .int .i64 256, .int .i64 0, .int .i64 0, .int .i64 256] 3]
set_option maxRecDepth 100000 in
theorem kindK (s : ByteArray) : ∀ (k : Nat) (c : Cp) (z : Int), (cmpK s)[k]? = some c → wantK[k]? = some z → (ofV [(0, c)] : Int) = z := by
  intro k c z hc hz
  match k, hc, hz with
  | 0, hc, hz => cases hc; cases hz; rfl
  | 1, hc, hz => cases hc; cases hz; rfl
  | 2, hc, hz => cases hc; cases hz; rfl
  | 3, hc, hz => cases hc; cases hz; rfl
  | 4, hc, hz => cases hc; cases hz; rfl
  | 5, hc, hz => cases hc; cases hz; rfl
  | 6, hc, hz => cases hc; cases hz; rfl
  | 7, hc, hz => cases hc; cases hz; rfl
  | 8, hc, hz => cases hc; cases hz; rfl
  | k + 9, hc, hz => simp [cmpK] at hc
theorem cellsK (s : ByteArray) (w : World) : ∀ (k : Nat) (c : Cp) (cs : List Value), (cmpK s)[k]? = some c → (cellK w.heap.size)[k]? = some cs → cs.length = 5 ∧ CpC (SelsR 8 (lays w (objsK s w.heap.size)).heap.size (lays w (objsK s w.heap.size))) (lays w (objsK s w.heap.size)).heap.size (lays w (objsK s w.heap.size)) cs c := by
  intro k c cs hc hz
  have L := lays_at (objsK s w.heap.size) w
  have r0 := L 0 _ rfl
  have r1 := L 1 _ rfl
  have r2 := L 2 _ rfl
  have r3 := L 3 _ rfl
  have r4 := L 4 _ rfl
  have r5 := L 5 _ rfl
  have r6 := L 6 _ rfl
  generalize lays w (objsK s w.heap.size) = W at *
  have nl : ∀ {α : Type} (sz : Nat) (T : List Value → α → Prop), RowT sz T W.heap.size W nilV [] := fun sz T => row_nil sz T _ _
  match k, hc, hz with
  | 0, hc, hz => cases hc; cases hz; exact ⟨rfl, _, _, _, _, rfl, nl _ _, nl _ _, nl _ _, nl _ _⟩
  | 1, hc, hz => cases hc; cases hz; exact ⟨rfl, _, _, _, _, rfl, nl _ _, nl _ _, nl _ _, nl _ _⟩
  | 2, hc, hz => cases hc; cases hz; exact ⟨rfl, _, _, _, _, rfl, row_one (cs := [.string s]) r0 rfl rfl, nl _ _, nl _ _, nl _ _⟩
  | 3, hc, hz => cases hc; cases hz; exact ⟨rfl, _, _, _, _, rfl, nl _ _, row_one (cs := [.string s]) r1 rfl rfl, nl _ _, nl _ _⟩
  | 4, hc, hz => cases hc; cases hz; exact ⟨rfl, _, _, _, _, rfl, nl _ _, nl _ _, row_one (cs := [.string s, .int .i64 0, .string ⟨#[]⟩]) r2 rfl rfl, nl _ _⟩
  | 5, hc, hz => cases hc; cases hz; exact ⟨rfl, _, _, _, _, rfl, nl _ _, nl _ _, nl _ _, row_one (cs := [.int .i64 2, .int .i64 0, .int .i64 0, nilV]) r3 rfl ⟨_, rfl, SelsR.nil _ _ _⟩⟩
  | 6, hc, hz => cases hc; cases hz; exact ⟨rfl, _, _, _, _, rfl, nl _ _, nl _ _, nl _ _, row_one (cs := [.int .i64 7, .int .i64 0, .int .i64 0, nilV]) r4 rfl ⟨_, rfl, SelsR.nil _ _ _⟩⟩
  | 7, hc, hz => cases hc; cases hz; exact ⟨rfl, _, _, _, _, rfl, nl _ _, nl _ _, nl _ _, row_one (cs := [.int .i64 8, .int .i64 0, .int .i64 0, nilV]) r5 rfl ⟨_, rfl, SelsR.nil _ _ _⟩⟩
  | 8, hc, hz => cases hc; cases hz; exact ⟨rfl, _, _, _, _, rfl, nl _ _, nl _ _, nl _ _, row_one (cs := [.int .i64 99, .int .i64 0, .int .i64 0, nilV]) r6 rfl ⟨_, rfl, SelsR.nil _ _ _⟩⟩
  | k + 9, hc, hz => simp [cmpK] at hc
theorem rowK (s : ByteArray) (w : World) : ∀ (k : Nat) (cs : List Value) (z : Int), (cellK w.heap.size)[k]? = some cs → wantK[k]? = some z → ∃ t v1 v2 v3 v4, cs = [.string t, v1, v2, v3, v4] ∧ (∃ p m c, v1 = .slice p m c) ∧ (∃ p m c, v2 = .slice p m c) ∧ (∃ p m c, v3 = .slice p m c) ∧ (∃ p m c, v4 = .slice p m c) ∧
    ((lays w (objsK s w.heap.size)).cell? ⟨w.heap.size + 1 + 1 + 1 + 1 + 1 + 1 + 1, k * 5, none⟩ = some (.string t) ∧ (lays w (objsK s w.heap.size)).cell? ⟨w.heap.size + 1 + 1 + 1 + 1 + 1 + 1 + 1, k * 5 + 1, none⟩ = some v1 ∧ (lays w (objsK s w.heap.size)).cell? ⟨w.heap.size + 1 + 1 + 1 + 1 + 1 + 1 + 1, k * 5 + 2, none⟩ = some v2 ∧ (lays w (objsK s w.heap.size)).cell? ⟨w.heap.size + 1 + 1 + 1 + 1 + 1 + 1 + 1, k * 5 + 3, none⟩ = some v3 ∧ (lays w (objsK s w.heap.size)).cell? ⟨w.heap.size + 1 + 1 + 1 + 1 + 1 + 1 + 1, k * 5 + 4, none⟩ = some v4) ∧
    (lays w (objsK s w.heap.size)).cell? ⟨w.heap.size + 1 + 1 + 1 + 1 + 1 + 1 + 1 + 1, k, none⟩ = some (.int .i64 z) := by
  intro k cs z hc hz
  have r7 : (lays w (objsK s w.heap.size)).heap[w.heap.size + 1 + 1 + 1 + 1 + 1 + 1 + 1]? = _ := lays_at (objsK s w.heap.size) w 7 _ rfl
  have r8 : (lays w (objsK s w.heap.size)).heap[w.heap.size + 1 + 1 + 1 + 1 + 1 + 1 + 1 + 1]? = _ := lays_at (objsK s w.heap.size) w 8 _ rfl
  generalize lays w (objsK s w.heap.size) = W at *
  match k, hc, hz with
  | 0, hc, hz => cases hc; cases hz; exact ⟨_, _, _, _, _, rfl, ⟨_, _, _, rfl⟩, ⟨_, _, _, rfl⟩, ⟨_, _, _, rfl⟩, ⟨_, _, _, rfl⟩, by simp [cell_of_block r7], by simp [cell_of_block r8]⟩
  | 1, hc, hz => cases hc; cases hz; exact ⟨_, _, _, _, _, rfl, ⟨_, _, _, rfl⟩, ⟨_, _, _, rfl⟩, ⟨_, _, _, rfl⟩, ⟨_, _, _, rfl⟩, by simp [cell_of_block r7], by simp [cell_of_block r8]⟩
  | 2, hc, hz => cases hc; cases hz; exact ⟨_, _, _, _, _, rfl, ⟨_, _, _, rfl⟩, ⟨_, _, _, rfl⟩, ⟨_, _, _, rfl⟩, ⟨_, _, _, rfl⟩, by simp [cell_of_block r7], by simp [cell_of_block r8]⟩
  | 3, hc, hz => cases hc; cases hz; exact ⟨_, _, _, _, _, rfl, ⟨_, _, _, rfl⟩, ⟨_, _, _, rfl⟩, ⟨_, _, _, rfl⟩, ⟨_, _, _, rfl⟩, by simp [cell_of_block r7], by simp [cell_of_block r8]⟩
  | 4, hc, hz => cases hc; cases hz; exact ⟨_, _, _, _, _, rfl, ⟨_, _, _, rfl⟩, ⟨_, _, _, rfl⟩, ⟨_, _, _, rfl⟩, ⟨_, _, _, rfl⟩, by simp [cell_of_block r7], by simp [cell_of_block r8]⟩
  | 5, hc, hz => cases hc; cases hz; exact ⟨_, _, _, _, _, rfl, ⟨_, _, _, rfl⟩, ⟨_, _, _, rfl⟩, ⟨_, _, _, rfl⟩, ⟨_, _, _, rfl⟩, by simp [cell_of_block r7], by simp [cell_of_block r8]⟩
  | 6, hc, hz => cases hc; cases hz; exact ⟨_, _, _, _, _, rfl, ⟨_, _, _, rfl⟩, ⟨_, _, _, rfl⟩, ⟨_, _, _, rfl⟩, ⟨_, _, _, rfl⟩, by simp [cell_of_block r7], by simp [cell_of_block r8]⟩
  | 7, hc, hz => cases hc; cases hz; exact ⟨_, _, _, _, _, rfl, ⟨_, _, _, rfl⟩, ⟨_, _, _, rfl⟩, ⟨_, _, _, rfl⟩, ⟨_, _, _, rfl⟩, by simp [cell_of_block r7], by simp [cell_of_block r8]⟩
  | 8, hc, hz => cases hc; cases hz; exact ⟨_, _, _, _, _, rfl, ⟨_, _, _, rfl⟩, ⟨_, _, _, rfl⟩, ⟨_, _, _, rfl⟩, ⟨_, _, _, rfl⟩, by simp [cell_of_block r7], by simp [cell_of_block r8]⟩
  | k + 9, hc, hz => simp [cellK] at hc

theorem lt_of_cell {W : World} {b o : Nat} {v : Value} (h : W.cell? ⟨b, o, none⟩ = some v) : b < W.heap.size := by
  by_cases hb : b < W.heap.size
  · exact hb
  · simp [World.cell?, Array.getElem?_eq_none (Nat.le_of_not_lt hb)] at h

set_option maxRecDepth 100000 in
set_option maxHeartbeats 2000000 in
theorem weighKinds_walk (w : World) (which : Int) (_hwf : (Lit.int .i64 which).wf = true) (s : ByteArray) (_hs : s.size ≤ 281474976710656) :
    Calls Try.prog 4 #[.int .i64 which, .string s] w fun e w' => e = .returned (.bool true) ∧ Below w.heap.size w w' := by
  have h1 := Wg.alive_any w
  go_enter Try.func4, Try.ntmps4
  go_wp2_with fail
  refine h1.mono ?_
  clear h1
  rintro e w1 ⟨rfl, b1⟩
  have bL := lays_below (objsK s w1.heap.size) w1
  have HC : Hid (∀ (k : Nat) (c : Cp) (cs : List Value), _) := cellsK s w1
  have HR : Hid (∀ (k : Nat) (cs : List Value) (z : Int), _) := rowK s w1
  go_upto_region 4 with fail
  change Code.wp _ _ _ _ (lays w1 (objsK s w1.heap.size))
  generalize lays w1 (objsK s w1.heap.size) = W at *
  by_cases h0 : which < 0
  · go_wp2
    go_ret
    exact ⟨rfl, below_next b1 bL⟩
  by_cases h9 : 9 ≤ which
  · go_wp2
    go_ret
    exact ⟨rfl, below_next b1 bL⟩
  obtain ⟨k, rfl⟩ : ∃ k : Nat, which = k := ⟨which.toNat, by omega⟩
  have hk : k < 9 := by omega
  have hki : (k : Int) < 9 := by omega
  obtain ⟨c, hc⟩ : ∃ c, (cmpK s)[k]? = some c := ⟨_, List.getElem?_eq_getElem (by simpa [cmpK] using hk)⟩
  obtain ⟨cs, hcs⟩ : ∃ cs, (cellK w1.heap.size)[k]? = some cs := ⟨_, List.getElem?_eq_getElem (by simpa [cellK] using hk)⟩
  obtain ⟨z, hz⟩ : ∃ z, wantK[k]? = some z := ⟨_, List.getElem?_eq_getElem (by simpa [wantK] using hk)⟩
  have hof := kindK s k c z hc hz
  obtain ⟨hl5, hcp⟩ := (show ∀ (k : Nat) (c : Cp) (cs : List Value), _ from HC) k c cs hc hcs
  obtain ⟨t, v1, v2, v3, v4, rfl, ⟨p1, m1, c1, rfl⟩, ⟨p2, m2, c2, rfl⟩, ⟨p3, m3, c3, rfl⟩, ⟨p4, m4, c4, rfl⟩, ⟨x0, x1, x2, x3, x4⟩, y0⟩ := (show ∀ (k : Nat) (cs : List Value) (z : Int), _ from HR) k cs z hcs hz
  clear HC HR hc hcs hz
  generalize w1.heap.size + 1 + 1 + 1 + 1 + 1 + 1 + 1 + 1 = BW at *
  generalize w1.heap.size + 1 + 1 + 1 + 1 + 1 + 1 + 1 = BL at *
  have q0 : Below W.heap.size W W.drew := below_drew (Below.refl _ _)
  have hcp' := (hcp.below q0 (fun _ _ hq => hq.below 8 q0)).mono q0.size (fun _ _ hq => hq.mono 8 q0.size)
  have hpt := parts_new (comb := 0) rfl hcp' 32
  have hcall := Wg.of_any _ _ _ hpt
  rw [hof] at hcall
  have bA : Below W.drew.heap.size W.drew (W.drew.alloc (.cells #[.int .i64 0, .string t, .slice p1 m1 c1, .slice p2 m2 c2, .slice p3 m3 c3, .slice p4 m4 c4] 32)) := (Below.refl _ _).alloc (Nat.le_refl _) _
  have hcall' : Hid (Calls Try.prog 7 #[.agg #[.slice (some ⟨W.drew.heap.size, 0, none⟩) 1 1]] (W.drew.alloc (.cells #[.int .i64 0, .string t, .slice p1 m1 c1, .slice p2 m2 c2, .slice p3 m3 c3, .slice p4 m4 c4] 32)) fun e w' => e = .returned (.int .i64 z) ∧ Below (W.drew.alloc (.cells #[.int .i64 0, .string t, .slice p1 m1 c1, .slice p2 m2 c2, .slice p3 m3 c3, .slice p4 m4 c4] 32)).heap.size (W.drew.alloc (.cells #[.int .i64 0, .string t, .slice p1 m1 c1, .slice p2 m2 c2, .slice p3 m3 c3, .slice p4 m4 c4] 32)) w') := hcall
  clear hcp hcp' hpt hcall hl5
  go_upto_region 6 with fail
  have hBLs : BL < W.heap.size := lt_of_cell x0
  have hBWs : BW < W.heap.size := lt_of_cell y0
  have HS : Hid (∀ X, Below W.heap.size W X → X.cell? ⟨BL, k * 5, none⟩ = some (.string t) ∧ X.cell? ⟨BL, k * 5 + 1, none⟩ = some (.slice p1 m1 c1) ∧ X.cell? ⟨BL, k * 5 + 2, none⟩ = some (.slice p2 m2 c2) ∧ X.cell? ⟨BL, k * 5 + 3, none⟩ = some (.slice p3 m3 c3) ∧ X.cell? ⟨BL, k * 5 + 4, none⟩ = some (.slice p4 m4 c4) ∧ X.cell? ⟨BW, k, none⟩ = some (.int .i64 z)) := fun X hX =>
    ⟨(hX.cell (p := ⟨BL, _, none⟩) hBLs).trans x0, (hX.cell (p := ⟨BL, _, none⟩) hBLs).trans x1, (hX.cell (p := ⟨BL, _, none⟩) hBLs).trans x2, (hX.cell (p := ⟨BL, _, none⟩) hBLs).trans x3, (hX.cell (p := ⟨BL, _, none⟩) hBLs).trans x4, (hX.cell (p := ⟨BW, _, none⟩) hBWs).trans y0⟩
  clear x0 x1 x2 x3 x4 y0
  have HeldS := (show ∀ X, _ → _ from HS) _ q0
  refine Rg.wpD_begin [0, 1, 2, 3, 4, 5, 6, 7, 8, 9, 10, 11] (fun X => X.cell? ⟨BL, k * 5, none⟩ = some (.string t) ∧ X.cell? ⟨BL, k * 5 + 1, none⟩ = some (.slice p1 m1 c1) ∧ X.cell? ⟨BL, k * 5 + 2, none⟩ = some (.slice p2 m2 c2) ∧ X.cell? ⟨BL, k * 5 + 3, none⟩ = some (.slice p3 m3 c3) ∧ X.cell? ⟨BL, k * 5 + 4, none⟩ = some (.slice p4 m4 c4) ∧ X.cell? ⟨BW, k, none⟩ = some (.int .i64 z)) (by kernel_rfl) ?_
  refine Rg.wpD_load 0 (v := ?_) (by simp only [List.getElem?_toArray, List.getElem?_cons_zero]; rfl) (by kernel_rfl) (by kernel_rfl) (by intro _ _ _ h; exact h) HeldS (by rfl) (fun wz hz => ?_) ?_
  rotate_left
  · first | (go_simp; done) | (go_simp; with_reducible rfl)
  simp only [Act.put, List.setIfInBounds_toArray, List.set_cons_succ, List.set_cons_zero]
  refine Rg.wpD_load 1 (v := ?_) (by simp only [List.getElem?_toArray, List.getElem?_cons_succ, List.getElem?_cons_zero]; rfl) (by kernel_rfl) (by kernel_rfl) (by intro _ _ _ h; exact h) HeldS (by rfl) (fun wz hz => ?_) ?_
  rotate_left
  · first | (go_simp; done) | (go_simp; with_reducible rfl)
  simp only [Act.put, List.setIfInBounds_toArray, List.set_cons_succ, List.set_cons_zero]
  refine Rg.wpD_load 2 (v := ?_) (by simp only [List.getElem?_toArray, List.getElem?_cons_succ, List.getElem?_cons_zero]; rfl) (by kernel_rfl) (by kernel_rfl) (by intro _ _ _ h; exact h) HeldS (by rfl) (fun wz hz => ?_) ?_
  rotate_left
  · first | (go_simp; done) | (go_simp; with_reducible rfl)
  simp only [Act.put, List.setIfInBounds_toArray, List.set_cons_succ, List.set_cons_zero]
  refine Rg.wpD_load 3 (v := ?_) (by simp only [List.getElem?_toArray, List.getElem?_cons_succ, List.getElem?_cons_zero]; rfl) (by kernel_rfl) (by kernel_rfl) (by intro _ _ _ h; exact h) HeldS (by rfl) (fun wz hz => ?_) ?_
  rotate_left
  · first | (go_simp; done) | (go_simp; with_reducible rfl)
  simp only [Act.put, List.setIfInBounds_toArray, List.set_cons_succ, List.set_cons_zero]
  refine Rg.wpD_load 4 (v := ?_) (by simp only [List.getElem?_toArray, List.getElem?_cons_succ, List.getElem?_cons_zero]; rfl) (by kernel_rfl) (by kernel_rfl) (by intro _ _ _ h; exact h) HeldS (by rfl) (fun wz hz => ?_) ?_
  rotate_left
  · first | (go_simp; done) | (go_simp; with_reducible rfl)
  simp only [Act.put, List.setIfInBounds_toArray, List.set_cons_succ, List.set_cons_zero]
  refine Rg.wpD_load 8 (v := ?_) (by simp only [List.getElem?_toArray, List.getElem?_cons_succ, List.getElem?_cons_zero]; rfl) (by kernel_rfl) (by kernel_rfl) (by intro _ _ _ h; exact h) HeldS (by rfl) (fun wz hz => ?_) ?_
  rotate_left
  · first | (go_simp; done) | (go_simp; with_reducible rfl)
  simp only [Act.put, List.setIfInBounds_toArray, List.set_cons_succ, List.set_cons_zero]
  refine Rg.wpD_load 9 (v := ?_) (by simp only [List.getElem?_toArray, List.getElem?_cons_succ, List.getElem?_cons_zero]; rfl) (by kernel_rfl) (by kernel_rfl) (by intro _ _ _ h; exact h) HeldS (by rfl) (fun wz hz => ?_) ?_
  rotate_left
  · first | (go_simp; done) | (go_simp; with_reducible rfl)
  simp only [Act.put, List.setIfInBounds_toArray, List.set_cons_succ, List.set_cons_zero]
  refine Rg.wpD_load 10 (v := ?_) (by simp only [List.getElem?_toArray, List.getElem?_cons_succ, List.getElem?_cons_zero]; rfl) (by kernel_rfl) (by kernel_rfl) (by intro _ _ _ h; exact h) HeldS (by rfl) (fun wz hz => ?_) ?_
  rotate_left
  · first | (go_simp; done) | (go_simp; with_reducible rfl)
  simp only [Act.put, List.setIfInBounds_toArray, List.set_cons_succ, List.set_cons_zero]
  refine Rg.wpD_load 11 (v := ?_) (by simp only [List.getElem?_toArray, List.getElem?_cons_succ, List.getElem?_cons_zero]; rfl) (by kernel_rfl) (by kernel_rfl) (by intro _ _ _ h; exact h) HeldS (by rfl) (fun wz hz => ?_) ?_
  rotate_left
  · first | (go_simp; done) | (go_simp; with_reducible rfl)
  simp only [Act.put, List.setIfInBounds_toArray, List.set_cons_succ, List.set_cons_zero]
  refine Rg.wpD_do 5 (by kernel_rfl) (by simp only [List.getElem?_toArray, List.getElem?_cons_succ, List.getElem?_cons_zero]; rfl) (fun K hK => ?_)
  go_simp
  refine hK _ _ (fun _ => (show ∀ X, _ → _ from HS) _ (below_next q0 bA)) ?_
  clear hK K HeldS
  have HeldS := (show ∀ X, _ → _ from HS) _ (below_next q0 bA)
  refine Rg.wpD_load 6 (v := ?_) (by simp only [List.getElem?_toArray, List.getElem?_cons_succ, List.getElem?_cons_zero]; rfl) (by kernel_rfl) (by kernel_rfl) (by intro _ _ _ h; exact h) HeldS (by rfl) (fun wz hz => ?_) ?_
  rotate_left
  · first | (go_simp; done) | (go_simp; with_reducible rfl)
  simp only [Act.put, List.setIfInBounds_toArray, List.set_cons_succ, List.set_cons_zero]
  refine Rg.wpD_do 7 (by kernel_rfl) (by simp only [List.getElem?_toArray, List.getElem?_cons_succ, List.getElem?_cons_zero]; rfl) (fun K hK => ?_)
  go_simp
  go_at_call 7
  refine Calls.mono (show Calls _ _ _ _ _ from hcall') ?_
  rintro e X ⟨rfl, bX⟩
  refine hK _ _ (fun _ => (show ∀ X, _ → _ from HS) _ (below_next (below_next q0 bA) bX)) ?_
  clear hK K HeldS
  refine Rg.wpD_pure 12 (v := ?_) (by simp only [List.getElem?_toArray, List.getElem?_cons_succ, List.getElem?_cons_zero]; rfl) (by kernel_rfl) (by kernel_rfl) (by intro _ _ _ h; exact h) (by rfl) (fun wz => ?_) ?_
  rotate_left
  · first | (go_simp; done) | (go_simp; with_reducible rfl)
  simp only [Act.put, List.setIfInBounds_toArray, List.set_cons_succ, List.set_cons_zero]
  refine Rg.wpD_pure 13 (v := ?_) (by simp only [List.getElem?_toArray, List.getElem?_cons_succ, List.getElem?_cons_zero]; rfl) (by kernel_rfl) (by kernel_rfl) (by intro _ _ _ h; exact h) (by rfl) (fun wz => ?_) ?_
  rotate_left
  · first | (go_simp; done) | (go_simp; with_reducible rfl)
  simp only [Act.put, List.setIfInBounds_toArray, List.set_cons_succ, List.set_cons_zero]
  refine Rg.wpD_done (by kernel_rfl) ?_
  go_wp2
  go_ret
  exact ⟨rfl, below_next (below_next b1 bL) (below_next (below_next q0 bA) bX)⟩

set_option maxRecDepth 100000 in
theorem weighKinds_lifted (os : Os) (started : os.Started) (H : Type) (enc : TypeId × Value → H) :
    ReturnsInHanded {} Try.checked os 4 .any (Rows.weighKindsSpec.pre6 enc Try.prog Try.f4 Rows.weighKindsRow.domain false) (Rows.weighKindsSpec.post enc Try.prog Try.f4 false true false false) := by
  refine returnsInHanded_of_change_sized (C := Try.checked) ownNone started (by kernel_rfl) Try.func4
    (ChangeSpec.witness6 (enc := enc) (C := Try.checked) false ⟨#[], #[.int .i64 0, .string ⟨#[]⟩], []⟩ 8 (by kernel_rfl) (by kernel_rfl) (by kernel_rfl) (by kernel_rfl)) ?_
  intro W base args ds gs before hval hW _ hsz0 _
  have hW' := hW
  obtain ⟨p, q, hA0, hV, rfl, hfz, hnd⟩ := hW
  have hA : DataW.TrodAll enc Try.prog W 0 (fun _ => true) true Try.f4.params.toList args.toList ds p := hA0
  rw [Try.params4] at hA hval hsz0
  obtain ⟨v0, vs0, d0, ds0, p0, q0, hargs, rfl, rfl, h0, r0⟩ := trodAll_cons hA
  obtain ⟨v1, vs1, d1, ds1, p1, q1, rfl, rfl, rfl, h1, r1⟩ := trodAll_cons r0
  obtain ⟨rfl, rfl, rfl⟩ := trodAll_nil r1
  obtain rfl : args = #[v0, v1] := by cases args; simp_all
  obtain ⟨rfl, rfl⟩ := trodVars_none hV
  have hsz := List.all_eq_true.1 hsz0
  obtain ⟨a0, rfl, rfl, rfl, w0⟩ := open_int Try.underlying3 (hval 0 3 v0 rfl rfl) h0
  obtain ⟨s1, rfl, rfl, rfl, w1⟩ := open_string Try.underlying9 (hval 1 9 v1 rfl rfl) h1
  have y1 : s1.size ≤ 281474976710656 := short_string (by simpa using hsz s1.data.toList.length (DataW.weights_mem_each (j := 1) rfl rfl _ (by simp [DataW.weights])))
  clear hA0
  refine (weighKinds_walk W a0 w0 s1 y1).mono fun e W' ⟨he, bel⟩ => ?_
  subst he
  exact ⟨_, rfl, _, _, _, [], _, [], hW', trodAll_mk1 (shut_bool Try.underlying4 _), (trodAll_cons_mk (shut_int Try.underlying3 w0) (trodAll_cons_mk (shut_string Try.underlying9 w1) trodAll_mk0)), rfl, bel.frame _, fun h => by cases h⟩

theorem weighKinds_said : Rows.WeighKindsSaid :=
  OpenClaim.holds_of_wide 4 Try.f4 rfl rfl rfl rfl rfl rfl rfl ⟨rfl, rfl, rfl, rfl, rfl⟩ rfl rfl rfl rfl rfl (by kernel_rfl) Try.func4 (by kernel_rfl)
    (of_decide_eq_true (by kernel_rfl)) (by unfold Func.isWrapper; first | (rw [if_pos (by decide +kernel)]; kernel_rfl) | (rw [if_neg (by decide +kernel)]; exact ⟨rfl, rfl⟩))
    (fun os started H enc _ => weighKinds_lifted os started H enc)
#print axioms weighKinds_said


end Go.Proofs.Ytgjjedodbgimfaa
