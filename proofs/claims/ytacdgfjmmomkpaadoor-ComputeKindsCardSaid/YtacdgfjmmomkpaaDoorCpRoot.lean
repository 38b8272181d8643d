/- Styles in memory; package compute: Root; the document's own RootStyle. -/
import Derived.Test.YtacdgfjmmomkpaaDoorCpOf
namespace Go.Proofs.YtacdgfjmmomkpaaDoor.Cp
open Go Go.RowKit Vl Nm

abbrev sty (s : Nat → Int) : Value := .agg #[.int .i64 (s 0), .int .i64 (s 1), .int .i64 (s 2), .int .i64 (s 3), .int .i64 (s 4), .int .i64 (s 5), .int .i64 (s 6), .int .i64 (s 7)]
abbrev vls (k n : Nat → Int) : Value := .agg #[.int .i64 (k 0), .int .i64 (n 0), .int .i64 (k 1), .int .i64 (n 1), .int .i64 (k 2), .int .i64 (n 2), .int .i64 (k 3), .int .i64 (n 3), .int .i64 (k 4), .int .i64 (n 4), .int .i64 (k 5), .int .i64 (n 5), .int .i64 (k 6), .int .i64 (n 6), .int .i64 (k 7), .int .i64 (n 7)]
theorem sty_ext {s s' : Nat → Int} (e : ∀ i, i < 8 → s' i = s i) : sty s' = sty s := by
  simp only [sty, e 0 (by decide), e 1 (by decide), e 2 (by decide), e 3 (by decide), e 4 (by decide), e 5 (by decide), e 6 (by decide), e 7 (by decide)]
theorem StyAt.lt {W : World} {B : Nat} {s : Nat → Int} (h : StyAt W B s) : B < W.heap.size := Blk.lt h
theorem StyAt.next {X Y : World} {B : Nat} {s : Nat → Int} (h : StyAt X B s) (hb : Below X.heap.size X Y) : StyAt Y B s := Blk.below h hb h.lt
theorem StyAt.below {n : Nat} {X Y : World} {B : Nat} {s : Nat → Int} (h : StyAt X B s) (hb : Below n X Y) (hn : B < n) : StyAt Y B s := Blk.below h hb hn
theorem StyAt.set {W : World} {B b : Nat} {s : Nat → Int} (h : StyAt W B s) (hne : B ≠ b) (i : Nat) (v : Value) : StyAt (W.setCell ⟨b, i, none⟩ v) B s := Blk.kept h (grown_set W b i v) (fun e => hne (by cases e; rfl))
theorem StyAt.cells {W : World} {B : Nat} {s : Nat → Int} (h : StyAt W B s) : W.cell? ⟨B, 0, none⟩ = some (.int .i64 (s 0)) ∧ W.cell? ⟨B, 1, none⟩ = some (.int .i64 (s 1)) ∧ W.cell? ⟨B, 2, none⟩ = some (.int .i64 (s 2)) ∧ W.cell? ⟨B, 3, none⟩ = some (.int .i64 (s 3)) ∧ W.cell? ⟨B, 4, none⟩ = some (.int .i64 (s 4)) ∧ W.cell? ⟨B, 5, none⟩ = some (.int .i64 (s 5)) ∧ W.cell? ⟨B, 6, none⟩ = some (.int .i64 (s 6)) ∧ W.cell? ⟨B, 7, none⟩ = some (.int .i64 (s 7)) :=
  ⟨(h.cell (p := 0) (by decide)).1, (h.cell (p := 1) (by decide)).1, (h.cell (p := 2) (by decide)).1, (h.cell (p := 3) (by decide)).1, (h.cell (p := 4) (by decide)).1, (h.cell (p := 5) (by decide)).1, (h.cell (p := 6) (by decide)).1, (h.cell (p := 7) (by decide)).1⟩
theorem StyAt.thaw {W : World} {B : Nat} {s : Nat → Int} (h : StyAt W B s) : W.frozen? ⟨B, 0, none⟩ = false ∧ W.frozen? ⟨B, 1, none⟩ = false ∧ W.frozen? ⟨B, 2, none⟩ = false ∧ W.frozen? ⟨B, 3, none⟩ = false ∧ W.frozen? ⟨B, 4, none⟩ = false ∧ W.frozen? ⟨B, 5, none⟩ = false ∧ W.frozen? ⟨B, 6, none⟩ = false ∧ W.frozen? ⟨B, 7, none⟩ = false :=
  ⟨(h.cell (p := 0) (by decide)).2, (h.cell (p := 1) (by decide)).2, (h.cell (p := 2) (by decide)).2, (h.cell (p := 3) (by decide)).2, (h.cell (p := 4) (by decide)).2, (h.cell (p := 5) (by decide)).2, (h.cell (p := 6) (by decide)).2, (h.cell (p := 7) (by decide)).2⟩
def set8 (W : World) (B : Nat) (s : Nat → Int) : World := (((((((W.setCell ⟨B, 0, none⟩ (.int .i64 (s 0))).setCell ⟨B, 1, none⟩ (.int .i64 (s 1))).setCell ⟨B, 2, none⟩ (.int .i64 (s 2))).setCell ⟨B, 3, none⟩ (.int .i64 (s 3))).setCell ⟨B, 4, none⟩ (.int .i64 (s 4))).setCell ⟨B, 5, none⟩ (.int .i64 (s 5))).setCell ⟨B, 6, none⟩ (.int .i64 (s 6))).setCell ⟨B, 7, none⟩ (.int .i64 (s 7))
theorem StyAt.set8 {W : World} {B : Nat} {s : Nat → Int} (h : StyAt W B s) (s' : Nat → Int) : StyAt (set8 W B s') B s' :=
  ((((((((h.put (p := 0) (by decide) (s' 0)).put (p := 1) (by decide) (s' 1)).put (p := 2) (by decide) (s' 2)).put (p := 3) (by decide) (s' 3)).put (p := 4) (by decide) (s' 4)).put (p := 5) (by decide) (s' 5)).put (p := 6) (by decide) (s' 6)).put (p := 7) (by decide) (s' 7)).ext (fun i hi => by
    obtain rfl | rfl | rfl | rfl | rfl | rfl | rfl | rfl : i = 0 ∨ i = 1 ∨ i = 2 ∨ i = 3 ∨ i = 4 ∨ i = 5 ∨ i = 6 ∨ i = 7 := by omega
    all_goals rfl)
theorem grown_set8 (W : World) (B : Nat) (s : Nat → Int) : W.grownBy (set8 W B s) (some B) :=
  (((((((grown_set _ _ _ _).trans (grown_set _ _ _ _)).trans (grown_set _ _ _ _)).trans (grown_set _ _ _ _)).trans (grown_set _ _ _ _)).trans (grown_set _ _ _ _)).trans (grown_set _ _ _ _)).trans (grown_set _ _ _ _)
theorem load_sty {w : World} {g : Nat} {s : Nat → Int} (h : StyAt w g s) : (loadVar 23 ⟨g, 0, none⟩).run Tryd.prog w = .ok (sty s) w :=
  run_loadVar_row w g _ 23 (styL s).toArray (0, 0) _ h Tryd.underlying23 rfl infoSty
theorem StyAt.new (w : World) (s : Nat → Int) : StyAt (w.alloc (.cells (styL s).toArray 23)) w.heap.size s := Blk.new w 23 (styL s)

set_option maxRecDepth 100000 in
set_option maxHeartbeats 1000000 in
theorem root_any (w : World) (hP : PropsAt w.heap.size w) : Calls Tryd.prog 11 #[] w fun e w' => e = .returned (sty rootV) ∧ Below w.heap.size w w' := by
  have b0 : Below w.heap.size w ((w.alloc (.cells #[.int .i64 0, .int .i64 0, .int .i64 0, .int .i64 0, .int .i64 0, .int .i64 0, .int .i64 0, .int .i64 0] 23)).alloc (.cells #[.int .i64 0, .int .i64 0, .int .i64 0, .int .i64 0, .int .i64 0, .int .i64 0, .int .i64 0, .int .i64 0] 23)) := ((Below.refl _ w).alloc (Nat.le_refl _) _).alloc (by rw [World.size_alloc]; omega) _
  have kR : StyAt ((w.alloc (.cells #[.int .i64 0, .int .i64 0, .int .i64 0, .int .i64 0, .int .i64 0, .int .i64 0, .int .i64 0, .int .i64 0] 23)).alloc (.cells #[.int .i64 0, .int .i64 0, .int .i64 0, .int .i64 0, .int .i64 0, .int .i64 0, .int .i64 0, .int .i64 0] 23)) w.heap.size (fun _ => 0) := Blk.kept (StyAt.new w (fun _ => 0)) (World.grownBy_alloc _ _ none) (by simp)
  have kO : StyAt ((w.alloc (.cells #[.int .i64 0, .int .i64 0, .int .i64 0, .int .i64 0, .int .i64 0, .int .i64 0, .int .i64 0, .int .i64 0] 23)).alloc (.cells #[.int .i64 0, .int .i64 0, .int .i64 0, .int .i64 0, .int .i64 0, .int .i64 0, .int .i64 0, .int .i64 0] 23)) (w.heap.size + 1) (fun _ => 0) := by
    have := StyAt.new (w.alloc (.cells #[.int .i64 0, .int .i64 0, .int .i64 0, .int .i64 0, .int .i64 0, .int .i64 0, .int .i64 0, .int .i64 0] 23)) (fun _ => 0)
    rwa [World.size_alloc] at this
  have HIT : Hid (∀ X (p : Nat), PropsAt X.heap.size X → Calls Tryd.prog 15 #[.int .i64 p] X fun e w' => e = .returned (.int .i64 (rootV p)) ∧ Below X.heap.size X w') := fun X p hX => initial_any p X hX
  go_enter Tryd.func11, Tryd.ntmps11
  go_upto_region 2 with fail
  generalize (w.alloc (.cells #[.int .i64 0, .int .i64 0, .int .i64 0, .int .i64 0, .int .i64 0, .int .i64 0, .int .i64 0, .int .i64 0] 23)).alloc (.cells #[.int .i64 0, .int .i64 0, .int .i64 0, .int .i64 0, .int .i64 0, .int .i64 0, .int .i64 0, .int .i64 0] 23) = W at *
  go_wp2
  go_loopw [3] (fun i wr => ∃ k : Nat, i = .int .i64 k ∧ k ≤ 8 ∧ StyAt wr w.heap.size (fun _ => 0) ∧ StyAt wr (w.heap.size + 1) (fun i => if i < k then rootV i else 0) ∧ Below w.heap.size w wr) (fun i _ => 8 - (intOf i).toNat)
  case atStart => exact ⟨0, rfl, by omega, kR, kO.ext (fun i _ => by simp), b0⟩
  case round =>
    clear b0 kR kO
    obtain ⟨k, rfl, hk, hR, hO, hb⟩ := hrel
    by_cases hlt : k < 8
    · have hki : (k : Int) < 8 := by omega
      have hi := HIT.out wr k (hP.next hb)
      clear HIT hP
      go_wp2_with fail
      refine hi.mono ?_
      clear hi
      rintro e w1 ⟨rfl, b1⟩
      obtain ⟨c1, f1⟩ := (hO.next b1).cell hlt
      have hO1 := ((hO.next b1).put hlt (rootV k)).ext (s' := fun i => if i < k + 1 then rootV i else 0) (fun i _ => by
        by_cases e1 : i = k
        · subst e1; simp [putV]
        · by_cases e2 : i < k
          · rw [if_pos (by omega)]; simp [putV, e1, e2]
          · rw [if_neg (by omega)]; simp [putV, e1, e2])
      have hR1 := (hR.next b1).set (by omega : w.heap.size ≠ w.heap.size + 1) k (.int .i64 (rootV k))
      have hs := hO.lt
      have hb1 := below_grown (below_next hb b1) (grown_set w1 (w.heap.size + 1) k (.int .i64 (rootV k))) (by have := b1.size; omega) (by omega)
      go_wp2
      exact ⟨⟨k + 1, by go_num, by omega, hR1, hO1, hb1⟩, by simp [intOf]; omega⟩
    · have hki : ¬ (k : Int) < 8 := by omega
      obtain rfl : k = 8 := by omega
      replace hO : StyAt wr (w.heap.size + 1) rootV := hO.ext (fun i hi => (if_pos hi).symm)
      obtain ⟨c0, c1, c2, c3, c4, c5, c6, c7⟩ := hO.cells
      obtain ⟨d0, d1, d2, d3, d4, d5, d6, d7⟩ := hR.cells
      obtain ⟨f0, f1, f2, f3, f4, f5, f6, f7⟩ := hR.thaw
      have hz := below_grown hb (grown_set8 wr w.heap.size rootV) (by have := hR.lt; omega) (Nat.le_refl _)
      have hl := load_sty (hR.set8 rootV)
      clear hO hP HIT
      go_wp2
      refine bodyPost_ret (results_struct rfl _ _ w.heap.size _ rfl hl) rfl ?_
      exact ⟨rfl, hz⟩
set_option maxRecDepth 100000 in
set_option maxHeartbeats 1000000 in
theorem refRoot_any (w : World) : Calls Tryd.prog 12 #[] w fun e w' => e = .returned (sty rootV) ∧ Below w.heap.size w w' := by
  have b0 : Below w.heap.size w ((w.alloc (.cells #[.int .i64 0, .int .i64 0, .int .i64 0, .int .i64 0, .int .i64 0, .int .i64 0, .int .i64 0, .int .i64 0] 23)).alloc (.cells #[.int .i64 0, .int .i64 0, .int .i64 0, .int .i64 0, .int .i64 0, .int .i64 0, .int .i64 0, .int .i64 0] 23)) := ((Below.refl _ w).alloc (Nat.le_refl _) _).alloc (by rw [World.size_alloc]; omega) _
  have kR : StyAt ((w.alloc (.cells #[.int .i64 0, .int .i64 0, .int .i64 0, .int .i64 0, .int .i64 0, .int .i64 0, .int .i64 0, .int .i64 0] 23)).alloc (.cells #[.int .i64 0, .int .i64 0, .int .i64 0, .int .i64 0, .int .i64 0, .int .i64 0, .int .i64 0, .int .i64 0] 23)) w.heap.size (fun _ => 0) := Blk.kept (StyAt.new w (fun _ => 0)) (World.grownBy_alloc _ _ none) (by simp)
  have kO : StyAt ((w.alloc (.cells #[.int .i64 0, .int .i64 0, .int .i64 0, .int .i64 0, .int .i64 0, .int .i64 0, .int .i64 0, .int .i64 0] 23)).alloc (.cells #[.int .i64 0, .int .i64 0, .int .i64 0, .int .i64 0, .int .i64 0, .int .i64 0, .int .i64 0, .int .i64 0] 23)) (w.heap.size + 1) (fun _ => 0) := by
    have := StyAt.new (w.alloc (.cells #[.int .i64 0, .int .i64 0, .int .i64 0, .int .i64 0, .int .i64 0, .int .i64 0, .int .i64 0, .int .i64 0] 23)) (fun _ => 0)
    rwa [World.size_alloc] at this
  have HIT : Hid (∀ X (p : Nat), Calls Tryd.prog 16 #[.int .i64 p] X fun e w' => e = .returned (.int .i64 (rootV p)) ∧ w' = X) := fun X p => refInitial_any p X
  go_enter Tryd.func12, Tryd.ntmps12
  go_upto_region 2 with fail
  generalize (w.alloc (.cells #[.int .i64 0, .int .i64 0, .int .i64 0, .int .i64 0, .int .i64 0, .int .i64 0, .int .i64 0, .int .i64 0] 23)).alloc (.cells #[.int .i64 0, .int .i64 0, .int .i64 0, .int .i64 0, .int .i64 0, .int .i64 0, .int .i64 0, .int .i64 0] 23) = W at *
  go_wp2
  go_loopw [2] (fun i wr => ∃ k : Nat, i = .int .i64 k ∧ k ≤ 8 ∧ StyAt wr w.heap.size (fun _ => 0) ∧ StyAt wr (w.heap.size + 1) (fun i => if i < k then rootV i else 0) ∧ Below w.heap.size w wr) (fun i _ => 8 - (intOf i).toNat)
  case atStart => exact ⟨0, rfl, by omega, kR, kO.ext (fun i _ => by simp), b0⟩
  case round =>
    clear b0 kR kO
    obtain ⟨k, rfl, hk, hR, hO, hb⟩ := hrel
    by_cases hlt : k < 8
    · have hki : (k : Int) < 8 := by omega
      have hi := HIT.out wr k
      clear HIT
      go_wp2_with fail
      refine hi.mono ?_
      clear hi
      rintro e w1 ⟨rfl, rfl⟩
      obtain ⟨c1, f1⟩ := hO.cell hlt
      have hO1 := (hO.put hlt (rootV k)).ext (s' := fun i => if i < k + 1 then rootV i else 0) (fun i _ => by
        by_cases e1 : i = k
        · subst e1; simp [putV]
        · by_cases e2 : i < k
          · rw [if_pos (by omega)]; simp [putV, e1, e2]
          · rw [if_neg (by omega)]; simp [putV, e1, e2])
      have hR1 := hR.set (by omega : w.heap.size ≠ w.heap.size + 1) k (.int .i64 (rootV k))
      have hs := hO.lt
      have hb1 := below_grown hb (grown_set w1 (w.heap.size + 1) k (.int .i64 (rootV k))) (by omega) (by omega)
      go_wp2
      exact ⟨⟨k + 1, by go_num, by omega, hR1, hO1, hb1⟩, by simp [intOf]; omega⟩
    · have hki : ¬ (k : Int) < 8 := by omega
      obtain rfl : k = 8 := by omega
      replace hO : StyAt wr (w.heap.size + 1) rootV := hO.ext (fun i hi => (if_pos hi).symm)
      obtain ⟨c0, c1, c2, c3, c4, c5, c6, c7⟩ := hO.cells
      obtain ⟨d0, d1, d2, d3, d4, d5, d6, d7⟩ := hR.cells
      obtain ⟨f0, f1, f2, f3, f4, f5, f6, f7⟩ := hR.thaw
      have hz := below_grown hb (grown_set8 wr w.heap.size rootV) (by have := hR.lt; omega) (Nat.le_refl _)
      have hl := load_sty (hR.set8 rootV)
      clear hO HIT
      go_wp2
      refine bodyPost_ret (results_struct rfl _ _ w.heap.size _ rfl hl) rfl ?_
      exact ⟨rfl, hz⟩

end Go.Proofs.YtacdgfjmmomkpaaDoor.Cp
