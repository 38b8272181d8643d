/- package compute: Of, at every style above and all values. -/
import Derived.Test.YtacdgfjmmomkpaaDoorCpRoot
namespace Go.Proofs.YtacdgfjmmomkpaaDoor.Cp
open Go Go.RowKit Vl Nm

/-- The style s lies at a place. -/
def SrcAt (W : World) (b o : Nat) (s : Nat → Int) : Prop := ∀ i, i < 8 → W.cell? ⟨b, o + i, none⟩ = some (.int .i64 (s i))
theorem StyAt.src {W : World} {B : Nat} {s : Nat → Int} (h : StyAt W B s) : SrcAt W B 0 s := fun i hi => by rw [Nat.zero_add]; exact (h.cell hi).1
theorem SrcAt.cells {W : World} {b o : Nat} {s : Nat → Int} (h : SrcAt W b o s) : W.cell? ⟨b, o, none⟩ = some (.int .i64 (s 0)) ∧ W.cell? ⟨b, o + 1, none⟩ = some (.int .i64 (s 1)) ∧ W.cell? ⟨b, o + 2, none⟩ = some (.int .i64 (s 2)) ∧ W.cell? ⟨b, o + 3, none⟩ = some (.int .i64 (s 3)) ∧ W.cell? ⟨b, o + 4, none⟩ = some (.int .i64 (s 4)) ∧ W.cell? ⟨b, o + 5, none⟩ = some (.int .i64 (s 5)) ∧ W.cell? ⟨b, o + 6, none⟩ = some (.int .i64 (s 6)) ∧ W.cell? ⟨b, o + 7, none⟩ = some (.int .i64 (s 7)) :=
  ⟨h 0 (by decide), h 1 (by decide), h 2 (by decide), h 3 (by decide), h 4 (by decide), h 5 (by decide), h 6 (by decide), h 7 (by decide)⟩
theorem SrcAt.below {n : Nat} {X Y : World} {b o : Nat} {s : Nat → Int} (h : SrcAt X b o s) (hb : Below n X Y) (hn : b < n) : SrcAt Y b o s := fun i hi => (hb.cell (p := ⟨b, o + i, none⟩) hn).trans (h i hi)
/-- The pointer v leads to the style u; nil: to the root's. -/
def ParAt (W : World) (v : Value) (u : Nat → Int) : Prop := (v = .pointer none ∧ u = rootV) ∨ ∃ b o, v = .pointer (some ⟨b, o, none⟩) ∧ b < W.heap.size ∧ SrcAt W b o u
/-- Block B holds all values. -/
def ValAt (W : World) (B : Nat) (k n : Nat → Int) : Prop := Blk W B 26 (valL k n)
theorem ValAt.cell {W : World} {B : Nat} {k n : Nat → Int} (h : ValAt W B k n) {p : Nat} (hp : p < 8) : W.cell? ⟨B, p * 2, none⟩ = some (.int .i64 (k p)) ∧ W.cell? ⟨B, p * 2 + 1, none⟩ = some (.int .i64 (n p)) :=
  ⟨(cell_of_block h _).trans (valL_at k n hp).1, (cell_of_block h _).trans (valL_at k n hp).2⟩
theorem ValAt.below {m : Nat} {X Y : World} {B : Nat} {k n : Nat → Int} (h : ValAt X B k n) (hb : Below m X Y) (hm : B < m) : ValAt Y B k n := Blk.below h hb hm
theorem ValAt.new (w : World) (k n : Nat → Int) : ValAt (w.alloc (.cells (valL k n).toArray 26)) w.heap.size k n := Blk.new w 26 (valL k n)
theorem infoVals : (Tryd.prog.info? 26).map (·.size) = some 16 := by kernel_rfl
theorem index_vls (k n : Nat → Int) (w : World) (p : Nat) (hp : p < 8) : (Instr.index 26 (vls k n) (.int .i64 p)).run Tryd.prog w = .ok (.agg #[.int .i64 (k p), .int .i64 (n p)]) w := by
  obtain rfl | rfl | rfl | rfl | rfl | rfl | rfl | rfl : p = 0 ∨ p = 1 ∨ p = 2 ∨ p = 3 ∨ p = 4 ∨ p = 5 ∨ p = 6 ∨ p = 7 := by omega
  all_goals kernel_rfl
/-- How far a style is reckoned: the font-size first, then those up to m. -/
def partV (f : Nat → Int) (m i : Nat) : Int := if i < m ∨ i = 1 then f i else 0

set_option maxRecDepth 100000 in
set_option maxHeartbeats 1000000 in
theorem of_any (v : Value) (k n u : Nat → Int) (w : World) (hP : PropsAt w.heap.size w) (hv : ParAt w v u) :
    Calls Tryd.prog 9 #[v, vls k n] w fun e w' => e = .returned (sty (ofV k n u)) ∧ Below w.heap.size w w' := by
  have HC : Hid (∀ (X : World) (p : Nat) (q : Int) (em : Int), p < 8 → q = p → Below w.heap.size w X → Calls Tryd.prog 13 #[.int .i64 q, .agg #[.int .i64 (k p), .int .i64 (n p)], .agg #[.int .i64 (u 0), .int .i64 (u 1), .int .i64 (u 2), .int .i64 (u 3), .int .i64 (u 4), .int .i64 (u 5), .int .i64 (u 6), .int .i64 (u 7)], .int .i64 em] X fun e w' => e = .returned (.int .i64 (compV p (k p) (n p) (u p) em)) ∧ Below X.heap.size X w') := fun X p q em hp hq hb => by subst hq; exact computed_any hp (k p) (n p) u em X (hP.next hb)
  have HR : Hid (∀ X, Below w.heap.size w X → Calls Tryd.prog 11 #[] X fun e w' => e = .returned (sty rootV) ∧ Below X.heap.size X w') := fun X hb => root_any X (hP.next hb)
  clear hP
  obtain ⟨V, hV⟩ : ∃ V, ofV k n u = V := ⟨_, rfl⟩
  rw [hV]
  have HO1 : Hid (compV 1 (k 1) (n 1) (u 1) (u 1) = V 1) := by rw [← hV]; rfl
  have HOp : Hid (∀ p : Nat, p ≠ 1 → compV p (k p) (n p) (u p) (V 1) = V p) := fun p hp => by
    have h1 : V 1 = compV 1 (k 1) (n 1) (u 1) (u 1) := HO1.out.symm
    rw [h1, ← hV]
    unfold ofV
    rw [if_neg hp]
  clear hV
  have HIX : Hid (∀ (w : World) (p : Nat), p < 8 → (Instr.index 26 (vls k n) (.int .i64 p)).run Tryd.prog w = .ok (.agg #[.int .i64 (k p), .int .i64 (n p)]) w) := fun w p hp => index_vls k n w p hp
  have b0 : Below w.heap.size w ((w.alloc (.cells (valL k n).toArray 26)).alloc (.cells #[.int .i64 0, .int .i64 0, .int .i64 0, .int .i64 0, .int .i64 0, .int .i64 0, .int .i64 0, .int .i64 0] 23)) := ((Below.refl _ w).alloc (Nat.le_refl _) _).alloc (by rw [World.size_alloc]; omega) _
  have kA : ValAt ((w.alloc (.cells (valL k n).toArray 26)).alloc (.cells #[.int .i64 0, .int .i64 0, .int .i64 0, .int .i64 0, .int .i64 0, .int .i64 0, .int .i64 0, .int .i64 0] 23)) w.heap.size k n := Blk.kept (ValAt.new w k n) (World.grownBy_alloc _ _ none) (by simp)
  have kR : StyAt ((w.alloc (.cells (valL k n).toArray 26)).alloc (.cells #[.int .i64 0, .int .i64 0, .int .i64 0, .int .i64 0, .int .i64 0, .int .i64 0, .int .i64 0, .int .i64 0] 23)) (w.heap.size + 1) (fun _ => 0) := by
    have := StyAt.new (w.alloc (.cells (valL k n).toArray 26)) (fun _ => 0)
    rwa [World.size_alloc] at this
  simp only [valL] at b0 kA kR
  go_enter Tryd.func9, Tryd.ntmps9
  go_upto_region 1 with fail
  generalize ((w.alloc _).alloc _ : World) = W at *
  have hr := HR.out W b0
  clear HR
  simp only [sty] at hr
  have hlt := kR.lt
  go_wp2_with fail
  refine hr.mono ?_
  clear hr
  rintro e w1 ⟨rfl, b1⟩
  have b2 : Below w1.heap.size w1 (w1.alloc (.cells #[.int .i64 (rootV 0), .int .i64 (rootV 1), .int .i64 (rootV 2), .int .i64 (rootV 3), .int .i64 (rootV 4), .int .i64 (rootV 5), .int .i64 (rootV 6), .int .i64 (rootV 7)] 23)) := (Below.refl _ _).alloc (Nat.le_refl _) _
  have kC : StyAt (w1.alloc (.cells #[.int .i64 (rootV 0), .int .i64 (rootV 1), .int .i64 (rootV 2), .int .i64 (rootV 3), .int .i64 (rootV 4), .int .i64 (rootV 5), .int .i64 (rootV 6), .int .i64 (rootV 7)] 23)) w1.heap.size rootV := StyAt.new w1 rootV
  have b3 := b1.trans (b2.mono b1.size)
  replace kA := kA.below b3 (by omega)
  replace kR := kR.next b3
  have bw := below_next b0 b3
  have hs1 := b1.size
  clear b0 b1 b2 b3
  go_upto_region 2 with fail
  generalize w1.alloc _ = W1 at *
  have hCs := kC.lt
  have hAC : w.heap.size + 1 < w1.heap.size := by omega
  generalize w1.heap.size = C at *
  clear hlt hs1
  rcases hv with ⟨rfl, hu⟩ | ⟨pb, po, rfl, hpb, hsrc⟩
  case' inl =>
    obtain ⟨W2, rfl⟩ : ∃ W2, W2 = W1 := ⟨_, rfl⟩
    replace kC : StyAt W2 C u := by rw [hu]; exact kC
    clear hu
    go_upto_region 4 with fail
  case' inr =>
    obtain ⟨p0, p1, p2, p3, p4, p5, p6, p7⟩ := (hsrc.below bw hpb).cells
    obtain ⟨f0, f1, f2, f3, f4, f5, f6, f7⟩ := kC.thaw
    obtain ⟨d0, d1, d2, d3, d4, d5, d6, d7⟩ := kC.cells
    have g := grown_set8 W1 C u
    have kA2 : ValAt (set8 W1 C u) w.heap.size k n := Blk.kept kA g (by simp; omega)
    have kR2 : StyAt (set8 W1 C u) (w.heap.size + 1) (fun _ => 0) := Blk.kept kR g (by simp; omega)
    have kC2 := kC.set8 u
    have bw2 := below_grown bw g bw.size (by omega)
    have hCs2 := kC2.lt
    clear g
    go_upto_region 4 with fail
    change Code.wp _ _ _ _ (set8 W1 C u)
    clear d0 d1 d2 d3 d4 d5 d6 d7 f0 f1 f2 f3 f4 f5 f6 f7 p0 p1 p2 p3 p4 p5 p6 p7 hsrc
    replace kA := kA2
    replace kR := kR2
    replace kC := kC2
    replace bw := bw2
    replace hCs := hCs2
    clear kA2 kR2 kC2 bw2 hCs2
    generalize set8 W1 C u = W2 at *
    clear hpb
  all_goals
    have b4 : Below W2.heap.size W2 (W2.alloc (.cells #[.int .i64 0, .int .i64 0, .int .i64 0, .int .i64 0, .int .i64 0, .int .i64 0, .int .i64 0, .int .i64 0] 23)) := (Below.refl _ _).alloc (Nat.le_refl _) _
    have kD : StyAt (W2.alloc (.cells #[.int .i64 0, .int .i64 0, .int .i64 0, .int .i64 0, .int .i64 0, .int .i64 0, .int .i64 0, .int .i64 0] 23)) W2.heap.size (fun _ => 0) := StyAt.new W2 (fun _ => 0)
    replace kA := kA.below b4 (by omega)
    replace kR := kR.next b4
    replace kC := kC.next b4
    replace bw := below_next bw b4
    clear b4
    go_upto_region 5 with fail
    generalize W2.alloc _ = W3 at *
    generalize W2.heap.size = D at *
    have hD := kD.lt
    have hc := HC.out W3 1 1 (u 1) (by decide) rfl bw
    replace hc : Calls Tryd.prog 13 #[.int .i64 1, .agg #[.int .i64 (k 1), .int .i64 (n 1)], .agg #[.int .i64 (u 0), .int .i64 (u 1), .int .i64 (u 2), .int .i64 (u 3), .int .i64 (u 4), .int .i64 (u 5), .int .i64 (u 6), .int .i64 (u 7)], .int .i64 (u 1)] W3 fun e w' => e = .returned (.int .i64 (V 1)) ∧ Below W3.heap.size W3 w' := by rw [← HO1.out]; exact hc
    clear HO1
    obtain ⟨a1, a2⟩ := kA.cell (p := 1) (by decide)
    replace a1 : W3.cell? ⟨w.heap.size, 2, none⟩ = some (.int .i64 (k 1)) := a1
    replace a2 : W3.cell? ⟨w.heap.size, 3, none⟩ = some (.int .i64 (n 1)) := a2
    obtain ⟨c0, c1, c2, c3, c4, c5, c6, c7⟩ := kC.cells
    go_wp2_with fail
    refine hc.mono ?_
    clear hc
    rintro e w4 ⟨rfl, b4⟩
    clear a1 a2 c0 c1 c2 c3 c4 c5 c6 c7
    replace kA := kA.below b4 (by omega)
    replace kR := kR.next b4
    replace kC := kC.next b4
    replace kD := kD.next b4
    replace bw := below_next bw b4
    obtain ⟨d1, f1⟩ := kD.cell (p := 1) (by decide)
    have g := grown_set w4 D 1 (.int .i64 (V 1))
    have kA2 : ValAt (w4.setCell ⟨D, 1, none⟩ (.int .i64 (V 1))) w.heap.size k n := Blk.kept kA g (by simp; omega)
    have kR2 := kR.set (by omega : w.heap.size + 1 ≠ D) 1 (.int .i64 (V 1))
    have kC2 := kC.set (by omega : C ≠ D) 1 (.int .i64 (V 1))
    have kD2 := (kD.put (p := 1) (by decide) (V 1)).ext (s' := partV V 0) (fun i _ => by by_cases e : i = 1 <;> simp [partV, putV, e])
    have bw2 := below_grown bw g bw.size (by omega)
    clear g b4 kA kR kC kD bw hD
    go_upto_region 6 with fail
    clear d1 f1
    generalize World.setCell _ _ _ = W5 at *
    have hrow := kA2
    unfold ValAt Blk at hrow
    refine wp_region_lit ?_
    refine wpList_load_row rfl 26 _ rfl w.heap.size rfl 26 (valL k n).toArray (0, 0) _ hrow Tryd.underlying26 rfl infoVals ?_
    clear hrow kA2
    have HIY := HIX
    change Hid (∀ (w : World) (p : Nat), p < 8 → (Instr.index 26 (.agg (valL k n).toArray) (.int .i64 p)).run Tryd.prog w = .ok (.agg #[.int .i64 (k p), .int .i64 (n p)]) w) at HIY
    clear HIX
    generalize Value.agg (valL k n).toArray = row at *
    go_wp2
    go_loopw [23] (fun i wr => ∃ p : Nat, i = .int .i64 p ∧ p ≤ 8 ∧ StyAt wr (w.heap.size + 1) (fun _ => 0) ∧ StyAt wr C u ∧ StyAt wr D (partV V p) ∧ Below w.heap.size w wr) (fun i _ => 8 - (intOf i).toNat)
    case atStart => exact ⟨0, rfl, by omega, kR2, kC2, kD2, bw2⟩
    case round =>
      clear kR2 kC2 kD2 bw2
      obtain ⟨p, rfl, hp, hR, hC, hD, hb⟩ := hrel
      by_cases hlt : p < 8
      · have hki : (p : Int) < 8 := by omega
        have hi := HIY.out wr p hlt
        clear HIY
        by_cases hp1 : p = 1
        · subst hp1
          replace hi : (Instr.index 26 row (.int .i64 1)).run Tryd.prog wr = .ok (.agg #[.int .i64 (k 1), .int .i64 (n 1)]) wr := hi
          have hD1 := hD.ext (s' := partV V (1 + 1)) (fun i hi => by
            unfold partV
            by_cases e : i = 1
            · simp [e]
            · by_cases e0 : i = 0
              · simp [e0]
              · rw [if_neg (by omega), if_neg (by omega)])
          have bX : Below wr.heap.size wr (wr.alloc (.cells #[.int .i64 (k 1), .int .i64 (n 1)] 25)) := (Below.refl _ _).alloc (Nat.le_refl _) _
          have hD2 := hD1.next bX
          have hR2 := hR.next bX
          have hC2 := hC.next bX
          have hb2 := below_next hb bX
          clear hD1 hD hR hC hb bX hlt hp HOp HC
          go_wp2
          exact ⟨⟨1 + 1, by go_num, by omega, hR2, hC2, hD2, hb2⟩, by simp [intOf]⟩
        · have hne : ((p : Int) != 1) = true := by simp; omega
          have bX : Below wr.heap.size wr (wr.alloc (.cells #[.int .i64 (k p), .int .i64 (n p)] 25)) := (Below.refl _ _).alloc (Nat.le_refl _) _
          have kX : Blk (wr.alloc (.cells #[.int .i64 (k p), .int .i64 (n p)] 25)) wr.heap.size 25 [.int .i64 (k p), .int .i64 (n p)] := Blk.new wr _ _
          have hs := hD.lt
          replace hD := hD.next bX
          replace hR := hR.next bX
          replace hC := hC.next bX
          replace hb := below_next hb bX
          clear bX
          have hcp := HC.out _ p p (V 1) hlt rfl hb
          rw [HOp.out p hp1] at hcp
          clear HOp HC hp1
          go_upto_region 9 with fail
          generalize wr.alloc _ = wx at *
          obtain ⟨⟨x0, x1⟩, _⟩ := blk2 kX
          obtain ⟨c0, c1, c2, c3, c4, c5, c6, c7⟩ := hC.cells
          have e1 : partV V p 1 = V 1 := if_pos (.inr rfl)
          have d1 := (hD.cell (p := 1) (by decide)).1
          rw [e1] at d1
          clear e1 kX hi
          generalize wr.heap.size = X at *
          go_wp2_with fail
          refine hcp.mono ?_
          clear hcp
          rintro e w6 ⟨rfl, b6⟩
          clear x0 x1 c0 c1 c2 c3 c4 c5 c6 c7 d1
          replace hD := hD.next b6
          replace hR := hR.next b6
          replace hC := hC.next b6
          replace hb := below_next hb b6
          clear b6
          obtain ⟨q1, q2⟩ := hD.cell hlt
          have hD2 := (hD.put hlt (V p)).ext (s' := partV V (p + 1)) (fun i _ => by
            unfold partV putV
            by_cases e : i = p
            · subst e; simp
            · show (if i < p + 1 ∨ i = 1 then V i else 0) = if i = p then V p else if i < p ∨ i = 1 then V i else 0
              rw [if_neg e]
              by_cases e1 : i < p ∨ i = 1
              · rw [if_pos e1, if_pos (by omega)]
              · rw [if_neg e1, if_neg (by omega)])
          have hR2 := hR.set (by omega : w.heap.size + 1 ≠ D) p (.int .i64 (V p))
          have hC2 := hC.set (by omega : C ≠ D) p (.int .i64 (V p))
          have hb2 := below_grown hb (grown_set w6 D p (.int .i64 (V p))) hb.size (by omega)
          clear hD hR hC hb
          go_wp2
          exact ⟨⟨p + 1, by go_num, by omega, hR2, hC2, hD2, hb2⟩, by simp [intOf]; omega⟩
      · have hki : ¬ (p : Int) < 8 := by omega
        obtain rfl : p = 8 := by omega
        replace hD : StyAt wr D V := hD.ext (fun i hi => (if_pos (.inl hi)).symm)
        obtain ⟨c0, c1, c2, c3, c4, c5, c6, c7⟩ := hD.cells
        obtain ⟨d0, d1, d2, d3, d4, d5, d6, d7⟩ := hR.cells
        obtain ⟨f0, f1, f2, f3, f4, f5, f6, f7⟩ := hR.thaw
        have hz := below_grown hb (grown_set8 wr (w.heap.size + 1) V) (by have := hR.lt; omega) (by omega)
        have hl := load_sty (hR.set8 V)
        clear hD hC HIY HC HOp
        go_wp2
        refine bodyPost_ret (results_struct rfl _ _ (w.heap.size + 1) _ rfl hl) rfl ?_
        exact ⟨rfl, hz⟩

end Go.Proofs.YtacdgfjmmomkpaaDoor.Cp
