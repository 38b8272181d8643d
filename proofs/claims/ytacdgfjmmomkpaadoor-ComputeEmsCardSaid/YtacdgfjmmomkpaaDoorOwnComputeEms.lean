/- For all sizes and numbers: the law tapestrierlaw16.ComputeEms returns true and leaves its arguments as they were; no condition (its card: the table of properties read off the program's text). -/
import Derived.Test.YtacdgfjmmomkpaaDoorCpAlive
namespace Go.Proofs.YtacdgfjmmomkpaaDoor
open Go Go.ChangeShapes Go.WideShapes Go.ChangeAt Go.RowKit Vl Cp

theorem mul_bd {a b A B : Int} (a0 : 0 ≤ a) (a1 : a ≤ A) (b0 : 0 ≤ b) (b1 : b ≤ B) : 0 ≤ a * b ∧ a * b ≤ A * B :=
  ⟨Int.mul_nonneg a0 b0, Int.mul_le_mul a1 b1 b0 (by omega)⟩
theorem tdiv_bd {a A d : Int} (hd : 0 < d) (a0 : 0 ≤ a) (a1 : a ≤ A * d) : 0 ≤ a.tdiv d ∧ a.tdiv d ≤ A := by
  rw [Int.tdiv_eq_ediv_of_nonneg a0]
  refine ⟨Int.ediv_nonneg a0 (by omega), ?_⟩
  have := Int.ediv_le_ediv hd a1
  rwa [Int.mul_ediv_cancel _ (by omega)] at this
theorem ems_plain {size own n : Int} (s0 : 0 ≤ size) (s1 : size ≤ 100000) (o0 : 0 ≤ own) (o1 : own ≤ 4000) (n0 : 0 ≤ n) (n1 : n ≤ 4000) :
    ofV (putV (putV (putV (fun _ => 0) 1 3) 4 3) 5 3) (putV (putV (putV (fun _ => 0) 1 own) 4 n) 5 (-n)) (putV rootV 1 size) 1 = (size * own).tdiv 1000 ∧
    ofV (putV (putV (putV (fun _ => 0) 1 3) 4 3) 5 3) (putV (putV (putV (fun _ => 0) 1 own) 4 n) 5 (-n)) (putV rootV 1 size) 4 = ((size * own).tdiv 1000 * n).tdiv 1000 ∧
    ofV (putV (putV (putV (fun _ => 0) 1 3) 4 3) 5 3) (putV (putV (putV (fun _ => 0) 1 own) 4 n) 5 (-n)) (putV rootV 1 size) 5 = -((size * own).tdiv 1000 * n).tdiv 1000 ∧
    ofV (putV (putV (putV (putV (fun _ => 0) 1 3) 4 3) 5 3) 1 4) (putV (putV (putV (putV (fun _ => 0) 1 own) 4 n) 5 (-n)) 1 own) (putV rootV 1 size) 1 = ((size * own).tdiv 1000).tdiv 100 := by
  obtain ⟨m0, m1⟩ := mul_bd s0 s1 o0 o1
  obtain ⟨i0, i1⟩ := tdiv_bd (d := 1000) (by decide) m0 (show size * own ≤ 400000 * 1000 by omega)
  obtain ⟨q0, q1⟩ := mul_bd i0 i1 n0 n1
  obtain ⟨d0, d1⟩ := tdiv_bd (d := 1000) (by decide) q0 (show (size * own).tdiv 1000 * n ≤ 1600000 * 1000 by omega)
  have cs : capI size = size := capI_in (by omega) (by omega)
  have co : capI own = own := capI_in (by omega) (by omega)
  have cn : capI n = n := capI_in (by omega) (by omega)
  have cm : capI (-n) = -n := capI_in (by omega) (by omega)
  have t1 : timesV size own = (size * own).tdiv 1000 := by
    unfold timesV
    rw [cs, co]
    exact capI_in (by omega) (by omega)
  have h1 : compV 1 3 own size size = (size * own).tdiv 1000 := by
    simp [compV, ownV, Cp.lenV, co, t1]
  have hp : compV 1 4 own size size = ((size * own).tdiv 1000).tdiv 100 := by
    simp [compV, ownV, pctV, co, t1]
  generalize (size * own).tdiv 1000 = i at *
  have ci : capI i = i := capI_in (by omega) (by omega)
  have t4 : timesV i n = (i * n).tdiv 1000 := by
    unfold timesV
    rw [ci, cn]
    exact capI_in (by omega) (by omega)
  have e5 : (i * -n).tdiv 1000 = -(i * n).tdiv 1000 := by rw [Int.mul_neg, Int.neg_tdiv]
  have t5 : timesV i (-n) = -(i * n).tdiv 1000 := by
    unfold timesV
    rw [ci, cm, e5]
    exact capI_in (by omega) (by omega)
  have h4 : compV 4 3 n (rootV 4) i = (i * n).tdiv 1000 := by
    simp [compV, ownV, Cp.lenV, cn, t4]
  have h5 : compV 5 3 (-n) (rootV 5) i = -(i * n).tdiv 1000 := by
    simp [compV, ownV, Cp.lenV, cm, t5]
  refine ⟨?_, ?_, ?_, ?_⟩
  · exact h1
  · rw [← h4, ← h1]
    rfl
  · rw [← h5, ← h1]
    rfl
  · exact hp

set_option maxRecDepth 100000 in
set_option maxHeartbeats 1000000 in
theorem computeEms_walk (w : World) (hP : PropsAt w.heap.size w) (size : Int) (_ws : (Lit.int .i64 size).wf = true) (own : Int) (_wo : (Lit.int .i64 own).wf = true) (n : Int) (_wn : (Lit.int .i64 n).wf = true) :
    Calls Tryd.prog 5 #[.int .i64 size, .int .i64 own, .int .i64 n] w fun e w' => e = .returned (.bool true) ∧ Below w.heap.size w w' := by
  have hc := alive_any w hP
  have HR : Hid (∀ X, Below w.heap.size w X → Calls Tryd.prog 11 #[] X fun e w' => e = .returned (sty rootV) ∧ Below X.heap.size X w') := fun X hb => root_any X (hP.next hb)
  have HO : Hid (∀ (v : Value) (k n u : Nat → Int) (X : World), Below w.heap.size w X → ParAt X v u → Calls Tryd.prog 9 #[v, vls k n] X fun e w' => e = .returned (sty (ofV k n u)) ∧ Below X.heap.size X w') := fun v k n u X hb hv => of_any v k n u X (hP.next hb) hv
  clear hP
  go_enter Tryd.func5, Tryd.ntmps5
  go_wp2_with fail
  refine hc.mono ?_
  clear hc
  rintro e w1 ⟨rfl, b1⟩
  by_cases s0 : size < 0
  · clear HR HO
    go_wp2
    go_ret
    exact ⟨rfl, b1⟩
  by_cases s1 : 100000 < size
  · clear HR HO
    go_wp2
    go_ret
    exact ⟨rfl, b1⟩
  by_cases o0 : own < 0
  · clear HR HO
    go_wp2
    go_ret
    exact ⟨rfl, b1⟩
  by_cases o1 : 4000 < own
  · clear HR HO
    go_wp2
    go_ret
    exact ⟨rfl, b1⟩
  by_cases n0 : n < 0
  · clear HR HO
    go_wp2
    go_ret
    exact ⟨rfl, b1⟩
  by_cases n1 : 4000 < n
  · clear HR HO
    go_wp2
    go_ret
    exact ⟨rfl, b1⟩
  have HV : Hid _ := ems_plain (size := size) (own := own) (n := n) (by omega) (by omega) (by omega) (by omega) (by omega) (by omega)
  go_upto_region 4 with fail
  have hc := HR.out w1 b1
  clear HR
  go_wp2_with fail
  refine hc.mono ?_
  clear hc
  rintro e w2 ⟨rfl, b2⟩
  have b3 : Below w2.heap.size w2 (w2.alloc (.cells (styL rootV).toArray 23)) := (Below.refl _ _).alloc (Nat.le_refl _) _
  have kU := StyAt.new w2 rootV
  simp only [styL] at kU b3
  have bw := below_next (below_next b1 b2) b3
  have hs1 := b1.size
  have hs2 := b2.size
  clear b1 b2 b3
  go_upto_region 5 with fail
  generalize w2.alloc _ = W2 at *
  have hUw : w.heap.size ≤ w2.heap.size := by omega
  clear hs1 hs2
  generalize w2.heap.size = U at *
  obtain ⟨u1, f1⟩ := kU.cell (p := 1) (by decide)
  have kUN := kU.put (p := 1) (by decide) size
  have bwN := below_grown bw (grown_set W2 U 1 (.int .i64 size)) bw.size (by omega)
  clear kU bw
  go_upto_region 6 with fail
  clear u1 f1
  generalize W2.setCell _ _ = W3 at *
  have kU := kUN
  have bw := bwN
  clear kUN bwN
  have hUs := kU.lt
  have b3 : Below W3.heap.size W3 (W3.alloc (.cells #[.int .i64 0, .int .i64 0, .int .i64 0, .int .i64 0, .int .i64 0, .int .i64 0, .int .i64 0, .int .i64 0, .int .i64 0, .int .i64 0, .int .i64 0, .int .i64 0, .int .i64 0, .int .i64 0, .int .i64 0, .int .i64 0] 26)) := (Below.refl _ _).alloc (Nat.le_refl _) _
  have kV : ValAt (W3.alloc (.cells #[.int .i64 0, .int .i64 0, .int .i64 0, .int .i64 0, .int .i64 0, .int .i64 0, .int .i64 0, .int .i64 0, .int .i64 0, .int .i64 0, .int .i64 0, .int .i64 0, .int .i64 0, .int .i64 0, .int .i64 0, .int .i64 0] 26)) W3.heap.size (fun _ => 0) (fun _ => 0) := ValAt.new W3 (fun _ => 0) (fun _ => 0)
  replace kU := kU.next b3
  replace bw := below_next bw b3
  clear b3
  go_upto_region 7 with fail
  generalize W3.alloc _ = W4 at *
  generalize W3.heap.size = B at *
  obtain ⟨v1, v2⟩ := kV.cell (p := 1) (by decide)
  replace v1 : W4.cell? ⟨B, 2, none⟩ = some (.int .i64 ((fun _ => 0) 1)) := v1
  replace v2 : W4.cell? ⟨B, 3, none⟩ = some (.int .i64 ((fun _ => 0) 1)) := v2
  have f2 := kV.thaw 2
  have f3 := kV.thaw 3
  have kVN : ValAt ((W4.setCell ⟨B, 2, none⟩ (.int .i64 3)).setCell ⟨B, 3, none⟩ (.int .i64 own)) B (putV (fun _ => 0) 1 3) (putV (fun _ => 0) 1 own) := kV.put2 (p := 1) (by decide) _ _
  have kUN : StyAt ((W4.setCell ⟨B, 2, none⟩ (.int .i64 3)).setCell ⟨B, 3, none⟩ (.int .i64 own)) U (putV rootV 1 size) := kU.set2 (by omega) _ _ _ _
  have bwN : Below w.heap.size w ((W4.setCell ⟨B, 2, none⟩ (.int .i64 3)).setCell ⟨B, 3, none⟩ (.int .i64 own)) := below_set2 bw (by omega) _ _ _ _
  clear kV kU bw
  go_upto_region 8 with fail
  clear v1 v2 f2 f3
  generalize (W4.setCell _ _).setCell _ _ = W5 at *
  have kV := kVN
  have kU := kUN
  have bw := bwN
  clear kVN kUN bwN
  obtain ⟨v1, v2⟩ := kV.cell (p := 4) (by decide)
  replace v1 : W5.cell? ⟨B, 8, none⟩ = some (.int .i64 ((putV (fun _ => 0) 1 3) 4)) := v1
  replace v2 : W5.cell? ⟨B, 9, none⟩ = some (.int .i64 ((putV (fun _ => 0) 1 own) 4)) := v2
  have f2 := kV.thaw 8
  have f3 := kV.thaw 9
  have kVN : ValAt ((W5.setCell ⟨B, 8, none⟩ (.int .i64 3)).setCell ⟨B, 9, none⟩ (.int .i64 n)) B (putV (putV (fun _ => 0) 1 3) 4 3) (putV (putV (fun _ => 0) 1 own) 4 n) := kV.put2 (p := 4) (by decide) _ _
  have kUN : StyAt ((W5.setCell ⟨B, 8, none⟩ (.int .i64 3)).setCell ⟨B, 9, none⟩ (.int .i64 n)) U (putV rootV 1 size) := kU.set2 (by omega) _ _ _ _
  have bwN : Below w.heap.size w ((W5.setCell ⟨B, 8, none⟩ (.int .i64 3)).setCell ⟨B, 9, none⟩ (.int .i64 n)) := below_set2 bw (by omega) _ _ _ _
  clear kV kU bw
  go_upto_region 9 with fail
  clear v1 v2 f2 f3
  generalize (W5.setCell _ _).setCell _ _ = W6 at *
  have kV := kVN
  have kU := kUN
  have bw := bwN
  clear kVN kUN bwN
  obtain ⟨v1, v2⟩ := kV.cell (p := 5) (by decide)
  replace v1 : W6.cell? ⟨B, 10, none⟩ = some (.int .i64 ((putV (putV (fun _ => 0) 1 3) 4 3) 5)) := v1
  replace v2 : W6.cell? ⟨B, 11, none⟩ = some (.int .i64 ((putV (putV (fun _ => 0) 1 own) 4 n) 5)) := v2
  have f2 := kV.thaw 10
  have f3 := kV.thaw 11
  have kVN : ValAt ((W6.setCell ⟨B, 10, none⟩ (.int .i64 3)).setCell ⟨B, 11, none⟩ (.int .i64 (-n))) B (putV (putV (putV (fun _ => 0) 1 3) 4 3) 5 3) (putV (putV (putV (fun _ => 0) 1 own) 4 n) 5 (-n)) := kV.put2 (p := 5) (by decide) _ _
  have kUN : StyAt ((W6.setCell ⟨B, 10, none⟩ (.int .i64 3)).setCell ⟨B, 11, none⟩ (.int .i64 (-n))) U (putV rootV 1 size) := kU.set2 (by omega) _ _ _ _
  have bwN : Below w.heap.size w ((W6.setCell ⟨B, 10, none⟩ (.int .i64 3)).setCell ⟨B, 11, none⟩ (.int .i64 (-n))) := below_set2 bw (by omega) _ _ _ _
  clear kV kU bw
  go_upto_region 10 with fail
  clear v1 v2 f2 f3
  generalize (W6.setCell _ _).setCell _ _ = W7 at *
  have kV := kVN
  have kU := kUN
  have bw := bwN
  clear kVN kUN bwN
  obtain ⟨V, hV⟩ : ∃ V, ofV (putV (putV (putV (fun _ => 0) 1 3) 4 3) 5 3) (putV (putV (putV (fun _ => 0) 1 own) 4 n) 5 (-n)) (putV rootV 1 size) = V := ⟨_, rfl⟩
  obtain ⟨V2, hV2⟩ : ∃ V, ofV (putV (putV (putV (putV (fun _ => 0) 1 3) 4 3) 5 3) 1 4) (putV (putV (putV (putV (fun _ => 0) 1 own) 4 n) 5 (-n)) 1 own) (putV rootV 1 size) = V := ⟨_, rfl⟩
  rw [hV, hV2] at HV
  have hc : Calls Tryd.prog 9 #[.pointer (some ⟨U, 0, none⟩), vls (putV (putV (putV (fun _ => 0) 1 3) 4 3) 5 3) (putV (putV (putV (fun _ => 0) 1 own) 4 n) 5 (-n))] W7 fun e w' => e = .returned (sty V) ∧ Below W7.heap.size W7 w' := by
    rw [← hV]
    exact HO.out _ _ _ (putV rootV 1 size) W7 bw kU.par
  obtain ⟨c0, c1, c2, c3, c4, c5, c6, c7, c8, c9, c10, c11, c12, c13, c14, c15⟩ := kV.cells
  go_wp2_with fail
  refine hc.mono ?_
  clear hc c0 c1 c2 c3 c4 c5 c6 c7 c8 c9 c10 c11 c12 c13 c14 c15
  rintro e w8 ⟨rfl, b2⟩
  have b3 : Below w8.heap.size w8 (w8.alloc (.cells (styL V).toArray 23)) := (Below.refl _ _).alloc (Nat.le_refl _) _
  have kS := StyAt.new w8 V
  simp only [styL] at kS b3
  replace kU := kU.next b2
  have lkUS := kU.lt
  replace kU := kU.next b3
  replace kV := kV.next b2
  have lkVS := kV.lt
  replace kV := kV.next b3
  replace bw := below_next (below_next bw b2) b3
  clear b2 b3
  go_upto_region 11 with fail
  generalize w8.alloc _ = W8 at *
  generalize w8.heap.size = S at *
  clear hV
  obtain ⟨v1, v2⟩ := kV.cell (p := 1) (by decide)
  replace v1 : W8.cell? ⟨B, 2, none⟩ = some (.int .i64 ((putV (putV (putV (fun _ => 0) 1 3) 4 3) 5 3) 1)) := v1
  replace v2 : W8.cell? ⟨B, 3, none⟩ = some (.int .i64 ((putV (putV (putV (fun _ => 0) 1 own) 4 n) 5 (-n)) 1)) := v2
  have f2 := kV.thaw 2
  have f3 := kV.thaw 3
  have kVN : ValAt ((W8.setCell ⟨B, 2, none⟩ (.int .i64 4)).setCell ⟨B, 3, none⟩ (.int .i64 own)) B (putV (putV (putV (putV (fun _ => 0) 1 3) 4 3) 5 3) 1 4) (putV (putV (putV (putV (fun _ => 0) 1 own) 4 n) 5 (-n)) 1 own) := kV.put2 (p := 1) (by decide) _ _
  have kUN : StyAt ((W8.setCell ⟨B, 2, none⟩ (.int .i64 4)).setCell ⟨B, 3, none⟩ (.int .i64 own)) U (putV rootV 1 size) := kU.set2 (by omega) _ _ _ _
  have kSN : StyAt ((W8.setCell ⟨B, 2, none⟩ (.int .i64 4)).setCell ⟨B, 3, none⟩ (.int .i64 own)) S V := kS.set2 (by omega) _ _ _ _
  have bwN : Below w.heap.size w ((W8.setCell ⟨B, 2, none⟩ (.int .i64 4)).setCell ⟨B, 3, none⟩ (.int .i64 own)) := below_set2 bw (by omega) _ _ _ _
  clear kV kU kS bw
  go_upto_region 12 with fail
  clear v1 v2 f2 f3
  generalize (W8.setCell _ _).setCell _ _ = W9 at *
  have kV := kVN
  have kU := kUN
  have kS := kSN
  have bw := bwN
  clear kVN kUN kSN bwN
  have hc : Calls Tryd.prog 9 #[.pointer (some ⟨U, 0, none⟩), vls (putV (putV (putV (putV (fun _ => 0) 1 3) 4 3) 5 3) 1 4) (putV (putV (putV (putV (fun _ => 0) 1 own) 4 n) 5 (-n)) 1 own)] W9 fun e w' => e = .returned (sty V2) ∧ Below W9.heap.size W9 w' := by
    rw [← hV2]
    exact HO.out _ _ _ (putV rootV 1 size) W9 bw kU.par
  obtain ⟨c0, c1, c2, c3, c4, c5, c6, c7, c8, c9, c10, c11, c12, c13, c14, c15⟩ := kV.cells
  go_wp2_with fail
  refine hc.mono ?_
  clear hc c0 c1 c2 c3 c4 c5 c6 c7 c8 c9 c10 c11 c12 c13 c14 c15
  rintro e w10 ⟨rfl, b2⟩
  have b3 : Below w10.heap.size w10 (w10.alloc (.cells (styL V2).toArray 23)) := (Below.refl _ _).alloc (Nat.le_refl _) _
  have kS2 := StyAt.new w10 V2
  simp only [styL] at kS2 b3
  replace kS := kS.next b2
  have lkSS2 := kS.lt
  replace kS := kS.next b3
  replace bw := below_next (below_next bw b2) b3
  clear b2 b3
  go_upto_region 13 with fail
  generalize w10.alloc _ = W10 at *
  generalize w10.heap.size = S2 at *
  clear hV2 HO kU kV
  obtain ⟨e1, e4, e5, e6⟩ := HV.out
  have x1 := (kS.cell (p := 1) (by decide)).1
  have x4 := (kS.cell (p := 4) (by decide)).1
  have x5 := (kS.cell (p := 5) (by decide)).1
  have x6 := (kS2.cell (p := 1) (by decide)).1
  rw [e1] at x1
  rw [e4] at x4
  rw [e5] at x5
  clear kS kS2 HV e1 e4 e5
  obtain ⟨m0, m1⟩ := mul_bd (show 0 ≤ size by omega) (show size ≤ 100000 by omega) (show 0 ≤ own by omega) (show own ≤ 4000 by omega)
  obtain ⟨i0, i1⟩ := tdiv_bd (d := 1000) (by decide) m0 (show size * own ≤ 400000 * 1000 by omega)
  rw [e6, Int.tdiv_eq_ediv_of_nonneg i0] at x6
  clear e6
  obtain ⟨q0, q1⟩ := mul_bd i0 i1 (show 0 ≤ n by omega) (show n ≤ 4000 by omega)
  obtain ⟨d0, d1⟩ := tdiv_bd (d := 1000) (by decide) q0 (show (size * own).tdiv 1000 * n ≤ 1600000 * 1000 by omega)
  clear s0 s1 o0 o1 n0 n1
  go_wp2
  go_ret
  exact ⟨rfl, bw⟩

theorem computeEms_met (os : Os) : laidMet Tryd.prog Rows.computeEmsRow.laid ((laidIn (World.holding Tryd.prog os ⟨#[], #[], []⟩)).forCall (fun _ _ => 0) ⟨#[], #[.int .i64 0, .int .i64 0, .int .i64 0], []⟩).memory :=
  laidMet_of_run' 8 (by kernel_rfl) (by kernel_rfl)
theorem computeEms_reads (os : Os) {H : Type} (enc : TypeId × Value → H) : ∃ places, DataW.whole enc Tryd.prog ((laidIn (World.holding Tryd.prog os ⟨#[], #[], []⟩)).forCall (fun _ _ => 0) ⟨#[], #[.int .i64 0, .int .i64 0, .int .i64 0], []⟩).memory Tryd.f5.params.toList Rows.computeEmsSpec.vars false (#[.int .i64 0, .int .i64 0, .int .i64 0] : Array Value).toList 8 = some ([.lit (.int .i64 0), .lit (.int .i64 0), .lit (.int .i64 0)], [], places) :=
  ⟨[], by kernel_rfl⟩

set_option maxRecDepth 100000 in
theorem computeEms_lifted (os : Os) (started : os.Started) (H : Type) (enc : TypeId × Value → H) (F : Stop.Interp) :
    ReturnsInHanded {} Tryd.checked os 5 .any ((OpenSpec.ofChange Rows.computeEmsSpec).preRow enc Tryd.prog Tryd.f5 Rows.computeEmsRow.domain false Rows.computeEmsRow.laid) (((OpenSpec.ofChange Rows.computeEmsSpec).at F).post enc Tryd.prog Tryd.f5 false true false false) := by
  obtain ⟨places, hx⟩ := computeEms_reads os enc
  refine returnsInHanded_of_row (C := Tryd.checked) (s := OpenSpec.ofChange Rows.computeEmsSpec) ownNone started (by kernel_rfl) Tryd.func5
    (witness_row_at (enc := enc) (C := Tryd.checked) false (laidIn (World.holding Tryd.prog os ⟨#[], #[], []⟩)) #[.int .i64 0, .int .i64 0, .int .i64 0] rfl (by kernel_rfl) (by kernel_rfl) (by kernel_rfl)
      (OpenSpec.preRow_of_cond 8 hx (by kernel_rfl) (fun k hk => by cases hk) (by kernel_rfl) (computeEms_met os))) ?_
  intro W base args ds gs before hval hW _ _ _ hL hS _
  have hW' := hW
  obtain ⟨p, q, hA0, hV, rfl, hfz, hnd⟩ := hW
  have hA : DataW.TrodAll enc Tryd.prog W 0 (fun _ => true) true Tryd.f5.params.toList args.toList ds p := hA0
  rw [Tryd.params5] at hA hval
  obtain ⟨v0, vs0, d0, ds0, p0, q0, hargs, rfl, rfl, h0, r0⟩ := trodAll_cons hA
  obtain ⟨v1, vs1, d1, ds1, p1, q1, rfl, rfl, rfl, h1, r1⟩ := trodAll_cons r0
  obtain ⟨v2, vs2, d2, ds2, p2, q2, rfl, rfl, rfl, h2, r2⟩ := trodAll_cons r1
  obtain ⟨rfl, rfl, rfl⟩ := trodAll_nil r2
  obtain rfl : args = #[v0, v1, v2] := by cases args; simp_all
  obtain ⟨rfl, rfl⟩ := trodVars_none hV
  obtain ⟨a0, rfl, rfl, rfl, w0⟩ := open_int Tryd.underlying3 (hval 0 3 v0 rfl rfl) h0
  obtain ⟨a1, rfl, rfl, rfl, w1⟩ := open_int Tryd.underlying3 (hval 1 3 v1 rfl rfl) h1
  obtain ⟨a2, rfl, rfl, rfl, w2⟩ := open_int Tryd.underlying3 (hval 2 3 v2 rfl rfl) h2
  clear hA0
  refine (computeEms_walk W (tabs_of_laid hL hS) a0 w0 a1 w1 a2 w2).mono fun e W' ⟨he, bel⟩ => ?_
  subst he
  exact ⟨_, rfl, _, _, _, [], _, [], hW', trodAll_mk1 (shut_bool Tryd.underlying4 _), (trodAll_cons_mk (shut_int Tryd.underlying3 w0) (trodAll_cons_mk (shut_int Tryd.underlying3 w1) (trodAll_cons_mk (shut_int Tryd.underlying3 w2) trodAll_mk0))), rfl, bel.frame _, fun h => by cases h⟩

theorem computeEms_said : Rows.ComputeEmsSaid :=
  OpenClaim.holds_of_cond 5 Tryd.f5 rfl rfl rfl rfl rfl rfl rfl ⟨rfl, rfl, rfl, rfl, rfl⟩ rfl rfl rfl rfl rfl (by kernel_rfl) Tryd.func5 (by kernel_rfl)
    (of_decide_eq_true (by kernel_rfl)) (by unfold Func.isWrapper; first | (rw [if_pos (by decide +kernel)]; kernel_rfl) | (rw [if_neg (by decide +kernel)]; exact ⟨rfl, rfl⟩))
    (fun os started H enc _ F => by rw [OpenClaim.pre_eq_preRow]; exact computeEms_lifted os started H enc F)

theorem computeEms_plain (f : FuncId) (fn : Func) (hf : Tryd.pinned.checked.prog.funcNamed "tapestrier/tapestrierlaw16.ComputeEms" = some f) (hfn : Tryd.pinned.checked.prog.funcs[f]? = some fn) :
    false = Tryd.pinned.checked.prog.looks [] ∧ ∀ (j : Nat) t, fn.params[j]? = some t → Tryd.pinned.checked.prog.wantsStandIn t = false := by
  obtain rfl : f = 5 := Option.some.inj ((show Tryd.prog.funcNamed "tapestrier/tapestrierlaw16.ComputeEms" = some 5 by kernel_rfl).symm.trans hf) |>.symm
  obtain rfl : fn = Tryd.f5 := (Option.some.inj (Tryd.func5.symm.trans hfn)).symm
  refine ⟨by kernel_rfl, fun j t ht => ?_⟩
  rw [Tryd.params5] at ht
  have hm : t ∈ [3] := by simpa using Array.mem_of_getElem? ht
  have hall : ([3].all fun u => !Tryd.prog.wantsStandIn u) = true := by kernel_rfl
  exact (show Tryd.prog.wantsStandIn t = false by simpa using List.all_eq_true.1 hall t hm)

theorem computeEms_card : Rows.ComputeEmsCardSaid :=
  Claim7.holds_tied_plain_at .later [] _ _ _ _ computeEms_said (fun _ h => by cases h) (by kernel_rfl) (fun _ h => by cases h) computeEms_row_tie rfl ⟨rfl, rfl⟩ (by kernel_rfl) rfl computeEms_plain (by kernel_rfl)
#print axioms computeEms_card

end Go.Proofs.YtacdgfjmmomkpaaDoor
