/- Values in memory that are written; the example that all five laws call. -/
import Derived.Test.YtacdgfjmmomkpaaDoorCpRefS
import Derived.Test.YtacdgfjmmomkpaaDoorCpArgs
namespace Go.Proofs.YtacdgfjmmomkpaaDoor.Cp
open Go Go.RowKit Vl

theorem ValAt.cells {W : World} {B : Nat} {k n : Nat → Int} (h : ValAt W B k n) : W.cell? ⟨B, 0, none⟩ = some (.int .i64 (k 0)) ∧ W.cell? ⟨B, 1, none⟩ = some (.int .i64 (n 0)) ∧ W.cell? ⟨B, 2, none⟩ = some (.int .i64 (k 1)) ∧ W.cell? ⟨B, 3, none⟩ = some (.int .i64 (n 1)) ∧ W.cell? ⟨B, 4, none⟩ = some (.int .i64 (k 2)) ∧ W.cell? ⟨B, 5, none⟩ = some (.int .i64 (n 2)) ∧ W.cell? ⟨B, 6, none⟩ = some (.int .i64 (k 3)) ∧ W.cell? ⟨B, 7, none⟩ = some (.int .i64 (n 3)) ∧ W.cell? ⟨B, 8, none⟩ = some (.int .i64 (k 4)) ∧ W.cell? ⟨B, 9, none⟩ = some (.int .i64 (n 4)) ∧ W.cell? ⟨B, 10, none⟩ = some (.int .i64 (k 5)) ∧ W.cell? ⟨B, 11, none⟩ = some (.int .i64 (n 5)) ∧ W.cell? ⟨B, 12, none⟩ = some (.int .i64 (k 6)) ∧ W.cell? ⟨B, 13, none⟩ = some (.int .i64 (n 6)) ∧ W.cell? ⟨B, 14, none⟩ = some (.int .i64 (k 7)) ∧ W.cell? ⟨B, 15, none⟩ = some (.int .i64 (n 7)) :=
  ⟨(cell_of_block h 0).trans rfl, (cell_of_block h 1).trans rfl, (cell_of_block h 2).trans rfl, (cell_of_block h 3).trans rfl, (cell_of_block h 4).trans rfl, (cell_of_block h 5).trans rfl, (cell_of_block h 6).trans rfl, (cell_of_block h 7).trans rfl, (cell_of_block h 8).trans rfl, (cell_of_block h 9).trans rfl, (cell_of_block h 10).trans rfl, (cell_of_block h 11).trans rfl, (cell_of_block h 12).trans rfl, (cell_of_block h 13).trans rfl, (cell_of_block h 14).trans rfl, (cell_of_block h 15).trans rfl⟩
theorem ValAt.lt {W : World} {B : Nat} {k n : Nat → Int} (h : ValAt W B k n) : B < W.heap.size := Blk.lt h
theorem ValAt.next {X Y : World} {B : Nat} {k n : Nat → Int} (h : ValAt X B k n) (hb : Below X.heap.size X Y) : ValAt Y B k n := ValAt.below h hb h.lt
theorem ValAt.set {W : World} {B b : Nat} {k n : Nat → Int} (h : ValAt W B k n) (hne : B ≠ b) (i : Nat) (v : Value) : ValAt (W.setCell ⟨b, i, none⟩ v) B k n := Blk.kept h (grown_set W b i v) (fun e => hne (by cases e; rfl))
theorem ValAt.thaw {W : World} {B : Nat} {k n : Nat → Int} (h : ValAt W B k n) (i : Nat) : W.frozen? ⟨B, i, none⟩ = false := by simp [World.frozen?, show W.heap[B]? = _ from h]
theorem ValAt.ext {W : World} {B : Nat} {k n k' n' : Nat → Int} (h : ValAt W B k n) (e : ∀ i, i < 8 → k' i = k i ∧ n' i = n i) : ValAt W B k' n' := by
  have : valL k' n' = valL k n := by simp only [valL, e 0 (by decide), e 1 (by decide), e 2 (by decide), e 3 (by decide), e 4 (by decide), e 5 (by decide), e 6 (by decide), e 7 (by decide)]
  unfold ValAt
  rw [this]
  exact h
theorem ValAt.putK {W : World} {B : Nat} {k n : Nat → Int} (h : ValAt W B k n) {p : Nat} (hp : p < 8) (x : Int) : ValAt (W.setCell ⟨B, p * 2, none⟩ (.int .i64 x)) B (putV k p x) n := by
  have hb : B < W.heap.size := h.lt
  have hx : W.heap[B] = .cells (valL k n).toArray 26 (0, 0) := (Array.getElem?_eq_some_iff.1 h).2
  unfold ValAt Blk
  simp only [World.setCell, Array.getElem?_modify, Array.getElem?_eq_getElem hb, hx, Option.map_some]
  congr 2
  obtain rfl | rfl | rfl | rfl | rfl | rfl | rfl | rfl : p = 0 ∨ p = 1 ∨ p = 2 ∨ p = 3 ∨ p = 4 ∨ p = 5 ∨ p = 6 ∨ p = 7 := by omega
  all_goals rfl
theorem ValAt.putN {W : World} {B : Nat} {k n : Nat → Int} (h : ValAt W B k n) {p : Nat} (hp : p < 8) (x : Int) : ValAt (W.setCell ⟨B, p * 2 + 1, none⟩ (.int .i64 x)) B k (putV n p x) := by
  have hb : B < W.heap.size := h.lt
  have hx : W.heap[B] = .cells (valL k n).toArray 26 (0, 0) := (Array.getElem?_eq_some_iff.1 h).2
  unfold ValAt Blk
  simp only [World.setCell, Array.getElem?_modify, Array.getElem?_eq_getElem hb, hx, Option.map_some]
  congr 2
  obtain rfl | rfl | rfl | rfl | rfl | rfl | rfl | rfl : p = 0 ∨ p = 1 ∨ p = 2 ∨ p = 3 ∨ p = 4 ∨ p = 5 ∨ p = 6 ∨ p = 7 := by omega
  all_goals rfl
theorem ValAt.put2 {W : World} {B : Nat} {k n : Nat → Int} (h : ValAt W B k n) {p : Nat} (hp : p < 8) (x y : Int) : ValAt ((W.setCell ⟨B, p * 2, none⟩ (.int .i64 x)).setCell ⟨B, p * 2 + 1, none⟩ (.int .i64 y)) B (putV k p x) (putV n p y) := (h.putK hp x).putN hp y
theorem StyAt.set2 {W : World} {B b : Nat} {s : Nat → Int} (h : StyAt W B s) (hne : B ≠ b) (i j : Nat) (v v' : Value) : StyAt ((W.setCell ⟨b, i, none⟩ v).setCell ⟨b, j, none⟩ v') B s := (h.set hne i v).set hne j v'
theorem ValAt.set2 {W : World} {B b : Nat} {k n : Nat → Int} (h : ValAt W B k n) (hne : B ≠ b) (i j : Nat) (v v' : Value) : ValAt ((W.setCell ⟨b, i, none⟩ v).setCell ⟨b, j, none⟩ v') B k n := (h.set hne i v).set hne j v'
theorem below_set2 {b : Nat} {X Y : World} (h : Below X.heap.size X Y) (hm : X.heap.size ≤ b) (i j : Nat) (v v' : Value) : Below X.heap.size X ((Y.setCell ⟨b, i, none⟩ v).setCell ⟨b, j, none⟩ v') :=
  have hs := grown_set Y b i v
  below_grown (below_grown h hs h.size hm) (grown_set _ b j v') (by have := h.size; simp; omega) hm
theorem load_vls {w : World} {g : Nat} {k n : Nat → Int} (h : ValAt w g k n) : (loadVar 26 ⟨g, 0, none⟩).run Tryd.prog w = .ok (vls k n) w :=
  run_loadVar_row w g _ 26 (valL k n).toArray (0, 0) _ h Tryd.underlying26 rfl infoVals
set_option maxRecDepth 100000 in
set_option maxHeartbeats 400000 in
/-- A style is itself. -/
theorem eq_sty (a : Nat → Int) (w : World) : (Op.equalIn 10000 23 (sty a) (sty a)).run Tryd.prog w = .ok true w := by
  rw [show (10000 : Nat) = 9999 + 1 from rfl, Op.equalIn]
  simp only [Sem.run_bind, run_underlying Tryd.underlying23, Result.andThen_ok]
  simp only [Std.Legacy.Range.forIn_eq_forIn_range', Std.Legacy.Range.size, Nat.sub_zero, Nat.add_sub_cancel, Nat.div_one, List.range'_succ, List.range'_zero, List.forIn_cons, List.forIn_nil]
  go_simp
/-- The style that the block's pointer leads to. -/
theorem StyAt.par {W : World} {B : Nat} {s : Nat → Int} (h : StyAt W B s) : ParAt W (.pointer (some ⟨B, 0, none⟩)) s := .inr ⟨B, 0, rfl, h.lt, h.src⟩

theorem alive_plain : ofV (putV (fun _ => 0) 1 3) (putV (fun _ => 0) 1 2000) (putV rootV 1 10000) 1 = 20000 ∧ ofV (putV (fun _ => 0) 1 3) (putV (fun _ => 0) 1 2000) (putV rootV 1 10000) 4 = -1 := by
  constructor <;> kernel_rfl
set_option maxRecDepth 100000 in
set_option maxHeartbeats 1000000 in
theorem alive_any (w : World) (hP : PropsAt w.heap.size w) : Calls Tryd.prog 8 #[] w fun e w' => e = .returned (.bool true) ∧ Below w.heap.size w w' := by
  have HR := root_any w hP
  have HO : Hid (∀ (v : Value) (k n u : Nat → Int) (X : World), Below w.heap.size w X → ParAt X v u → Calls Tryd.prog 9 #[v, vls k n] X fun e w' => e = .returned (sty (ofV k n u)) ∧ Below X.heap.size X w') := fun v k n u X hb hv => of_any v k n u X (hP.next hb) hv
  clear hP
  obtain ⟨V, hV⟩ : ∃ V, ofV (putV (fun _ => 0) 1 3) (putV (fun _ => 0) 1 2000) (putV rootV 1 10000) = V := ⟨_, rfl⟩
  have h1 := alive_plain.1
  have h4 := alive_plain.2
  rw [hV] at h1 h4
  have H1 : Hid (V 1 = 20000) := h1
  have H4 : Hid (V 4 = -1) := h4
  clear h1 h4
  go_enter Tryd.func8, Tryd.ntmps8
  go_wp2_with fail
  refine HR.mono ?_
  clear HR
  rintro e w1 ⟨rfl, b1⟩
  have b2 : Below w1.heap.size w1 (w1.alloc (.cells (styL rootV).toArray 23)) := (Below.refl _ _).alloc (Nat.le_refl _) _
  have kU := StyAt.new w1 rootV
  have bw := below_next b1 b2
  simp only [styL] at kU bw
  have hs1 := b1.size
  clear b1 b2
  go_upto_region 2 with fail
  generalize w1.alloc _ = W1 at *
  have hU := kU.lt
  obtain ⟨u1, f1⟩ := kU.cell (p := 1) (by decide)
  have kU2 := kU.put (p := 1) (by decide) 10000
  have bw2 := below_grown bw (grown_set W1 w1.heap.size 1 (.int .i64 10000)) bw.size (by omega)
  have hU2 := kU2.lt
  clear kU bw hU
  go_upto_region 3 with fail
  clear u1 f1
  generalize W1.setCell _ _ = W2 at *
  clear W1
  generalize w1.heap.size = U at *
  have b3 : Below W2.heap.size W2 (W2.alloc (.cells #[.int .i64 0, .int .i64 0, .int .i64 0, .int .i64 0, .int .i64 0, .int .i64 0, .int .i64 0, .int .i64 0, .int .i64 0, .int .i64 0, .int .i64 0, .int .i64 0, .int .i64 0, .int .i64 0, .int .i64 0, .int .i64 0] 26)) := (Below.refl _ _).alloc (Nat.le_refl _) _
  have kV : ValAt (W2.alloc (.cells #[.int .i64 0, .int .i64 0, .int .i64 0, .int .i64 0, .int .i64 0, .int .i64 0, .int .i64 0, .int .i64 0, .int .i64 0, .int .i64 0, .int .i64 0, .int .i64 0, .int .i64 0, .int .i64 0, .int .i64 0, .int .i64 0] 26)) W2.heap.size (fun _ => 0) (fun _ => 0) := ValAt.new W2 (fun _ => 0) (fun _ => 0)
  replace kU2 := kU2.next b3
  replace bw2 := below_next bw2 b3
  clear b3
  go_upto_region 4 with fail
  generalize W2.alloc _ = W3 at *
  generalize W2.heap.size = B at *
  have hB := kV.lt
  have v1 := (kV.cell (p := 1) (by decide))
  obtain ⟨v1, v2⟩ := v1
  replace v1 : W3.cell? ⟨B, 2, none⟩ = some (.int .i64 0) := v1
  replace v2 : W3.cell? ⟨B, 3, none⟩ = some (.int .i64 0) := v2
  have f2 := kV.thaw 2
  have f3 := kV.thaw 3
  have kV2 : ValAt ((W3.setCell ⟨B, 2, none⟩ (.int .i64 3)).setCell ⟨B, 3, none⟩ (.int .i64 2000)) B (putV (fun _ => 0) 1 3) (putV (fun _ => 0) 1 2000) := (kV.putK (p := 1) (by decide) 3).putN (p := 1) (by decide) 2000
  have kU3 : StyAt ((W3.setCell ⟨B, 2, none⟩ (.int .i64 3)).setCell ⟨B, 3, none⟩ (.int .i64 2000)) U (putV rootV 1 10000) := (kU2.set (by omega) 2 _).set (by omega) 3 _
  have bw3 : Below w.heap.size w ((W3.setCell ⟨B, 2, none⟩ (.int .i64 3)).setCell ⟨B, 3, none⟩ (.int .i64 2000)) := below_grown (below_grown bw2 (grown_set W3 B 2 (.int .i64 3)) bw2.size (by omega)) (grown_set _ B 3 (.int .i64 2000)) (by have := bw2.size; simp; omega) (by omega)
  clear kV kU2 bw2
  go_upto_region 5 with fail
  clear v1 v2 f2 f3
  generalize (W3.setCell _ _).setCell _ _ = W4 at *
  have hc : Calls Tryd.prog 9 #[.pointer (some ⟨U, 0, none⟩), .agg (valL (putV (fun _ => 0) 1 3) (putV (fun _ => 0) 1 2000)).toArray] W4 fun e w' => e = .returned (sty V) ∧ Below W4.heap.size W4 w' := by
    rw [← hV]
    exact HO.out (.pointer (some ⟨U, 0, none⟩)) (putV (fun _ => 0) 1 3) (putV (fun _ => 0) 1 2000) (putV rootV 1 10000) W4 bw3 kU3.par
  have hrow := kV2
  unfold ValAt Blk at hrow
  refine wp_region_lit ?_
  refine wpList_load_row rfl 26 _ rfl B rfl 26 (valL (putV (fun _ => 0) 1 3) (putV (fun _ => 0) 1 2000)).toArray (0, 0) _ hrow Tryd.underlying26 rfl infoVals ?_
  clear hrow HO hB
  generalize Value.agg (valL (putV (fun _ => 0) 1 3) (putV (fun _ => 0) 1 2000)).toArray = row at *
  go_wp2_with fail
  refine hc.mono ?_
  clear hc
  rintro e w5 ⟨rfl, b5⟩
  have b6 : Below w5.heap.size w5 (w5.alloc (.cells (styL V).toArray 23)) := (Below.refl _ _).alloc (Nat.le_refl _) _
  have kS := StyAt.new w5 V
  have bw5 := below_next (below_next bw3 b5) b6
  simp only [styL] at kS bw5
  clear b5 b6
  go_upto_region 6 with fail
  generalize w5.alloc _ = W5 at *
  have s1 := (kS.cell (p := 1) (by decide)).1
  have s4 := (kS.cell (p := 4) (by decide)).1
  rw [H1.out] at s1
  rw [H4.out] at s4
  clear kS
  go_wp2
  go_ret
  exact ⟨rfl, bw5⟩

end Go.Proofs.YtacdgfjmmomkpaaDoor.Cp
