/- For every integer and every two bools: the law tapestrierlaw8.SelCombs returns true and leaves its arguments as they were; no condition (its card: the table of operators read off the program's text). -/
import Derived.Test.YtgaacafpcimbaabDoorSlAlv
import Derived.Test.YtgaacafpcimbaabDoorSlLaid
namespace Go.Proofs.YtgaacafpcimbaabDoor
open Go Go.ChangeShapes Go.WideShapes Go.ChangeAt Go.RowKit Sl
open Go.ChangeMaps (open_string shut_string)

def combYes (s : ByteArray) (n : Int) : Bool := decide (s.size ≤ 100) && match ofV s with
  | some [[(a, c1), (b, c2)]] => decide (a = 0) && decide (b = n) && decide (c1.tag.data = #[97]) && decide (c2.classes.length = 1)
  | _ => false
def combNo (s : ByteArray) : Bool := decide (s.size ≤ 100) && (ofV s).isNone
theorem combYes_is {s : ByteArray} {n : Int} (h : combYes s n = true) : s.size ≤ 100 ∧ ∃ c1 c2 : Cp, parseV (tksB s.data.toList) = some [[(0, c1), (n, c2)]] ∧ c1.tag = ⟨#[97]⟩ ∧ c2.classes.length = 1 := by
  unfold combYes at h
  rw [Bool.and_eq_true] at h
  refine ⟨of_decide_eq_true h.1, ?_⟩
  have h2 := h.2
  split at h2
  · rename_i a c1 b c2 e
    simp only [Bool.and_eq_true, decide_eq_true_eq] at h2
    obtain ⟨⟨⟨rfl, rfl⟩, h3⟩, h4⟩ := h2
    exact ⟨c1, c2, e, ByteArray.ext h3, h4⟩
  · cases h2
theorem combNo_is {s : ByteArray} (h : combNo s = true) : s.size ≤ 100 ∧ parseV (tksB s.data.toList) = none := by
  unfold combNo at h
  rw [Bool.and_eq_true, Option.isNone_iff_eq_none] at h
  exact ⟨of_decide_eq_true h.1, h.2⟩

theorem of_yes (s : ByteArray) (n : Int) (h : combYes s n = true) (w : World) : Calls Tryd.prog 11 #[.string s] w fun e w' => ∃ v' ts, e = .returned v' ∧ w'.ownsRow w.heap.size 46 5 v' ts.length (btsCells ts) ∧ Sl.Good ts ∧ (∃ c1 c2 : Cp, parseV ts = some [[(0, c1), (n, c2)]] ∧ c1.tag = ⟨#[97]⟩ ∧ c2.classes.length = 1) ∧ Below w.heap.size w w' := by
  obtain ⟨h1, h2⟩ := combYes_is h
  refine (of_any s w (by omega)).mono ?_
  rintro e w' ⟨v', he, hr, hb⟩
  exact ⟨v', _, he, hr, tksB_good _ (by rw [Array.length_toList]; show s.size ≤ _; omega), h2, hb⟩
theorem of_no (s : ByteArray) (h : combNo s = true) (w : World) : Calls Tryd.prog 11 #[.string s] w fun e w' => ∃ v' ts, e = .returned v' ∧ w'.ownsRow w.heap.size 46 5 v' ts.length (btsCells ts) ∧ Sl.Good ts ∧ parseV ts = none ∧ Below w.heap.size w w' := by
  obtain ⟨h1, h2⟩ := combNo_is h
  refine (of_any s w (by omega)).mono ?_
  rintro e w' ⟨v', he, hr, hb⟩
  exact ⟨v', _, he, hr, tksB_good _ (by rw [Array.length_toList]; show s.size ≤ _; omega), h2, hb⟩

set_option maxRecDepth 100000 in
set_option maxHeartbeats 8000000 in
theorem selCombs_walk (w : World) (hT : OpsAt w.heap.size w) (n : Int) (_hn : (Lit.int .i64 n).wf = true) (b1 b2 : Bool) :
    Calls Tryd.prog 4 #[.int .i64 n, .bool b1, .bool b2] w fun e w' => e = .returned (.bool true) ∧ Below w.heap.size w w' := by
  have h0 := alive_any w hT
  go_enter Tryd.func4, Tryd.ntmps4
  go_wp2_with fail
  refine h0.mono ?_
  clear h0
  rintro e w1 ⟨rfl, bb1⟩
  by_cases hneg : n < 1
  · go_wp2
    go_ret
    exact ⟨rfl, bb1⟩
  by_cases hbig : 4 < n
  · go_wp2
    go_ret
    exact ⟨rfl, bb1⟩
  have bW : Below w1.heap.size w1 (w1.alloc (.cells #[.string ⟨#[32]⟩, .string ⟨#[62]⟩, .string ⟨#[43]⟩, .string ⟨#[126]⟩] 9)) := (Below.refl _ _).alloc (Nat.le_refl _) _
  have kW : Blk (w1.alloc (.cells #[.string ⟨#[32]⟩, .string ⟨#[62]⟩, .string ⟨#[43]⟩, .string ⟨#[126]⟩] 9)) w1.heap.size 9 [.string ⟨#[32]⟩, .string ⟨#[62]⟩, .string ⟨#[43]⟩, .string ⟨#[126]⟩] := Blk.new w1 _ _
  go_upto_region 5 with fail
  generalize w1.alloc (.cells #[.string ⟨#[32]⟩, .string ⟨#[62]⟩, .string ⟨#[43]⟩, .string ⟨#[126]⟩] 9) = W at *
  obtain ⟨⟨c0, c1, c2, c3⟩, _⟩ := blk4 kW
  have hO := (hT.next bb1).next bW
  have bb := below_next bb1 bW
  have hcs : n = 1 ∨ n = 2 ∨ n = 3 ∨ n = 4 := by omega
  clear hneg hbig hT bW kW
  rcases hcs with rfl | rfl | rfl | rfl
  · cases b1 <;> cases b2
    all_goals
      go_wp2_with fail
      refine Calls.mono (of_yes _ 1 (by decide +kernel) _) ?_
      rintro e w2 ⟨v2, ts, rfl, hr2, hG, ⟨q1, q2, hv, ht1, hl2⟩, b2⟩
      have h2 := parse_any v2 ts w2 (BtsAt.own hr2) (hO.next b2) hG
      rw [hv] at h2
      clear hv hr2 hG
      go_wp2_with fail
      refine h2.mono ?_
      clear h2
      rintro e w3 ⟨hcs, b3⟩
      have hO3 := (hO.next b2).next b3
      have bb3 := below_next (below_next bb b2) b3
      rcases hcs with ⟨l, x, hl, rfl, hx⟩ | ⟨hl, _⟩
      · cases hl
        obtain ⟨px, cx, rfl⟩ := hx.form
        obtain ⟨g, q, cc, rfl, _, _, d0, hp⟩ := SelsAt.sel hx (j := 0) rfl
        obtain ⟨g2, i1, k1, a1, e1, rfl, _, _, ⟨p0, p1, _, _, _, _⟩, _⟩ := PtsF.part hp (j := 0) rfl
        obtain ⟨g3, i2, k2, a2, e2, hg, _, _, ⟨r0, _, _, r3, _, _⟩, _, hk2, _⟩ := PtsF.part hp (j := 1) rfl
        cases hg
        obtain ⟨pk, ck, rfl, _⟩ := FinRow.form hk2
        rw [hl2] at r3
        simp only [ht1] at p1
        have hlt3 : g < w3.heap.size ∧ g2 < w3.heap.size := ⟨World.block_lt_of_cell? w3 ⟨g, 0, none⟩ d0, World.block_lt_of_cell? w3 ⟨g2, _, none⟩ p0⟩
        simp only [Nat.one_mul, Nat.zero_mul, Nat.zero_add, Nat.reduceAdd, List.length_cons, List.length_nil] at *
        clear hx hp hk2 ht1 hl2
        go_wp2_with fail
        refine Calls.mono (of_no _ (by decide +kernel) _) ?_
        rintro e w4 ⟨v4, ts4, rfl, hr4, hG4, hv4, b4⟩
        have h5 := parse_any v4 ts4 w4 (BtsAt.own hr4) (hO3.next b4) hG4
        rw [hv4] at h5
        clear hv4 hr4 hG4
        go_wp2_with fail
        refine h5.mono ?_
        clear h5
        rintro e w5 ⟨hcs, b5⟩
        have b35 := below_next b4 b5
        have bb5 := below_next bb3 b35
        replace d0 := (b35.cell (p := ⟨g, 0, none⟩) hlt3.1).trans d0
        replace p0 := (b35.cell (p := ⟨g2, 0, none⟩) hlt3.2).trans p0
        replace p1 := (b35.cell (p := ⟨g2, 1, none⟩) hlt3.2).trans p1
        replace r0 := (b35.cell (p := ⟨g2, 6, none⟩) hlt3.2).trans r0
        replace r3 := (b35.cell (p := ⟨g2, 9, none⟩) hlt3.2).trans r3
        rcases hcs with ⟨l, x, hl, _⟩ | ⟨_, rfl⟩
        · cases hl
        · clear hO hO3 c0 c1 c2 c3
          go_wp2
          go_ret
          exact ⟨rfl, bb5⟩
      · cases hl
  · cases b1 <;> cases b2
    all_goals
      go_wp2_with fail
      refine Calls.mono (of_yes _ 2 (by decide +kernel) _) ?_
      rintro e w2 ⟨v2, ts, rfl, hr2, hG, ⟨q1, q2, hv, ht1, hl2⟩, b2⟩
      have h2 := parse_any v2 ts w2 (BtsAt.own hr2) (hO.next b2) hG
      rw [hv] at h2
      clear hv hr2 hG
      go_wp2_with fail
      refine h2.mono ?_
      clear h2
      rintro e w3 ⟨hcs, b3⟩
      have hO3 := (hO.next b2).next b3
      have bb3 := below_next (below_next bb b2) b3
      rcases hcs with ⟨l, x, hl, rfl, hx⟩ | ⟨hl, _⟩
      · cases hl
        obtain ⟨px, cx, rfl⟩ := hx.form
        obtain ⟨g, q, cc, rfl, _, _, d0, hp⟩ := SelsAt.sel hx (j := 0) rfl
        obtain ⟨g2, i1, k1, a1, e1, rfl, _, _, ⟨p0, p1, _, _, _, _⟩, _⟩ := PtsF.part hp (j := 0) rfl
        obtain ⟨g3, i2, k2, a2, e2, hg, _, _, ⟨r0, _, _, r3, _, _⟩, _, hk2, _⟩ := PtsF.part hp (j := 1) rfl
        cases hg
        obtain ⟨pk, ck, rfl, _⟩ := FinRow.form hk2
        rw [hl2] at r3
        simp only [ht1] at p1
        have hlt3 : g < w3.heap.size ∧ g2 < w3.heap.size := ⟨World.block_lt_of_cell? w3 ⟨g, 0, none⟩ d0, World.block_lt_of_cell? w3 ⟨g2, _, none⟩ p0⟩
        simp only [Nat.one_mul, Nat.zero_mul, Nat.zero_add, Nat.reduceAdd, List.length_cons, List.length_nil] at *
        clear hx hp hk2 ht1 hl2
        go_wp2_with fail
        refine Calls.mono (of_no _ (by decide +kernel) _) ?_
        rintro e w4 ⟨v4, ts4, rfl, hr4, hG4, hv4, b4⟩
        have h5 := parse_any v4 ts4 w4 (BtsAt.own hr4) (hO3.next b4) hG4
        rw [hv4] at h5
        clear hv4 hr4 hG4
        go_wp2_with fail
        refine h5.mono ?_
        clear h5
        rintro e w5 ⟨hcs, b5⟩
        have b35 := below_next b4 b5
        have bb5 := below_next bb3 b35
        replace d0 := (b35.cell (p := ⟨g, 0, none⟩) hlt3.1).trans d0
        replace p0 := (b35.cell (p := ⟨g2, 0, none⟩) hlt3.2).trans p0
        replace p1 := (b35.cell (p := ⟨g2, 1, none⟩) hlt3.2).trans p1
        replace r0 := (b35.cell (p := ⟨g2, 6, none⟩) hlt3.2).trans r0
        replace r3 := (b35.cell (p := ⟨g2, 9, none⟩) hlt3.2).trans r3
        rcases hcs with ⟨l, x, hl, _⟩ | ⟨_, rfl⟩
        · cases hl
        · clear hO hO3 c0 c1 c2 c3
          go_wp2
          go_ret
          exact ⟨rfl, bb5⟩
      · cases hl
  · cases b1 <;> cases b2
    all_goals
      go_wp2_with fail
      refine Calls.mono (of_yes _ 3 (by decide +kernel) _) ?_
      rintro e w2 ⟨v2, ts, rfl, hr2, hG, ⟨q1, q2, hv, ht1, hl2⟩, b2⟩
      have h2 := parse_any v2 ts w2 (BtsAt.own hr2) (hO.next b2) hG
      rw [hv] at h2
      clear hv hr2 hG
      go_wp2_with fail
      refine h2.mono ?_
      clear h2
      rintro e w3 ⟨hcs, b3⟩
      have hO3 := (hO.next b2).next b3
      have bb3 := below_next (below_next bb b2) b3
      rcases hcs with ⟨l, x, hl, rfl, hx⟩ | ⟨hl, _⟩
      · cases hl
        obtain ⟨px, cx, rfl⟩ := hx.form
        obtain ⟨g, q, cc, rfl, _, _, d0, hp⟩ := SelsAt.sel hx (j := 0) rfl
        obtain ⟨g2, i1, k1, a1, e1, rfl, _, _, ⟨p0, p1, _, _, _, _⟩, _⟩ := PtsF.part hp (j := 0) rfl
        obtain ⟨g3, i2, k2, a2, e2, hg, _, _, ⟨r0, _, _, r3, _, _⟩, _, hk2, _⟩ := PtsF.part hp (j := 1) rfl
        cases hg
        obtain ⟨pk, ck, rfl, _⟩ := FinRow.form hk2
        rw [hl2] at r3
        simp only [ht1] at p1
        have hlt3 : g < w3.heap.size ∧ g2 < w3.heap.size := ⟨World.block_lt_of_cell? w3 ⟨g, 0, none⟩ d0, World.block_lt_of_cell? w3 ⟨g2, _, none⟩ p0⟩
        simp only [Nat.one_mul, Nat.zero_mul, Nat.zero_add, Nat.reduceAdd, List.length_cons, List.length_nil] at *
        clear hx hp hk2 ht1 hl2
        go_wp2_with fail
        refine Calls.mono (of_no _ (by decide +kernel) _) ?_
        rintro e w4 ⟨v4, ts4, rfl, hr4, hG4, hv4, b4⟩
        have h5 := parse_any v4 ts4 w4 (BtsAt.own hr4) (hO3.next b4) hG4
        rw [hv4] at h5
        clear hv4 hr4 hG4
        go_wp2_with fail
        refine h5.mono ?_
        clear h5
        rintro e w5 ⟨hcs, b5⟩
        have b35 := below_next b4 b5
        have bb5 := below_next bb3 b35
        replace d0 := (b35.cell (p := ⟨g, 0, none⟩) hlt3.1).trans d0
        replace p0 := (b35.cell (p := ⟨g2, 0, none⟩) hlt3.2).trans p0
        replace p1 := (b35.cell (p := ⟨g2, 1, none⟩) hlt3.2).trans p1
        replace r0 := (b35.cell (p := ⟨g2, 6, none⟩) hlt3.2).trans r0
        replace r3 := (b35.cell (p := ⟨g2, 9, none⟩) hlt3.2).trans r3
        rcases hcs with ⟨l, x, hl, _⟩ | ⟨_, rfl⟩
        · cases hl
        · clear hO hO3 c0 c1 c2 c3
          go_wp2
          go_ret
          exact ⟨rfl, bb5⟩
      · cases hl
  · cases b1 <;> cases b2
    all_goals
      go_wp2_with fail
      refine Calls.mono (of_yes _ 4 (by decide +kernel) _) ?_
      rintro e w2 ⟨v2, ts, rfl, hr2, hG, ⟨q1, q2, hv, ht1, hl2⟩, b2⟩
      have h2 := parse_any v2 ts w2 (BtsAt.own hr2) (hO.next b2) hG
      rw [hv] at h2
      clear hv hr2 hG
      go_wp2_with fail
      refine h2.mono ?_
      clear h2
      rintro e w3 ⟨hcs, b3⟩
      have hO3 := (hO.next b2).next b3
      have bb3 := below_next (below_next bb b2) b3
      rcases hcs with ⟨l, x, hl, rfl, hx⟩ | ⟨hl, _⟩
      · cases hl
        obtain ⟨px, cx, rfl⟩ := hx.form
        obtain ⟨g, q, cc, rfl, _, _, d0, hp⟩ := SelsAt.sel hx (j := 0) rfl
        obtain ⟨g2, i1, k1, a1, e1, rfl, _, _, ⟨p0, p1, _, _, _, _⟩, _⟩ := PtsF.part hp (j := 0) rfl
        obtain ⟨g3, i2, k2, a2, e2, hg, _, _, ⟨r0, _, _, r3, _, _⟩, _, hk2, _⟩ := PtsF.part hp (j := 1) rfl
        cases hg
        obtain ⟨pk, ck, rfl, _⟩ := FinRow.form hk2
        rw [hl2] at r3
        simp only [ht1] at p1
        have hlt3 : g < w3.heap.size ∧ g2 < w3.heap.size := ⟨World.block_lt_of_cell? w3 ⟨g, 0, none⟩ d0, World.block_lt_of_cell? w3 ⟨g2, _, none⟩ p0⟩
        simp only [Nat.one_mul, Nat.zero_mul, Nat.zero_add, Nat.reduceAdd, List.length_cons, List.length_nil] at *
        clear hx hp hk2 ht1 hl2
        go_wp2_with fail
        refine Calls.mono (of_no _ (by decide +kernel) _) ?_
        rintro e w4 ⟨v4, ts4, rfl, hr4, hG4, hv4, b4⟩
        have h5 := parse_any v4 ts4 w4 (BtsAt.own hr4) (hO3.next b4) hG4
        rw [hv4] at h5
        clear hv4 hr4 hG4
        go_wp2_with fail
        refine h5.mono ?_
        clear h5
        rintro e w5 ⟨hcs, b5⟩
        have b35 := below_next b4 b5
        have bb5 := below_next bb3 b35
        replace d0 := (b35.cell (p := ⟨g, 0, none⟩) hlt3.1).trans d0
        replace p0 := (b35.cell (p := ⟨g2, 0, none⟩) hlt3.2).trans p0
        replace p1 := (b35.cell (p := ⟨g2, 1, none⟩) hlt3.2).trans p1
        replace r0 := (b35.cell (p := ⟨g2, 6, none⟩) hlt3.2).trans r0
        replace r3 := (b35.cell (p := ⟨g2, 9, none⟩) hlt3.2).trans r3
        rcases hcs with ⟨l, x, hl, _⟩ | ⟨_, rfl⟩
        · cases hl
        · clear hO hO3 c0 c1 c2 c3
          go_wp2
          go_ret
          exact ⟨rfl, bb5⟩
      · cases hl

theorem selCombs_met (os : Os) : laidMet Tryd.prog Rows.selCombsRow.laid ((laidIn (World.holding Tryd.prog os ⟨#[], #[], []⟩)).forCall (fun _ _ => 0) ⟨#[], #[.int .i64 0, .bool false, .bool false], []⟩).memory :=
  laidMet_of_run' 8 (by kernel_rfl) (by kernel_rfl)
theorem selCombs_reads (os : Os) {H : Type} (enc : TypeId × Value → H) : ∃ places, DataW.whole enc Tryd.prog ((laidIn (World.holding Tryd.prog os ⟨#[], #[], []⟩)).forCall (fun _ _ => 0) ⟨#[], #[.int .i64 0, .bool false, .bool false], []⟩).memory Tryd.f4.params.toList Rows.selCombsSpec.vars false (#[.int .i64 0, .bool false, .bool false] : Array Value).toList 8 = some ([.lit (.int .i64 0), .lit (.bool false), .lit (.bool false)], [], places) :=
  ⟨[], by kernel_rfl⟩

set_option maxRecDepth 100000 in
theorem selCombs_lifted (os : Os) (started : os.Started) (H : Type) (enc : TypeId × Value → H) (F : Stop.Interp) :
    ReturnsInHanded {} Tryd.checked os 4 .any ((OpenSpec.ofChange Rows.selCombsSpec).preRow enc Tryd.prog Tryd.f4 Rows.selCombsRow.domain false Rows.selCombsRow.laid) (((OpenSpec.ofChange Rows.selCombsSpec).at F).post enc Tryd.prog Tryd.f4 false true false false) := by
  obtain ⟨places, hx⟩ := selCombs_reads os enc
  refine returnsInHanded_of_row (C := Tryd.checked) (s := OpenSpec.ofChange Rows.selCombsSpec) ownNone started (by kernel_rfl) Tryd.func4
    (witness_row_at (enc := enc) (C := Tryd.checked) false (laidIn (World.holding Tryd.prog os ⟨#[], #[], []⟩)) #[.int .i64 0, .bool false, .bool false] rfl (by kernel_rfl) (by kernel_rfl) (by kernel_rfl)
      (OpenSpec.preRow_of_cond 8 hx (by kernel_rfl) (fun k hk => by cases hk) (by kernel_rfl) (selCombs_met os))) ?_
  intro W base args ds gs before hval hW _ _ _ hL hS _
  have hW' := hW
  obtain ⟨p, q, hA0, hV, rfl, hfz, hnd⟩ := hW
  have hA : DataW.TrodAll enc Tryd.prog W 0 (fun _ => true) true Tryd.f4.params.toList args.toList ds p := hA0
  rw [Tryd.params4] at hA hval
  obtain ⟨v0, vs0, d0, ds0, p0, q0, hargs, rfl, rfl, h0, r0⟩ := trodAll_cons hA
  obtain ⟨v1, vs1, d1, ds1, p1, q1, rfl, rfl, rfl, h1, r1⟩ := trodAll_cons r0
  obtain ⟨v2, vs2, d2, ds2, p2, q2, rfl, rfl, rfl, h2, r2⟩ := trodAll_cons r1
  obtain ⟨rfl, rfl, rfl⟩ := trodAll_nil r2
  obtain rfl : args = #[v0, v1, v2] := by cases args; simp_all
  obtain ⟨rfl, rfl⟩ := trodVars_none hV
  obtain ⟨a0, rfl, rfl, rfl, w0⟩ := open_int Tryd.underlying3 (hval 0 3 v0 rfl rfl) h0
  obtain ⟨a1, rfl, rfl, rfl⟩ := open_bool Tryd.underlying4 (hval 1 4 v1 rfl rfl) h1
  obtain ⟨a2, rfl, rfl, rfl⟩ := open_bool Tryd.underlying4 (hval 2 4 v2 rfl rfl) h2
  clear hA0
  refine (selCombs_walk W (tabs_of_laid hL hS) a0 w0 a1 a2).mono fun e W' ⟨he, bel⟩ => ?_
  subst he
  exact ⟨_, rfl, _, _, _, [], _, [], hW', trodAll_mk1 (shut_bool Tryd.underlying4 _), (trodAll_cons_mk (shut_int Tryd.underlying3 w0) (trodAll_cons_mk (shut_bool Tryd.underlying4 _) (trodAll_cons_mk (shut_bool Tryd.underlying4 _) trodAll_mk0))), rfl, bel.frame _, fun h => by cases h⟩

theorem selCombs_said : Rows.SelCombsSaid :=
  OpenClaim.holds_of_cond 4 Tryd.f4 rfl rfl rfl rfl rfl rfl rfl ⟨rfl, rfl, rfl, rfl, rfl⟩ rfl rfl rfl rfl rfl (by kernel_rfl) Tryd.func4 (by kernel_rfl)
    (of_decide_eq_true (by kernel_rfl)) (by unfold Func.isWrapper; first | (rw [if_pos (by decide +kernel)]; kernel_rfl) | (rw [if_neg (by decide +kernel)]; exact ⟨rfl, rfl⟩))
    (fun os started H enc _ F => by rw [OpenClaim.pre_eq_preRow]; exact selCombs_lifted os started H enc F)

theorem selCombs_plain (f : FuncId) (fn : Func) (hf : Tryd.pinned.checked.prog.funcNamed "tapestrier/tapestrierlaw8.SelCombs" = some f) (hfn : Tryd.pinned.checked.prog.funcs[f]? = some fn) :
    false = Tryd.pinned.checked.prog.looks [] ∧ ∀ (j : Nat) t, fn.params[j]? = some t → Tryd.pinned.checked.prog.wantsStandIn t = false := by
  obtain rfl : f = 4 := Option.some.inj ((show Tryd.prog.funcNamed "tapestrier/tapestrierlaw8.SelCombs" = some 4 by kernel_rfl).symm.trans hf) |>.symm
  obtain rfl : fn = Tryd.f4 := (Option.some.inj (Tryd.func4.symm.trans hfn)).symm
  refine ⟨by kernel_rfl, fun j t ht => ?_⟩
  rw [Tryd.params4] at ht
  have hm : t ∈ [3, 4] := by simpa using Array.mem_of_getElem? ht
  have hall : ([3, 4].all fun u => !Tryd.prog.wantsStandIn u) = true := by kernel_rfl
  exact (show Tryd.prog.wantsStandIn t = false by simpa using List.all_eq_true.1 hall t hm)

theorem selCombs_card : Rows.SelCombsCardSaid :=
  Claim7.holds_tied_plain_at .later [] _ _ _ _ selCombs_said (fun _ h => by cases h) (by kernel_rfl) (fun _ h => by cases h) selCombs_row_tie rfl ⟨rfl, rfl⟩ (by kernel_rfl) rfl selCombs_plain (by kernel_rfl)
#print axioms selCombs_card


end Go.Proofs.YtgaacafpcimbaabDoor
