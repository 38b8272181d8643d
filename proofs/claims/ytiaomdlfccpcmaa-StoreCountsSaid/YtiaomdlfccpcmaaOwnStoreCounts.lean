/- For every style and how often it is held and released: the law tapestrierlaw19.StoreCounts returns true and leaves its arguments as they were; no condition. -/
import Derived.Test.YtiaomdlfccpcmaaStUse
import Derived.Test.YtiaomdlfccpcmaaStArgs
namespace Go.Proofs.Ytiaomdlfccpcmaa
open Go Go.ChangeShapes Go.WideShapes Go.ChangeAt Go.RowKit Sto

/-- The law's two structs: the first is held a times. -/
def La (x : Nat → Int) (a : Int) : List He := [(x, a), (fun _ => 0, 1)]
theorem la_on {x : Nat → Int} {a : Int} (h : 0 < a) : lookV (atV (La x a)) 0 = some (x, a) := by
  rw [show (0 : Int) = ((0 : Nat) : Int) from rfl, lookV_cast]
  exact atV_of rfl h
theorem la_off {x : Nat → Int} {a : Int} (h : a ≤ 0) : lookV (atV (La x a)) 0 = none := by
  rw [show (0 : Int) = ((0 : Nat) : Int) from rfl, lookV_cast]
  exact atV_off rfl h
theorem la_add {x : Nat → Int} {a : Int} (h : 0 < a) (d : Int) : addL (La x a) 0 d = La x (a + d) := by
  unfold addL
  rw [la_on h]
  rfl
theorem la_add_off {x : Nat → Int} {a : Int} (h : a ≤ 0) (d : Int) : addL (La x a) 0 d = La x a := addL_off (la_off h)
theorem la_yes {x : Nat → Int} {a : Int} (h : 0 < a) : addR (La x a) 0 = 0 ∧ getV (La x a) 0 = (x, 0) ∧ cntV (La x a) 0 = a := by
  refine ⟨?_, ?_, ?_⟩
  · unfold addR; rw [la_on h]
  · unfold getV; rw [la_on h]
  · unfold cntV; rw [la_on h]
theorem la_no {x : Nat → Int} {a : Int} (h : a ≤ 0) : addR (La x a) 0 = 6 ∧ getV (La x a) 0 = (fun _ => 0, 6) ∧ cntV (La x a) 0 = 0 := by
  refine ⟨?_, ?_, ?_⟩
  · unfold addR; rw [la_off h]
  · unfold getV; rw [la_off h]
  · unfold cntV; rw [la_off h]
theorem la_live (x : Nat → Int) (a : Int) : liveN (La x a) = if 0 < a then 2 else 1 := by
  unfold liveN La
  by_cases h : 0 < a
  · rw [if_pos h]; simp [h]
  · rw [if_neg h]; simp [h]
theorem la_two (x : Nat → Int) (a : Int) : cntV (La x a) 1 = 1 := by
  have : lookV (atV (La x a)) 1 = some (fun _ => 0, 1) := by
    rw [show (1 : Int) = ((1 : Nat) : Int) from rfl, lookV_cast]
    exact atV_of rfl (by decide)
  unfold cntV
  rw [this]

set_option maxRecDepth 100000 in
set_option maxHeartbeats 4000000 in
theorem storeCounts_walk (w : World) (x : Nat → Int) (H : Int) (_h0 : (Lit.int .i64 H).wf = true) (R : Int) (_h1 : (Lit.int .i64 R).wf = true) :
    Calls Try.prog 4 #[sty x, .int .i64 H, .int .i64 R] w fun e w' => e = .returned (.bool true) ∧ Below w.heap.size w w' := by
  have HNUM : Hid (∀ n w, Calls Try.prog 9 #[.int .i64 n] w fun e w' => e = .returned (.int .i64 n) ∧ w' = w) := num_any
  obtain ⟨W, hW⟩ : ∃ W, w.alloc (.cells (styL x).toArray 35) = W := ⟨_, rfl⟩
  have hb : Below w.heap.size w W := by rw [← hW]; exact (Below.refl _ _).alloc (Nat.le_refl _) _
  have hX : SAt W w.heap.size x := by rw [← hW]; exact SAt.new w x
  have hal := Sto.alive_any W
  have hsz : w.heap.size ≤ W.heap.size := hb.size
  clear _h0 _h1
  simp only [styL] at hW
  go_enter Try.func4, Try.ntmps4
  go_upto_region 1 with fail
  clear hW
  generalize hBB : w.heap.size = B at *
  have HB : Hid (w.heap.size = B) := hBB
  clear hBB
  go_wp2_with fail
  go_at_call 6
  refine Calls.mono hal ?_
  clear hal
  rintro e w1 ⟨rfl, b1⟩
  by_cases g1 : H < 0
  · have d1 : decide (H < 0) = true := by simpa using g1
    have hz := hb.trans (b1.mono hsz)
    go_wp2
    go_ret
    rw [HB.out]
    exact ⟨rfl, hz⟩
  have d1 : decide (H < 0) = false := by simpa using g1
  by_cases g2 : 50 < H
  · have d2 : decide (50 < H) = true := by simpa using g2
    have hz := hb.trans (b1.mono hsz)
    go_wp2
    go_ret
    rw [HB.out]
    exact ⟨rfl, hz⟩
  have d2 : decide (50 < H) = false := by simpa using g2
  by_cases g3 : R < 0
  · have d3 : decide (R < 0) = true := by simpa using g3
    have hz := hb.trans (b1.mono hsz)
    go_wp2
    go_ret
    rw [HB.out]
    exact ⟨rfl, hz⟩
  have d3 : decide (R < 0) = false := by simpa using g3
  by_cases g4 : 60 < R
  · have d4 : decide (60 < R) = true := by simpa using g4
    have hz := hb.trans (b1.mono hsz)
    go_wp2
    go_ret
    rw [HB.out]
    exact ⟨rfl, hz⟩
  have d4 : decide (60 < R) = false := by simpa using g4
  obtain ⟨h, rfl⟩ : ∃ h : Nat, H = h := ⟨H.toNat, by omega⟩
  obtain ⟨r, rfl⟩ : ∃ r : Nat, R = r := ⟨R.toNat, by omega⟩
  have hh50 : h ≤ 50 := by omega
  have hr60 : r ≤ 60 := by omega
  have bw1 : Below w.heap.size w w1 := by rw [HB.out]; exact hb.trans (b1.mono hsz)
  have S0 := Own.start w w1 bw1
  have hX1 : SAt (w1.alloc (.cells #[.pointer none, .int .i64 0, .int .i64 0] 28)) B x := (hX.next b1).next ((Below.refl _ _).alloc (Nat.le_refl _) _)
  clear g1 g2 g3 g4 b1 hb hX bw1
  go_upto_region 5 with fail
  clear d1 d2 d3 d4
  generalize w1.alloc _ = w2 at *
  generalize w1.heap.size = c at *
  obtain ⟨x0, x1, x2, x3, x4, x5, x6, x7⟩ := hX1.cells
  have hn := S0.new (by omega) x
  have HX : Hid (_ ∧ _) := ⟨hX1, S0⟩
  clear hX1 S0
  go_wp2_with fail
  go_at_call 7
  refine Calls.mono hn ?_
  clear hn x0 x1 x2 x3 x4 x5 x6 x7
  rintro e w3 ⟨rfl, S3, ch3⟩
  have hX3 := HX.out.1.store HX.out.2.at_ ch3
  have hn := S3.new (by omega) (fun _ => 0)
  simp only [sty] at hn
  have HX : Hid (_ ∧ _) := ⟨hX3, S3⟩
  clear hX3 S3 ch3
  go_wp2_with fail
  go_at_call 7
  refine Calls.mono hn ?_
  clear hn
  rintro e w4 ⟨rfl, S4, ch4⟩
  have hX4 := HX.out.1.store HX.out.2.at_ ch4
  replace S4 : Own w c 2 (La x 1) w4 := S4
  clear HX ch4
  go_wp2_with fail
  go_loopw [11] (fun n wr => ∃ j : Nat, n = .int .i64 j ∧ j ≤ h ∧ Own w c (2 + j) (La x (1 + j)) wr ∧ SAt wr B x) (fun n _ => h - (intOf n).toNat)
  case atStart => exact ⟨0, rfl, Nat.zero_le _, S4, hX4⟩
  case round =>
    clear S4 hX4
    obtain ⟨j, rfl, hj, S, hX⟩ := hrel
    by_cases hjh : j < h
    · have hlt : decide (j < h) = true := by simpa using hjh
      have hjI : (j : Int) < (h : Int) := by omega
      have hn := S.hold (by omega) (i := 0) (by decide)
      have HX : Hid (_ ∧ _ ∧ _) := ⟨hX, S, hjh⟩
      clear S hX hj hjh
      go_wp2_with fail
      go_at_call 10
      refine Calls.mono hn ?_
      clear hn
      rintro e w5 ⟨rfl, S5, ch5⟩
      have hX5 := HX.out.1.store HX.out.2.1.at_ ch5
      rw [la_add (by omega)] at S5
      have HF : Hid (_ ∧ _) := ⟨S5, hX5⟩
      clear S5 hX5 ch5
      go_wp2_with fail
      go_roundw
      case rel => exact ⟨j + 1, by go_num, HX.out.2.2, by have := HF.out.1; rw [show (1 : Int) + ((j + 1 : Nat) : Int) = 1 + (j : Int) + 1 by omega]; exact this, HF.out.2⟩
      case measure => have := HX.out.2.2; simp [intOf] <;> omega
    · have hlt : decide (j < h) = false := by simpa using hjh
      obtain rfl : j = h := by omega
      clear hj hjh
      go_wp2_with fail
      go_loopw [12, 13] (fun l n wr => ∃ (i : Nat) (z : Int), l = .int .i64 z ∧ n = .int .i64 i ∧ i ≤ r ∧ 0 ≤ z ∧ z ≤ 51 ∧ Own w c (52 + i) (La x z) wr ∧ SAt wr B x) (fun _ n _ => r - (intOf n).toNat)
      case atStart => exact ⟨0, 1 + j, by go_num <;> omega, rfl, Nat.zero_le _, by omega, by omega, S.mono (by omega), hX⟩
      case round =>
        clear S hX hlt
        obtain ⟨i, z, rfl, rfl, hi, hz0, hz1, S, hX⟩ := hrel
        by_cases hir : i < r
        · have hlt : decide (i < r) = true := by simpa using hir
          have hiI : (i : Int) < (r : Int) := by omega
          have hn := S.release (by omega) (i := 0) (by decide)
          have HX : Hid (_ ∧ _ ∧ _) := ⟨hX, S, hir⟩
          clear S hX hi hir
          go_wp2_with fail
          go_at_call 12
          refine Calls.mono hn ?_
          clear hn
          rintro e w5 ⟨rfl, S5, ch5⟩
          have hX5 := HX.out.1.store HX.out.2.1.at_ ch5
          have HI : Hid (i < r) := HX.out.2.2
          clear ch5 HX
          by_cases hz : 0 < z
          case' pos =>
            have dz : decide (0 < z) = true := decide_eq_true hz
            rw [(la_yes hz).1]
            rw [la_add hz] at S5
            have hq := HNUM.out 0 w5
            go_wp2_with fail
            go_at_call 9
            refine Calls.mono hq ?_
            clear hq
            rintro e wz ⟨rfl, hwz⟩
            have hwy := hwz.symm
            clear hwz
            subst hwy
            go_upto_region 20 with fail
            obtain ⟨y, hy⟩ : ∃ y, z - 1 = y := ⟨_, rfl⟩
            rw [show z + -1 = y by omega] at S5
            have hy0 : 0 ≤ y := by omega
            have hy1 : y ≤ 51 := by omega
            clear hz0 hz1 dz hz
          case' neg =>
            have dz : decide (0 < z) = false := decide_eq_false hz
            rw [(la_no (by omega)).1]
            rw [la_add_off (by omega)] at S5
            have hq := HNUM.out 6 w5
            go_wp2_with fail
            go_at_call 9
            refine Calls.mono hq ?_
            clear hq
            rintro e wz ⟨rfl, hwz⟩
            have hwy := hwz.symm
            clear hwz
            subst hwy
            go_upto_region 20 with fail
            obtain ⟨y, hy⟩ : ∃ y, z = y := ⟨_, rfl⟩
            rw [show z = y by omega] at S5
            have hy0 : 0 ≤ y := by omega
            have hy1 : y ≤ 51 := by omega
            clear hz0 hz1 dz hz
          all_goals
            rw [hy]
            clear hy
            by_cases hyp : 0 < y
            · have dy : decide (0 < y) = true := decide_eq_true hyp
              have hget := S5.get (i := 0) (by decide)
              rw [(la_yes hyp).2.1] at hget
              have hcn := (la_yes (x := x) hyp).2.2
              have dyy : (y != y) = false := by simp
              have HX : Hid (SAt w5 B x) := hX5
              clear hX5 S5
              go_wp2_with fail
              go_at_call 14
              refine Calls.mono hget ?_
              clear hget
              rintro e w6 ⟨rfl, S6, b6⟩
              have hX6 := HX.out.next b6
              have hY := SAt.new w6 x
              have b7 : Below w6.heap.size w6 (w6.alloc (.cells (styL x).toArray 35)) := (Below.refl w6.heap.size w6).alloc (Nat.le_refl _) _
              have S7 := S6.next b7
              have hX7 := hX6.next b7
              simp only [styL] at hY S7 hX7
              clear S6 b7 b6 hX6 HX
              go_upto_region 21 with fail
              generalize w6.alloc _ = w7 at *
              generalize w6.heap.size = Y at *
              have hct := S7.count (i := 0) (by decide)
              rw [hcn] at hct
              have HY : Hid (_ ∧ _) := ⟨hX7, hY⟩
              clear hX7 hY S7 hcn
              go_wp2_with fail
              go_at_call 16
              refine Calls.mono hct ?_
              clear hct
              rintro e w8 ⟨rfl, S8, b8⟩
              have hX8 := HY.out.1.next b8
              have hY8 := HY.out.2.next b8
              obtain ⟨x0, x1, x2, x3, x4, x5, x6, x7⟩ := hX8.cells
              obtain ⟨y0, y1, y2, y3, y4, y5, y6, y7⟩ := hY8.cells
              have he := eq_sty x w8
              simp only [sty] at he
              have HF : Hid (_ ∧ _) := ⟨S8, hX8⟩
              have HB1 : Hid (0 ≤ y ∧ y ≤ 51) := ⟨hy0, hy1⟩
              clear S8 hX8 hY8 b8 HY hy0 hy1
              have hq := HNUM.out 0 w8
              go_wp2_with fail
              go_at_call 9
              refine Calls.mono hq ?_
              clear hq
              rintro e wz ⟨rfl, hwz⟩
              have hwy := hwz.symm
              clear hwz
              subst hwy
              go_wp2_with fail
              go_roundw
              case rel => exact ⟨i + 1, y, rfl, by go_num, HI.out, HB1.out.1, HB1.out.2, HF.out.1, HF.out.2⟩
              case measure => have := HI.out; simp [intOf] <;> omega
            · obtain rfl : y = 0 := by omega
              have hget := S5.get (i := 0) (by decide)
              rw [(la_no (by decide)).2.1] at hget
              simp only [sty] at hget
              have hcn := (la_no (x := x) (a := 0) (by decide)).2.2
              have HX : Hid (SAt w5 B x) := hX5
              clear hX5 S5
              go_wp2_with fail
              go_at_call 14
              refine Calls.mono hget ?_
              clear hget
              rintro e w6 ⟨rfl, S6, b6⟩
              have hX6 := HX.out.next b6
              have hY := SAt.new w6 (fun _ => 0)
              have b7 : Below w6.heap.size w6 (w6.alloc (.cells (styL (fun _ => 0)).toArray 35)) := (Below.refl w6.heap.size w6).alloc (Nat.le_refl _) _
              have S7 := S6.next b7
              have hX7 := hX6.next b7
              simp only [styL] at hY S7 hX7
              clear S6 b7 b6 hX6 HX
              go_upto_region 21 with fail
              generalize w6.alloc _ = w7 at *
              generalize w6.heap.size = Y at *
              have hct := S7.count (i := 0) (by decide)
              rw [hcn] at hct
              have HY : Hid (_ ∧ _) := ⟨hX7, hY⟩
              clear hX7 hY S7 hcn
              go_wp2_with fail
              go_at_call 16
              refine Calls.mono hct ?_
              clear hct
              rintro e w8 ⟨rfl, S8, b8⟩
              have hX8 := HY.out.1.next b8
              have hY8 := HY.out.2.next b8
              have HF : Hid (_ ∧ _) := ⟨S8, hX8⟩
              clear S8 hX8 hY8 b8 HY
              have hq := HNUM.out 6 w8
              go_wp2_with fail
              go_at_call 9
              refine Calls.mono hq ?_
              clear hq
              rintro e wz ⟨rfl, hwz⟩
              have hwy := hwz.symm
              clear hwz
              subst hwy
              go_wp2_with fail
              go_roundw
              case rel => exact ⟨i + 1, 0, rfl, by go_num, HI.out, by decide, by decide, HF.out.1, HF.out.2⟩
              case measure => have := HI.out; simp [intOf] <;> omega
        · have hlt : decide (i < r) = false := by simpa using hir
          by_cases hz : 0 < z
          · have dz : decide (0 < z) = true := decide_eq_true hz
            have hn := S.hold (by omega) (i := 0) (by decide)
            rw [(la_yes hz).1, la_add hz] at hn
            obtain ⟨y, hy⟩ : ∃ y, z + 1 = y := ⟨_, rfl⟩
            rw [hy] at hn
            have hy0 : 0 < y := by omega
            have hlv : liveN (La x y) = 2 := by rw [la_live, if_pos hy0]
            have hct := la_two x y
            have HL : Hid (_ ∧ _) := ⟨hlv, hct⟩
            clear S hX hlv hct
            go_wp2_with fail
            go_at_call 10
            refine Calls.mono hn ?_
            clear hn
            rintro e w6 ⟨rfl, S6, _⟩
            have hl := S6.live
            rw [HL.out.1] at hl
            have hc := S6.count (i := 1) (by decide)
            rw [HL.out.2] at hc
            clear HL S6
            have hq := HNUM.out 0 w6
            go_wp2_with fail
            go_at_call 9
            refine Calls.mono hq ?_
            clear hq
            rintro e wz ⟨rfl, hwz⟩
            have hwy := hwz.symm
            clear hwz
            subst hwy
            go_wp2_with fail
            go_at_call 18
            refine Calls.mono hl ?_
            clear hl
            rintro e w8 ⟨rfl, rfl⟩
            go_wp2_with fail
            go_at_call 16
            refine Calls.mono hc ?_
            clear hc
            rintro e w9 ⟨rfl, S9, _⟩
            go_wp2
            go_ret
            exact ⟨rfl, S9.below⟩
          · obtain rfl : z = 0 := by omega
            have hn := S.hold (by omega) (i := 0) (by decide)
            rw [(la_no (by decide)).1, la_add_off (by decide)] at hn
            have hlv : liveN (La x 0) = 1 := by rw [la_live, if_neg (by decide)]
            have hct := la_two x 0
            have HL : Hid (_ ∧ _) := ⟨hlv, hct⟩
            clear S hX hlv hct
            go_wp2_with fail
            go_at_call 10
            refine Calls.mono hn ?_
            clear hn
            rintro e w6 ⟨rfl, S6, _⟩
            have hl := S6.live
            rw [HL.out.1] at hl
            have hc := S6.count (i := 1) (by decide)
            rw [HL.out.2] at hc
            clear HL S6
            have hq := HNUM.out 6 w6
            go_wp2_with fail
            go_at_call 9
            refine Calls.mono hq ?_
            clear hq
            rintro e wz ⟨rfl, hwz⟩
            have hwy := hwz.symm
            clear hwz
            subst hwy
            go_wp2_with fail
            go_at_call 18
            refine Calls.mono hl ?_
            clear hl
            rintro e w8 ⟨rfl, rfl⟩
            go_wp2_with fail
            go_at_call 16
            refine Calls.mono hc ?_
            clear hc
            rintro e w9 ⟨rfl, S9, _⟩
            go_wp2
            go_ret
            exact ⟨rfl, S9.below⟩


set_option maxRecDepth 100000 in
theorem storeCounts_lifted (os : Os) (started : os.Started) (H : Type) (enc : TypeId × Value → H) :
    ReturnsInHanded {} Try.checked os 4 .any (Rows.storeCountsSpec.pre6 enc Try.prog Try.f4 Rows.storeCountsRow.domain false) (Rows.storeCountsSpec.post enc Try.prog Try.f4 false true false false) := by
  refine returnsInHanded_of_change_sized (C := Try.checked) ownNone started (by kernel_rfl) Try.func4
    (ChangeSpec.witness6 (enc := enc) (C := Try.checked) false ⟨#[], #[.agg #[.int .i64 0, .int .i64 0, .int .i64 0, .int .i64 0, .int .i64 0, .int .i64 0, .int .i64 0, .int .i64 0], .int .i64 0, .int .i64 0], []⟩ 8 (by kernel_rfl) (by kernel_rfl) (by kernel_rfl) (by kernel_rfl)) ?_
  intro W base args ds gs before hval hW _ hsz0 _
  have hW' := hW
  obtain ⟨p, q, hA0, hV, rfl, hfz, hnd⟩ := hW
  have hA : DataW.TrodAll enc Try.prog W 0 (fun _ => true) true Try.f4.params.toList args.toList ds p := hA0
  rw [Try.params4] at hA hval hsz0
  obtain ⟨v0, vs0, d0, ds0, p0, q0, hargs, rfl, rfl, h0, r0⟩ := trodAll_cons hA
  obtain ⟨v1, vs1, d1, ds1, p1, q1, rfl, rfl, rfl, h1, r1⟩ := trodAll_cons r0
  obtain ⟨v2, vs2, d2, ds2, p2, q2, rfl, rfl, rfl, h2, r2⟩ := trodAll_cons r1
  obtain ⟨rfl, rfl, rfl⟩ := trodAll_nil r2
  obtain rfl : args = #[v0, v1, v2] := by cases args; simp_all
  obtain ⟨rfl, rfl⟩ := trodVars_none hV
  have k0 := h0
  have lt0 : ∀ x ∈ p0, x.block < W.heap.size := by obtain ⟨m, hm⟩ := k0; exact DataW.trod_lt m _ _ _ hm
  obtain ⟨z0, hz0⟩ := style_of_reads k0 (hval 0 35 v0 rfl rfl)
  subst hz0
  obtain ⟨a1, rfl, rfl, rfl, w1⟩ := open_int Try.underlying3 (hval 1 3 v1 rfl rfl) h1
  obtain ⟨a2, rfl, rfl, rfl, w2⟩ := open_int Try.underlying3 (hval 2 3 v2 rfl rfl) h2
  clear hA0
  refine (storeCounts_walk W z0 a1 w1 a2 w2).mono fun e W' ⟨he, bel⟩ => ?_
  subst he
  exact ⟨_, rfl, _, _, _, [], _, [], hW', trodAll_mk1 (shut_bool Try.underlying4 _), (trodAll_cons_mk (Below.trod laidOut (by kernel_rfl) (of_decide_eq_true (by kernel_rfl)) k0 bel lt0) (trodAll_cons_mk (shut_int Try.underlying3 w1) (trodAll_cons_mk (shut_int Try.underlying3 w2) trodAll_mk0))), rfl, bel.frame _, fun h => by cases h⟩

theorem storeCounts_said : Rows.StoreCountsSaid :=
  OpenClaim.holds_of_wide 4 Try.f4 rfl rfl rfl rfl rfl rfl rfl ⟨rfl, rfl, rfl, rfl, rfl⟩ rfl rfl rfl rfl rfl (by kernel_rfl) Try.func4 (by kernel_rfl)
    (of_decide_eq_true (by kernel_rfl)) (by unfold Func.isWrapper; first | (rw [if_pos (by decide +kernel)]; kernel_rfl) | (rw [if_neg (by decide +kernel)]; exact ⟨rfl, rfl⟩))
    (fun os started H enc _ => storeCounts_lifted os started H enc)
#print axioms storeCounts_said

end Go.Proofs.Ytiaomdlfccpcmaa
