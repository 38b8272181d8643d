/- For all numbers and choices: the law tapestrierlaw8.SelNth returns true and leaves its arguments as they were; no condition (its card: the table of operators read off the program's text). -/
import Derived.Test.YtkhgmobependiaaDoorSlNthT
import Derived.Test.YtkhgmobependiaaDoorSlGg
import Derived.Test.YtkhgmobependiaaDoorSlLaid
import Derived.Test.YtkhgmobependiaaDoorSmSel
import Derived.Test.YtkhgmobependiaaDoorBsD
namespace Go.Proofs.YtkhgmobependiaaDoor
open Go.Proofs.YtkhgmobependiaaDoor.Tre
open Go Go.ChangeShapes Go.WideShapes Go.ChangeAt Go.RowKit Sl

set_option maxRecDepth 100000 in
set_option maxHeartbeats 1000000 in
theorem refInt_any {n : Int} (h1 : -100000 ≤ n) (h2 : n ≤ 100000) (w : World) : Calls Tryd.prog 5 #[.int .i64 n] w fun e w' => ∃ r : ByteArray, e = .returned (.string r) ∧ r.data.toList = intB n ∧ r.size ≤ 30 ∧ w' = w := by
  have hsz : (Lib.decDigits n.natAbs).length ≤ 21 := by
    rw [← Lib.itoa_nonneg]
    exact Lib.itoa_length_le _ (by omega) (by omega)
  by_cases h : n < 0
  · have hd := Nm.digits_any n.natAbs (by omega) w
    rw [show ((n.natAbs : Nat) : Int) = -n by omega] at hd
    have e : intB n = 45 :: Lib.decDigits n.natAbs := by simp [intB, sgB, h]
    rw [e]
    generalize Lib.decDigits n.natAbs = ds at *
    go_enter Tryd.func5, Tryd.ntmps5
    go_wp2_with fail
    refine hd.mono ?_
    clear hd
    rintro e w' ⟨r, rfl, hr, rfl⟩
    have hrs : r.size ≤ 21 := by rw [← Nm.len_list, hr]; exact hsz
    have hfin : (⟨#[45]⟩ ++ r : ByteArray).data.toList = 45 :: ds ∧ (⟨#[45]⟩ ++ r : ByteArray).size ≤ 30 := ⟨by simp [ByteArray.data_append, hr], by rw [ByteArray.size_append]; show 1 + r.size ≤ 30; omega⟩
    have HF : Hid _ := hfin
    clear hfin hr
    go_wp2
    go_ret
    exact ⟨_, rfl, HF.out.1, HF.out.2, rfl⟩
  · have hd := Nm.digits_any n.natAbs (by omega) w
    rw [show ((n.natAbs : Nat) : Int) = n by omega] at hd
    have e : intB n = Lib.decDigits n.natAbs := by simp [intB, sgB, h]
    rw [e]
    generalize Lib.decDigits n.natAbs = ds at *
    go_enter Tryd.func5, Tryd.ntmps5
    go_wp2_with fail
    refine hd.mono ?_
    clear hd
    rintro e w' ⟨r, rfl, hr, rfl⟩
    have hrs : r.size ≤ 30 := by rw [← Nm.len_list, hr]; omega
    go_wp2
    go_ret
    exact ⟨_, rfl, hr, hrs, rfl⟩

/-- A text of tokens that is read: of, then Parse. -/
theorem full_data (sb : ByteArray) : (⟨#[58, 78, 84, 72, 45, 99, 104, 105, 108, 100, 40, 32]⟩ ++ sb ++ ⟨#[32, 41]⟩ : ByteArray).data.toList = fullB sb.data.toList := by simp [ByteArray.data_append, fullB, nthU]
theorem half_data (sb : ByteArray) : (⟨#[58, 110, 116, 104, 45, 99, 104, 105, 108, 100, 40]⟩ ++ sb ++ ⟨#[46, 53, 41]⟩ : ByteArray).data.toList = halfB sb.data.toList := by simp [ByteArray.data_append, halfB, nthL]

set_option maxRecDepth 100000 in
set_option maxHeartbeats 8000000 in
theorem selNth_walk (w : World) (hT : OpsAt w.heap.size w) (n : Int) (_wn : (Lit.int .i64 n).wf = true) (which : Int) (_ww : (Lit.int .i64 which).wf = true) :
    Calls Tryd.prog 3 #[.int .i64 n, .int .i64 which] w fun e w' => e = .returned (.bool true) ∧ Below w.heap.size w w' := by
  have h0 := alive_any w hT
  go_enter Tryd.func3, Tryd.ntmps3
  go_wp2_with fail
  refine h0.mono ?_
  clear h0
  rintro e w1 ⟨rfl, b1⟩
  have hT1 := hT.next b1
  clear hT
  by_cases g1 : n < -100000
  · clear hT1
    go_wp2
    go_ret
    exact ⟨rfl, b1⟩
  by_cases g2 : 100000 < n
  · clear hT1
    go_wp2
    go_ret
    exact ⟨rfl, b1⟩
  have hint := refInt_any (n := n) (by omega) (by omega) w1
  have H0 : Hid (tksB (fullB (intB n)) = [colonT, txT 20 nthU, whiteT, numT (n * 1000) true, whiteT, closeT]) := int_tks (by omega) (by omega)
  go_wp2_with fail
  refine hint.mono ?_
  clear hint
  rintro e w2 ⟨r, rfl, hr, hrz, rfl⟩
  clear g1 g2
  have kZ := Blk.new w2 26 [.int .i64 6, .int .i64 0, .int .i64 n, .slice none 0 0]
  have bZ : Below w2.heap.size w2 (w2.alloc (.cells #[.int .i64 6, .int .i64 0, .int .i64 n, .slice none 0 0] 26)) := (Below.refl _ _).alloc (Nat.le_refl _) _
  go_upto_region 6 with fail
  change Blk (w2.alloc (.cells #[.int .i64 6, .int .i64 0, .int .i64 n, .slice none 0 0] 26)) _ _ _ at kZ
  generalize w2.alloc _ = W at *
  by_cases k3 : which = 3
  · subst k3
    have hO := hT1.next bZ
    have hb := below_next b1 bZ
    clear H0 kZ bZ hT1 b1
    obtain ⟨v, e1⟩ := half_tks n
    rw [← hr, ← half_data] at e1
    have e0 := bare_tks
    have p1 := nth_half v
    have p0 := nth_bare
    have hof : Hid _ := Sl.of_any (⟨#[58, 110, 116, 104, 45, 99, 104, 105, 108, 100, 40]⟩ ++ r ++ ⟨#[46, 53, 41]⟩) W (by rw [ByteArray.size_append, ByteArray.size_append]; show 11 + r.size + 3 ≤ _; omega)
    have HG1 : Hid (Sl.Good (tksB (⟨#[58, 110, 116, 104, 45, 99, 104, 105, 108, 100, 40]⟩ ++ r ++ ⟨#[46, 53, 41]⟩ : ByteArray).data.toList)) := tksB_good _ (by rw [Array.length_toList]; show (⟨#[58, 110, 116, 104, 45, 99, 104, 105, 108, 100, 40]⟩ ++ r ++ ⟨#[46, 53, 41]⟩ : ByteArray).size ≤ _; rw [ByteArray.size_append, ByteArray.size_append]; show 11 + r.size + 3 ≤ _; omega)
    have HG0 : Hid (Sl.Good (tksB bareB)) := tksB_good _ (by decide)
    have HOF : Hid (∀ X, _) := fun X => Sl.of_any ⟨#[58, 110, 116, 104, 45, 99, 104, 105, 108, 100, 40, 41]⟩ X (by decide)
    rw [e1] at hof HG1
    rw [e0] at HG0
    have HF : Hid (∀ X, Calls _ _ _ X _) := fun X => e0 ▸ (show ∀ X, _ from HOF) X
    clear HOF e1 e0
    generalize [colonT, txT 20 nthL, numT v false, closeT] = ts1 at *
    generalize [colonT, txT 20 nthL, closeT] = ts0 at *
    replace hof := hof.out
    go_wp2_with fail
    refine Calls.mono hof ?_
    clear hof
    rintro e w7 ⟨v7, rfl, hr7, b7⟩
    have h3 := Sl.parse_any v7 ts1 w7 (BtsAt.of_owns hr7 rfl) (hO.next b7) HG1
    replace hb := below_next hb b7
    replace hO := hO.next b7
    clear hr7 b7
    go_wp2_with fail
    refine Calls.mono h3 ?_
    clear h3 HG1
    rintro e w8 ⟨hcs, b8⟩
    replace hb := below_next hb b8
    replace hO := hO.next b8
    rcases hcs with ⟨l, x, hl, rfl, hx⟩ | ⟨_, rfl⟩
    · cases hl.symm.trans p1
    have hof := (show ∀ X, _ from HF) w8
    clear HF
    go_wp2_with fail
    refine Calls.mono hof ?_
    clear hof
    rintro e w9 ⟨v9, rfl, hr9, b9⟩
    have h3 := Sl.parse_any v9 ts0 w9 (BtsAt.of_owns hr9 rfl) (hO.next b9) HG0
    replace hb := below_next hb b9
    go_wp2_with fail
    refine Calls.mono h3 ?_
    clear h3 HG0 hr9
    rintro e w10 ⟨hcs, b10⟩
    replace hb := below_next hb b10
    rcases hcs with ⟨l, x, hl, rfl, hx⟩ | ⟨_, rfl⟩
    · cases hl.symm.trans p0
    clear hO b9 b10 b8 p1 p0
    go_wp2
    go_ret
    exact ⟨rfl, hb⟩
  have hk3 : (which == 3) = false := by simpa using k3
  by_cases kd : which = 0 ∨ which = 1 ∨ which = 2
  case' neg =>
    have k0 : (which == 0) = false := by simp only [beq_eq_false_iff_ne]; omega
    have k1 : (which == 1) = false := by simp only [beq_eq_false_iff_ne]; omega
    have k2 : (which == 2) = false := by simp only [beq_eq_false_iff_ne]; omega
    have hb := below_next b1 bZ
    clear H0 kZ hr bZ b1 hT1
    go_wp2
    go_ret
    exact ⟨rfl, hb⟩
  rcases kd with rfl | rfl | rfl
  case' inl =>
    obtain ⟨sb, hsb⟩ : ∃ sb : ByteArray, r = sb := ⟨_, rfl⟩
    obtain ⟨A, hA⟩ : ∃ A : Int, A = 0 := ⟨_, rfl⟩
    obtain ⟨D, hD⟩ : ∃ D : Int, D = n := ⟨_, rfl⟩
    have HM : Hid (∃ mid : Bt, tksB (fullB sb.data.toList) = [colonT, txT 20 nthU, whiteT, mid, whiteT, closeT] ∧ mid.kind ≠ 9 ∧ abV mid = some (A, D) ∧ sb.size ≤ 30) := by
      subst hsb hA hD
      exact ⟨_, by rw [hr]; exact H0, (show (6 : Int) ≠ 9 by decide), ab_int _, hrz⟩
    have kY : Blk W w2.heap.size 26 [.int .i64 6, .int .i64 A, .int .i64 D, .slice none 0 0] := by subst hA hD; exact kZ
    have bY := bZ
    clear H0 kZ bZ hr hrz k3 hk3
    go_upto_region 21 with fail
    obtain ⟨WY, hWY⟩ : ∃ X, W = X := ⟨_, rfl⟩
    rw [hWY] at kY bY
    rw [hsb, hWY]
  case' inr.inl =>
    obtain ⟨A, hA⟩ : ∃ A : Int, A = 2 := ⟨_, rfl⟩
    obtain ⟨D, hD⟩ : ∃ D : Int, D = 1 := ⟨_, rfl⟩
    obtain ⟨⟨z0, z1, z2, z3⟩, f0, f1, f2, f3⟩ := blk4 kZ
    have kY : Blk ((W.setCell ⟨w2.heap.size, 1, none⟩ (.int .i64 2)).setCell ⟨w2.heap.size, 2, none⟩ (.int .i64 1)) w2.heap.size 26 [.int .i64 6, .int .i64 A, .int .i64 D, .slice none 0 0] := by
      subst hA hD
      exact blk_put (blk_put kZ 1 (.int .i64 2)) 2 (.int .i64 1)
    have bY : Below w2.heap.size w2 ((W.setCell ⟨w2.heap.size, 1, none⟩ (.int .i64 2)).setCell ⟨w2.heap.size, 2, none⟩ (.int .i64 1)) := (bZ.setCell (Nat.le_refl _) _).setCell (Nat.le_refl _) _
    clear H0 kZ bZ hr hrz k3 hk3
    go_upto_region 21 with fail
    clear z0 z1 z2 z3 f0 f1 f2 f3
    generalize (W.setCell _ _).setCell _ _ = WY at *
    obtain ⟨sb, hsb⟩ : ∃ sb : ByteArray, (⟨#[79, 100, 68]⟩ : ByteArray) = sb := ⟨_, rfl⟩
    have HM : Hid (∃ mid : Bt, tksB (fullB sb.data.toList) = [colonT, txT 20 nthU, whiteT, mid, whiteT, closeT] ∧ mid.kind ≠ 9 ∧ abV mid = some (A, D) ∧ sb.size ≤ 30) := by
      subst hsb hA hD
      exact ⟨_, odd_tks, (show (1 : Int) ≠ 9 by decide), ab_odd, by decide⟩
    rw [hsb]
  case' inr.inr =>
    obtain ⟨A, hA⟩ : ∃ A : Int, A = 2 := ⟨_, rfl⟩
    obtain ⟨D, hD⟩ : ∃ D : Int, D = 0 := ⟨_, rfl⟩
    obtain ⟨⟨z0, z1, z2, z3⟩, f0, f1, f2, f3⟩ := blk4 kZ
    have kY : Blk ((W.setCell ⟨w2.heap.size, 1, none⟩ (.int .i64 2)).setCell ⟨w2.heap.size, 2, none⟩ (.int .i64 0)) w2.heap.size 26 [.int .i64 6, .int .i64 A, .int .i64 D, .slice none 0 0] := by
      subst hA hD
      exact blk_put (blk_put kZ 1 (.int .i64 2)) 2 (.int .i64 0)
    have bY : Below w2.heap.size w2 ((W.setCell ⟨w2.heap.size, 1, none⟩ (.int .i64 2)).setCell ⟨w2.heap.size, 2, none⟩ (.int .i64 0)) := (bZ.setCell (Nat.le_refl _) _).setCell (Nat.le_refl _) _
    clear H0 kZ bZ hr hrz k3 hk3
    go_upto_region 21 with fail
    clear z0 z1 z2 z3 f0 f1 f2 f3
    generalize (W.setCell _ _).setCell _ _ = WY at *
    obtain ⟨sb, hsb⟩ : ∃ sb : ByteArray, (⟨#[101, 118, 101, 110]⟩ : ByteArray) = sb := ⟨_, rfl⟩
    have HM : Hid (∃ mid : Bt, tksB (fullB sb.data.toList) = [colonT, txT 20 nthU, whiteT, mid, whiteT, closeT] ∧ mid.kind ≠ 9 ∧ abV mid = some (A, D) ∧ sb.size ≤ 30) := by
      subst hsb hA hD
      exact ⟨_, even_tks, (show (1 : Int) ≠ 9 by decide), ab_even, by decide⟩
    rw [hsb]
  all_goals
    clear hA hD hsb
    have hO := hT1.next bY
    have hb := below_next b1 bY
    have hBs := kY.lt
    clear bY b1 hT1
    obtain ⟨mid, e1, hm9, hab, hsz⟩ := HM.out
    clear HM
    generalize w2.heap.size = B at *
    rw [← full_data] at e1
    have p1 := nth_full hm9 hab
    have hof : Hid _ := Sl.of_any (⟨#[58, 78, 84, 72, 45, 99, 104, 105, 108, 100, 40, 32]⟩ ++ sb ++ ⟨#[32, 41]⟩) WY (by rw [ByteArray.size_append, ByteArray.size_append]; show 12 + sb.size + 2 ≤ _; omega)
    have HG1 : Hid (Sl.Good (tksB (⟨#[58, 78, 84, 72, 45, 99, 104, 105, 108, 100, 40, 32]⟩ ++ sb ++ ⟨#[32, 41]⟩ : ByteArray).data.toList)) := tksB_good _ (by rw [Array.length_toList]; show (⟨#[58, 78, 84, 72, 45, 99, 104, 105, 108, 100, 40, 32]⟩ ++ sb ++ ⟨#[32, 41]⟩ : ByteArray).size ≤ _; rw [ByteArray.size_append, ByteArray.size_append]; show 12 + sb.size + 2 ≤ _; omega)
    rw [e1] at hof HG1
    clear e1 hab hm9
    generalize [colonT, txT 20 nthU, whiteT, mid, whiteT, closeT] = ts1 at *
    replace hof := hof.out
    go_wp2_with fail
    refine Calls.mono hof ?_
    clear hof
    rintro e w7 ⟨v7, rfl, hr7, b7⟩
    have h3 := Sl.parse_any v7 ts1 w7 (BtsAt.of_owns hr7 rfl) (hO.next b7) HG1
    replace kY := kY.below b7 kY.lt
    replace hb := below_next hb b7
    clear hr7 b7
    go_wp2_with fail
    refine Calls.mono h3 ?_
    clear h3 HG1 hO
    rintro e w8 ⟨hcs, b8⟩
    replace kY := kY.below b8 kY.lt
    replace hb := below_next hb b8
    rcases hcs with ⟨l, x, hl, rfl, hx⟩ | ⟨hl, _⟩
    · obtain rfl := Option.some.inj (hl.symm.trans p1)
      have hx' := Wg.SelsAt.toE 9 hx
      clear hx hl p1 b8
      obtain ⟨px, cx, rfl⟩ := Wg.SelsE.len hx'
      obtain ⟨b, off, c, rfl, hbn, h1, h2, _, ⟨x2, rfl, hx2⟩, hcell⟩ := Wg.RowT.get hx' (k := 0) rfl
      have z0 := hcell 0 _ rfl
      obtain ⟨pp, cp, rfl⟩ := Wg.RowT.len hx2
      obtain ⟨bb, oo, c, rfl, hbb, m1, m2, _, ⟨c3, rfl, hcp⟩, hcl⟩ := Wg.RowT.get hx2 (k := 0) rfl
      obtain ⟨vi, vk, va, vp, rfl, n1, n2, n3, n4⟩ := hcp
      have y5 := hcl 5 _ rfl
      obtain ⟨pa, ca, rfl⟩ := n4.len
      obtain ⟨b3, o3, c, rfl, hb3, q1, q2, _, hat, hc4⟩ := Wg.RowT.get n4 (k := 0) rfl
      obtain ⟨xl, rfl, hxl⟩ := hat
      obtain ⟨pl, cl, rfl⟩ := Wg.SelsE.len hxl
      have a0 := hc4 0 _ rfl
      have a1 := hc4 1 _ rfl
      have a2 := hc4 2 _ rfl
      have a3 := hc4 3 _ rfl
      simp only [Cp.pss, Ps.kind, Ps.a, Ps.b, Ps.list, List.length_cons, List.length_nil, Nat.zero_mul, Nat.add_zero, Nat.zero_add] at z0 y5 a0 a1 a2 a3 h1 m1 q1
      clear hcell hcl hc4 hx' hx2 n1 n2 n3 n4 hxl
      have bA : Below w8.heap.size w8 (w8.alloc (.cells #[.int .i64 6, .int .i64 A, .int .i64 D, .slice pl 0 cl] 26)) := (Below.refl _ _).alloc (Nat.le_refl _) _
      have kQ := Blk.new w8 26 [.int .i64 6, .int .i64 A, .int .i64 D, .slice pl 0 cl]
      replace kY := kY.below bA kY.lt
      replace hb := below_next hb bA
      clear bA
      go_upto_region 25 with fail
      clear z0 y5 a0 a1 a2 a3
      change Blk (w8.alloc (.cells #[.int .i64 6, .int .i64 A, .int .i64 D, .slice pl 0 cl] 26)) _ _ _ at kQ
      generalize w8.alloc _ = W9 at *
      obtain ⟨⟨k0, k1, k2, k3⟩, _⟩ := blk4 kY
      obtain ⟨⟨q0, q1, q2, q3⟩, _⟩ := blk4 kQ
      clear kY kQ
      go_wp2
      go_ret
      exact ⟨rfl, hb⟩
    · cases hl.symm.trans p1

theorem selNth_met (os : Os) : laidMet Tryd.prog Rows.selNthRow.laid ((laidIn (World.holding Tryd.prog os ⟨#[], #[], []⟩)).forCall (fun _ _ => 0) ⟨#[], #[.int .i64 0, .int .i64 0], []⟩).memory :=
  laidMet_of_run' 8 (by kernel_rfl) (by kernel_rfl)
theorem selNth_reads (os : Os) {H : Type} (enc : TypeId × Value → H) : ∃ places, DataW.whole enc Tryd.prog ((laidIn (World.holding Tryd.prog os ⟨#[], #[], []⟩)).forCall (fun _ _ => 0) ⟨#[], #[.int .i64 0, .int .i64 0], []⟩).memory Tryd.f3.params.toList Rows.selNthSpec.vars false (#[.int .i64 0, .int .i64 0] : Array Value).toList 8 = some ([.lit (.int .i64 0), .lit (.int .i64 0)], [], places) :=
  ⟨[], by kernel_rfl⟩

set_option maxRecDepth 100000 in
theorem selNth_lifted (os : Os) (started : os.Started) (H : Type) (enc : TypeId × Value → H) (F : Stop.Interp) :
    ReturnsInHanded {} Tryd.checked os 3 .any ((OpenSpec.ofChange Rows.selNthSpec).preRow enc Tryd.prog Tryd.f3 Rows.selNthRow.domain false Rows.selNthRow.laid) (((OpenSpec.ofChange Rows.selNthSpec).at F).post enc Tryd.prog Tryd.f3 false true false false) := by
  obtain ⟨places, hx⟩ := selNth_reads os enc
  refine returnsInHanded_of_row (C := Tryd.checked) (s := OpenSpec.ofChange Rows.selNthSpec) ownNone started (by kernel_rfl) Tryd.func3
    (witness_row_at (enc := enc) (C := Tryd.checked) false (laidIn (World.holding Tryd.prog os ⟨#[], #[], []⟩)) #[.int .i64 0, .int .i64 0] rfl (by kernel_rfl) (by kernel_rfl) (by kernel_rfl)
      (OpenSpec.preRow_of_cond 8 hx (by kernel_rfl) (fun k hk => by cases hk) (by kernel_rfl) (selNth_met os))) ?_
  intro W base args ds gs before hval hW _ _ _ hL hS _
  have hW' := hW
  obtain ⟨p, q, hA0, hV, rfl, hfz, hnd⟩ := hW
  have hA : DataW.TrodAll enc Tryd.prog W 0 (fun _ => true) true Tryd.f3.params.toList args.toList ds p := hA0
  rw [Tryd.params3] at hA hval
  obtain ⟨v0, vs0, d0, ds0, p0, q0, hargs, rfl, rfl, h0, r0⟩ := trodAll_cons hA
  obtain ⟨v1, vs1, d1, ds1, p1, q1, rfl, rfl, rfl, h1, r1⟩ := trodAll_cons r0
  obtain ⟨rfl, rfl, rfl⟩ := trodAll_nil r1
  obtain rfl : args = #[v0, v1] := by cases args; simp_all
  obtain ⟨rfl, rfl⟩ := trodVars_none hV
  obtain ⟨a0, rfl, rfl, rfl, w0⟩ := open_int Tryd.underlying3 (hval 0 3 v0 rfl rfl) h0
  obtain ⟨a1, rfl, rfl, rfl, w1⟩ := open_int Tryd.underlying3 (hval 1 3 v1 rfl rfl) h1
  clear hA0
  refine (selNth_walk W (tabs_of_laid hL hS) a0 w0 a1 w1).mono fun e W' ⟨he, bel⟩ => ?_
  subst he
  exact ⟨_, rfl, _, _, _, [], _, [], hW', trodAll_mk1 (shut_bool Tryd.underlying4 _), (trodAll_cons_mk (shut_int Tryd.underlying3 w0) (trodAll_cons_mk (shut_int Tryd.underlying3 w1) trodAll_mk0)), rfl, bel.frame _, fun h => by cases h⟩

theorem selNth_said : Rows.SelNthSaid :=
  OpenClaim.holds_of_cond 3 Tryd.f3 rfl rfl rfl rfl rfl rfl rfl ⟨rfl, rfl, rfl, rfl, rfl⟩ rfl rfl rfl rfl rfl (by kernel_rfl) Tryd.func3 (by kernel_rfl)
    (of_decide_eq_true (by kernel_rfl)) (by unfold Func.isWrapper; first | (rw [if_pos (by decide +kernel)]; kernel_rfl) | (rw [if_neg (by decide +kernel)]; exact ⟨rfl, rfl⟩))
    (fun os started H enc _ F => by rw [OpenClaim.pre_eq_preRow]; exact selNth_lifted os started H enc F)

theorem selNth_plain (f : FuncId) (fn : Func) (hf : Tryd.pinned.checked.prog.funcNamed "tapestrier/tapestrierlaw8.SelNth" = some f) (hfn : Tryd.pinned.checked.prog.funcs[f]? = some fn) :
    false = Tryd.pinned.checked.prog.looks [] ∧ ∀ (j : Nat) t, fn.params[j]? = some t → Tryd.pinned.checked.prog.wantsStandIn t = false := by
  obtain rfl : f = 3 := Option.some.inj ((show Tryd.prog.funcNamed "tapestrier/tapestrierlaw8.SelNth" = some 3 by kernel_rfl).symm.trans hf) |>.symm
  obtain rfl : fn = Tryd.f3 := (Option.some.inj (Tryd.func3.symm.trans hfn)).symm
  refine ⟨by kernel_rfl, fun j t ht => ?_⟩
  rw [Tryd.params3] at ht
  have hm : t ∈ [3] := by simpa using Array.mem_of_getElem? ht
  have hall : ([3].all fun u => !Tryd.prog.wantsStandIn u) = true := by kernel_rfl
  exact (show Tryd.prog.wantsStandIn t = false by simpa using List.all_eq_true.1 hall t hm)

theorem selNth_card : Rows.SelNthCardSaid :=
  Claim7.holds_tied_plain_at .later [] _ _ _ _ selNth_said (fun _ h => by cases h) (by kernel_rfl) (fun _ h => by cases h) selNth_row_tie rfl ⟨rfl, rfl⟩ (by kernel_rfl) rfl selNth_plain (by kernel_rfl)
#print axioms selNth_card


end Go.Proofs.YtkhgmobependiaaDoor
