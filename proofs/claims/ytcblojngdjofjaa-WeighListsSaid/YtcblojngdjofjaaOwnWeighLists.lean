/- For every two selectors and either word (inputs without rings): the law tapestrierlaw11.WeighLists returns true and leaves its arguments as they were; no other condition. -/
import Derived.Test.YtcblojngdjofjaaWgB
import Derived.Test.YtcblojngdjofjaaWgC
import Derived.Test.YtcblojngdjofjaaDear
import Derived.Test.YtcblojngdjofjaaSelArgs
import Derived.Test.YtcblojngdjofjaaRows
namespace Go.Proofs.Ytcblojngdjofjaa
open Go.Proofs.Ytcblojngdjofjaa.Tre
open Go Go.ChangeShapes Go.WideShapes Go.ChangeAt Go.RowKit Sl Wg

/-! ### plain facts -/
def oneX (k : Int) (L : List Sel) : Sel := [(0, .mk ⟨#[]⟩ [] [] [] [.mk k 0 0 L])]
theorem gr_zero {n : Nat} (h : n ≤ 255) : gr 0 n = n := by unfold gr; rw [Nat.zero_add, if_pos h]
theorem with_zero {s : Sm} (h : s.ok) : withV Sm.zero s = s := by
  obtain ⟨i, c, t⟩ := s
  obtain ⟨h1, h2, h3⟩ := h
  show (⟨gr 0 i, gr 0 c, gr 0 t⟩ : Sm) = _
  rw [gr_zero h1, gr_zero h2, gr_zero h3]
theorem of_one {k : Int} (hk : k = 7 ∨ k = 8) (L : List Sel) : ofV (oneX k L) = weightV (greatV 8 L) := by
  have h : sumsV (greatV 8) (oneX k L) = greatV 8 L := by
    show withV (withV Sm.zero (namesV (.mk ⟨#[]⟩ [] [] [] [.mk k 0 0 L]))) (psV (greatV 8) (.mk k 0 0 L)) = _
    have h1 : namesV (.mk ⟨#[]⟩ [] [] [] [.mk k 0 0 L]) = Sm.zero := rfl
    rw [h1, with_zero zero_ok]
    have h2 : psV (greatV 8) (.mk k 0 0 L) = greatV 8 L := if_pos hk
    rw [h2, with_zero (greatV_ok 8 L)]
  unfold ofV
  rw [h]
def mx (a b : Nat) : Nat := if a < b then b else a
theorem weight_hv (X B : Sm) : weightV (heavier X B) = mx (weightV X) (weightV B) := by
  unfold heavier mx
  split <;> rfl
theorem weight_two (A B : Sm) : weightV (heavier (heavier Sm.zero A) B) = mx (weightV A) (weightV B) := by
  have h0 : weightV (heavier Sm.zero A) = weightV A := by
    unfold heavier
    split
    · rfl
    · rename_i h
      have : weightV Sm.zero = 0 := rfl
      omega
  rw [weight_hv, h0]
theorem great_two (a b : Sel) : weightV (greatV 8 [a, b]) = mx (weightV (sumsV (greatV 7) a)) (weightV (sumsV (greatV 7) b)) := weight_two _ _
theorem of_flat {s : Sel} (h : deepS 7 s = false) : weightV (sumsV (greatV 7) (cutS 7 s)) = ofV s := by
  rw [sums7_cut, ← sums_flat 7 s h]
  rfl
theorem mx_comm (a b : Nat) : mx a b = mx b a := by
  unfold mx
  split <;> split <;> omega

theorem sels_two {d : Nat} {W : World} {x y : Value} {a b : Sel} (hx : PartsR d W.heap.size W x a) (hy : PartsR d W.heap.size W y b) (t : TypeId) :
    SelsR (d + 1) (W.alloc (.cells #[x, y] t)).heap.size (W.alloc (.cells #[x, y] t)) (.slice (some ⟨W.heap.size, 0, none⟩) 2 2) [a, b] := by
  have bl : Below W.heap.size W (W.alloc (.cells #[x, y] t)) := (Below.refl _ _).alloc (Nat.le_refl _) _
  have hx' := PartsR.next hx bl
  have hy' := PartsR.next hy bl
  have hb := heap_alloc_new W (.cells #[x, y] t)
  generalize W.alloc (.cells #[x, y] t) = V at *
  refine .inr ⟨W.heap.size, 0, 2, rfl, Nat.le_refl _, by decide, (Array.getElem?_eq_some_iff.1 hb).1, fun j r hr => ?_⟩
  match j, hr with
  | 0, hr =>
    obtain rfl : a = r := by simpa using hr
    refine ⟨[x], rfl, ⟨x, rfl, hx'⟩, fun i u hu => ?_⟩
    match i, hu with
    | 0, hu => simp at hu; subst hu; simp [World.cell?, hb]
    | i + 1, hu => simp at hu
  | 1, hr =>
    obtain rfl : b = r := by simpa using hr
    refine ⟨[y], rfl, ⟨y, rfl, hy'⟩, fun i u hu => ?_⟩
    match i, hu with
    | 0, hu => simp at hu; subst hu; simp [World.cell?, hb]
    | i + 1, hu => simp at hu
  | j + 2, hr => simp at hr
theorem list_new (W : World) (lv : Value) (k : Int) (L : List Sel) (h : SelsR 8 W.heap.size W lv L) (t1 t2 : TypeId) :
    PartsR 8 ((W.alloc (.cells #[.int .i64 k, .int .i64 0, .int .i64 0, lv] t1)).alloc (.cells #[.int .i64 0, .string ⟨#[]⟩, .slice none 0 0, .slice none 0 0, .slice none 0 0, .slice (some ⟨W.heap.size, 0, none⟩) 1 1] t2)).heap.size
      ((W.alloc (.cells #[.int .i64 k, .int .i64 0, .int .i64 0, lv] t1)).alloc (.cells #[.int .i64 0, .string ⟨#[]⟩, .slice none 0 0, .slice none 0 0, .slice none 0 0, .slice (some ⟨W.heap.size, 0, none⟩) 1 1] t2))
      (.slice (some ⟨W.heap.size + 1, 0, none⟩) 1 1) (oneX k L) := by
  have bl : Below W.heap.size W (W.alloc (.cells #[.int .i64 k, .int .i64 0, .int .i64 0, lv] t1)) := (Below.refl _ _).alloc (Nat.le_refl _) _
  have h' := h.next bl
  have hb := heap_alloc_new W (.cells #[.int .i64 k, .int .i64 0, .int .i64 0, lv] t1)
  have hs : (W.alloc (.cells #[.int .i64 k, .int .i64 0, .int .i64 0, lv] t1)).heap.size = W.heap.size + 1 := World.size_alloc _ _
  generalize W.alloc (.cells #[.int .i64 k, .int .i64 0, .int .i64 0, lv] t1) = V at *
  rw [← hs]
  exact parts_new (d := 8) (W := V) (comb := 0) (cells := [.string ⟨#[]⟩, .slice none 0 0, .slice none 0 0, .slice none 0 0, .slice (some ⟨W.heap.size, 0, none⟩) 1 1]) rfl
    ⟨_, _, _, _, rfl, row_nil _ _ _ _, row_nil _ _ _ _, row_nil _ _ _ _, row_one (cs := [.int .i64 k, .int .i64 0, .int .i64 0, lv]) hb rfl ⟨lv, rfl, h'⟩⟩ t2

set_option maxRecDepth 100000 in
set_option maxHeartbeats 1000000 in
theorem weighLists_walk (w : World) (va : Value) (sa : Sel) (ha : SelAt sa w va) (_ha : SlOk sa) (vb : Value) (sb : Sel) (hb : SelAt sb w vb) (_hb : SlOk sb) (is : Bool) :
    Calls Try.prog 3 #[va, vb, .bool is] w fun e w' => e = .returned (.bool true) ∧ Below w.heap.size w w' := by
  obtain ⟨xa, rfl, ha⟩ := ha
  obtain ⟨xb, rfl, hb⟩ := hb
  have ha8 := PartsR.cut (PartsR.cut ha)
  have hb8 := PartsR.cut (PartsR.cut hb)
  generalize cutS 8 (cutS 9 sa) = sa8 at *
  generalize cutS 8 (cutS 9 sb) = sb8 at *
  have ha7 := PartsR.cut ha8
  have hb7 := PartsR.cut hb8
  obtain ⟨qa, ca, rfl⟩ := RowT.len ha
  obtain ⟨qb, cb, rfl⟩ := RowT.len hb
  obtain ⟨w1, hw1⟩ : ∃ w1, w.alloc (.cells #[.slice qa sa.length ca] 24) = w1 := ⟨_, rfl⟩
  have b1 : Below w.heap.size w w1 := by rw [← hw1]; exact (Below.refl _ _).alloc (Nat.le_refl _) _
  have k1 : Blk w1 w.heap.size 24 [.slice qa sa.length ca] := by rw [← hw1]; exact Blk.new w 24 _
  obtain ⟨w2, hw2⟩ : ∃ w2, w1.alloc (.cells #[.slice qb sb.length cb] 24) = w2 := ⟨_, rfl⟩
  have b2 : Below w1.heap.size w1 w2 := by rw [← hw2]; exact (Below.refl _ _).alloc (Nat.le_refl _) _
  have k2 : Blk w2 w1.heap.size 24 [.slice qb sb.length cb] := by rw [← hw2]; exact Blk.new w1 24 _
  have k12 := k1.below b2 k1.lt
  have B2 := below_next b1 b2
  have hal := Wg.alive_any w2
  have HA : Hid (PartsR 10 w.heap.size w (.slice qa sa.length ca) sa) := ha
  have HB : Hid (PartsR 10 w.heap.size w (.slice qb sb.length cb) sb) := hb
  have HA8 : Hid (PartsR 8 w.heap.size w (.slice qa sa.length ca) sa8) := ha8
  have HB8 : Hid (PartsR 8 w.heap.size w (.slice qb sb.length cb) sb8) := hb8
  have HA7 : Hid (PartsR 7 w.heap.size w (.slice qa sa.length ca) (cutS 7 sa8)) := ha7
  have HB7 : Hid (PartsR 7 w.heap.size w (.slice qb sb.length cb) (cutS 7 sb8)) := hb7
  have K1 : Hid (Blk w2 w.heap.size 24 [.slice qa sa.length ca]) := k12
  have K2 : Hid (Blk w2 w1.heap.size 24 [.slice qb sb.length cb]) := k2
  obtain ⟨NA, hNA⟩ : ∃ NA, sa.length = NA := ⟨_, rfl⟩
  obtain ⟨NB, hNB⟩ : ∃ NB, sb.length = NB := ⟨_, rfl⟩
  rw [hNA] at HA HA8 HA7 K1 hw1
  rw [hNB] at HB HB8 HB7 K2 hw2
  clear ha hb ha8 hb8 ha7 hb7 k1 k2 k12 b1 b2
  go_enter Try.func3, Try.ntmps3
  rw [hNA, hNB]
  clear hNA hNB
  go_wp2_with fail
  refine hal.mono ?_
  clear hal hw1 hw2
  rintro e w3 ⟨rfl, b3⟩
  have B3 := below_next B2 b3
  have k1 := K1.out.below b3 K1.out.lt
  have k2 := K2.out.below b3 K2.out.lt
  have c1 := (blk1 k1).1
  have c2 := (blk1 k2).1
  obtain ⟨w4, hw4⟩ : ∃ w4, w3.alloc (.cells #[.slice qa NA ca, .slice qb NB cb] 24) = w4 := ⟨_, rfl⟩
  have b4 : Below w3.heap.size w3 w4 := by rw [← hw4]; exact (Below.refl _ _).alloc (Nat.le_refl _) _
  have k4 : Blk w4 w3.heap.size 24 [.slice qa NA ca, .slice qb NB cb] := by rw [← hw4]; exact Blk.new w3 24 _
  have h11 : SelsR 11 w4.heap.size w4 (.slice (some ⟨w3.heap.size, 0, none⟩) 2 2) [sa, sb] := by rw [← hw4]; exact sels_two (PartsR.next HA.out B3) (PartsR.next HB.out B3) _
  have h8l : SelsR 8 w4.heap.size w4 (.slice (some ⟨w3.heap.size, 0, none⟩) 2 2) [cutS 7 sa8, cutS 7 sb8] := by rw [← hw4]; exact sels_two (PartsR.next HA7.out B3) (PartsR.next HB7.out B3) _
  have hde := Dear_any _ _ w4 h11
  have B4 := below_next B3 b4
  have HK1 : Hid (Blk w4 w.heap.size 24 [.slice qa NA ca]) := k1.below b4 k1.lt
  have HK2 : Hid (Blk w4 w1.heap.size 24 [.slice qb NB cb]) := k2.below b4 k2.lt
  have HK4 : Hid (Blk w4 w3.heap.size 24 [.slice qa NA ca, .slice qb NB cb]) := k4
  have HLIST : Hid (∀ X, Below w4.heap.size w4 X → SelsR 8 X.heap.size X (.slice (some ⟨w3.heap.size, 0, none⟩) 2 2) [cutS 7 sa8, cutS 7 sb8]) := fun X hX => h8l.next hX
  clear k1 k2 k4 h11 h8l
  go_wp2_with fail
  refine hde.mono ?_
  clear hde c1 c2 hw4
  rintro e w5 ⟨t, rfl, b5⟩
  have B5 := below_next B4 b5
  cases t with
  | true =>
    go_wp2
    go_ret
    exact ⟨rfl, B5⟩
  | false =>
    go_wp2
    go_loopw [10] (fun x wr => ∃ k : Nat, x = .int .i64 k ∧ k ≤ 2 ∧ Hid ((0 < k → deepS 7 sa8 = false) ∧ (1 < k → deepS 7 sb8 = false)) ∧ Below w4.heap.size w4 wr) (fun x _ => 2 - (intOf x).toNat)
    case atStart => exact ⟨0, rfl, by omega, ⟨fun h => by omega, fun h => by omega⟩, b5⟩
    case round =>
      obtain ⟨k, rfl, hk, HD, hb⟩ := hrel
      obtain ⟨⟨y0, y1⟩, _⟩ := blk2 (HK4.out.below hb HK4.out.lt)
      have hBw := below_next B4 hb
      have hda := deepSel_any 7 (by omega) _ _ wr (PartsR.next HA7.out hBw)
      have hdb := deepSel_any 7 (by omega) _ _ wr (PartsR.next HB7.out hBw)
      rw [show (8 : Int) - ((7 : Nat) : Int) = 1 from rfl, deepS_cut] at hda hdb
      match k, hk with
      | 0, _ =>
        clear hdb
        go_wp2_with fail
        refine hda.mono ?_
        clear hda y0 y1
        rintro e w6 ⟨rfl, b6⟩
        have hB6 := below_next hb b6
        have hBF := below_next B4 hB6
        cases ht : deepS 7 sa8 with
        | true =>
          clear ht
          go_wp2
          go_ret
          exact ⟨rfl, hBF⟩
        | false =>
          have HD1 : Hid ((0 < 1 → deepS 7 sa8 = false) ∧ (1 < 1 → deepS 7 sb8 = false)) := ⟨fun _ => ht, fun h => by omega⟩
          clear ht
          go_wp2
          go_roundw
          case rel => exact ⟨1, rfl, by omega, HD1, hB6⟩
          case measure => simp [intOf]
      | 1, _ =>
        clear hda
        go_wp2_with fail
        refine hdb.mono ?_
        clear hdb y0 y1
        rintro e w6 ⟨rfl, b6⟩
        have hB6 := below_next hb b6
        have hBF := below_next B4 hB6
        cases ht : deepS 7 sb8 with
        | true =>
          clear ht
          go_wp2
          go_ret
          exact ⟨rfl, hBF⟩
        | false =>
          have HD1 : Hid ((0 < 2 → deepS 7 sa8 = false) ∧ (1 < 2 → deepS 7 sb8 = false)) := ⟨fun _ => HD.out.1 (by omega), fun _ => ht⟩
          clear ht
          go_wp2
          go_roundw
          case rel => exact ⟨2, rfl, by omega, HD1, hB6⟩
          case measure => simp [intOf]
      | 2, _ =>
        clear hda hdb y0 y1
        obtain ⟨fa, fb⟩ := HD.out
        have hwa := of_flat (fa (by omega))
        have hwb := of_flat (fb (by omega))
        have HW : Hid (∀ k, k = 7 ∨ k = 8 → ofV (oneX k [cutS 7 sa8, cutS 7 sb8]) = mx (ofV sa8) (ofV sb8) ∧ ofV (oneX k [cutS 7 sb8, cutS 7 sa8]) = mx (ofV sa8) (ofV sb8)) := fun k hk => by
          rw [of_one hk, of_one hk, great_two, great_two, hwa, hwb]
          exact ⟨rfl, mx_comm _ _⟩
        have c1 := (blk1 (HK1.out.below hb HK1.out.lt)).1
        have hoa := of_any _ _ wr (PartsR.next HA8.out hBw)
        obtain ⟨WA, hWA⟩ : ∃ WA, ofV sa8 = WA := ⟨_, rfl⟩
        obtain ⟨WB, hWB⟩ : ∃ WB, ofV sb8 = WB := ⟨_, rfl⟩
        have HWB : Hid (ofV sb8 = WB) := hWB
        rw [hWA] at hoa
        rw [hWA, hWB] at HW
        clear hwa hwb fa fb hWA hWB
        obtain ⟨KK, hKK⟩ : ∃ KK : Int, (if is then 8 else 7) = KK := ⟨_, rfl⟩
        have HKK : Hid ((if is then (8 : Int) else 7) = KK) := hKK
        have HK78 : Hid (KK = 7 ∨ KK = 8) := by show KK = 7 ∨ KK = 8; rw [← hKK]; cases is <;> simp
        clear hKK
        go_upto_if 38 with fail
        go_cut [12] (fun x wx => x = .int .i64 KK ∧ wx = wr)
        case first =>
          cases is with
          | true =>
            have e8 : KK = 8 := by rw [← HKK.out]; rfl
            go_wp2
            go_meet
            exact ⟨by rw [e8], rfl⟩
          | false =>
            have e7 : KK = 7 := by rw [← HKK.out]; rfl
            go_wp2
            go_meet
            exact ⟨by rw [e7], rfl⟩
        case rest =>
        obtain ⟨rfl, rfl⟩ := hcut
        go_wp2_with fail
        refine hoa.mono ?_
        clear hoa c1
        rintro e w6 ⟨rfl, b6⟩
        have hb6 := below_next hb b6
        have hB6 := below_next B4 hb6
        have c2 := (blk1 (HK2.out.below hb6 HK2.out.lt)).1
        have hob := of_any _ _ w6 (PartsR.next HB8.out hB6)
        rw [HWB.out] at hob
        go_wp2_with fail
        refine hob.mono ?_
        clear hob c2
        rintro e w7 ⟨rfl, b7⟩
        have hb7 := below_next hb6 b7
        have hB7 := below_next B4 hb7
        have c2 := (blk1 (HK2.out.below hb7 HK2.out.lt)).1
        have hob2 := of_any _ _ w7 (PartsR.next HB8.out hB7)
        rw [HWB.out] at hob2
        obtain ⟨MX, hMX⟩ : ∃ MX, mx WA WB = MX := ⟨_, rfl⟩
        have HMX : Hid (mx WA WB = MX) := hMX
        rw [hMX] at HW
        clear hMX
        go_upto_if 44 with fail
        go_cut [13] (fun x wx => x = .int .i64 MX ∧ Below w4.heap.size w4 wx)
        case first =>
          by_cases hgt : WA < WB
          · have hgi : decide ((WA : Int) < (WB : Int)) = true := decide_eq_true (by omega)
            have hgn : decide (WA < WB) = true := decide_eq_true hgt
            have em : MX = WB := by rw [← HMX.out]; unfold mx; exact if_pos hgt
            first | rw [hgn] | rw [hgi]
            clear hgi hgn hgt
            go_wp2_with fail
            refine hob2.mono ?_
            clear hob2
            rintro e w8 ⟨rfl, b8⟩
            have hb8 := below_next hb7 b8
            go_wp2
            go_meet
            exact ⟨by rw [em], hb8⟩
          · have hgi : decide ((WA : Int) < (WB : Int)) = false := decide_eq_false (by omega)
            have hgn : decide (WA < WB) = false := decide_eq_false hgt
            have em : MX = WA := by rw [← HMX.out]; unfold mx; exact if_neg hgt
            first | rw [hgn] | rw [hgi]
            clear hgi hgn hgt hob2
            go_wp2
            go_meet
            exact ⟨by rw [em], hb7⟩
        case rest =>
        obtain ⟨rfl, hb8⟩ := hcut
        clear hob2 c2
        obtain ⟨w8, hw8⟩ : ∃ w8, w8 = wc := ⟨_, rfl⟩
        subst hw8
        have hX1 := list_new w8 _ KK _ (HLIST.out w8 hb8) 31 38
        obtain ⟨Q1, hQ1⟩ : ∃ Q1, (w8.alloc (.cells #[.int .i64 KK, .int .i64 0, .int .i64 0, .slice (some ⟨w3.heap.size, 0, none⟩) 2 2] 31)).alloc (.cells #[.int .i64 0, .string ⟨#[]⟩, .slice none 0 0, .slice none 0 0, .slice none 0 0, .slice (some ⟨w8.heap.size, 0, none⟩) 1 1] 38) = Q1 := ⟨_, rfl⟩
        rw [hQ1] at hX1
        have bQ1 : Below w8.heap.size w8 Q1 := by rw [← hQ1]; exact ((Below.refl _ w8).alloc (Nat.le_refl _) _).alloc (by simp) _
        have sQ1 : Q1.heap.size = w8.heap.size + 1 + 1 := by rw [← hQ1, World.size_alloc, World.size_alloc]
        obtain ⟨R1, hR1⟩ : ∃ R1, Q1.alloc (.cells #[.slice (some ⟨w8.heap.size + 1, 0, none⟩) 1 1] 24) = R1 := ⟨_, rfl⟩
        have bR1 : Below Q1.heap.size Q1 R1 := by rw [← hR1]; exact (Below.refl _ _).alloc (Nat.le_refl _) _
        have kR1 : Blk R1 (w8.heap.size + 1 + 1) 24 [.slice (some ⟨w8.heap.size + 1, 0, none⟩) 1 1] := by rw [← hR1, ← sQ1]; exact Blk.new Q1 24 _
        have hbR1 := below_next hb8 (below_next bQ1 bR1)
        have HX1 : Hid (PartsR 8 R1.heap.size R1 (.slice (some ⟨w8.heap.size + 1, 0, none⟩) 1 1) (oneX KK [cutS 7 sa8, cutS 7 sb8])) := PartsR.next hX1 bR1
        have HKR1 : Hid (Blk R1 (w8.heap.size + 1 + 1) 24 [.slice (some ⟨w8.heap.size + 1, 0, none⟩) 1 1]) := kR1
        clear hX1 kR1
        go_upto_region 19 with fail
        first | rw [hQ1] | skip
        first | rw [hR1] | skip
        clear hQ1 sQ1 hR1 bQ1 bR1
        have d1 := (blk1 (HK1.out.below hbR1 HK1.out.lt)).1
        have d2 := (blk1 (HK2.out.below hbR1 HK2.out.lt)).1
        have hBR1 := below_next B4 hbR1
        have hl2 := sels_two (PartsR.next HB7.out hBR1) (PartsR.next HA7.out hBR1) 24
        obtain ⟨V1, hV1⟩ : ∃ V1, R1.alloc (.cells #[.slice qb NB cb, .slice qa NA ca] 24) = V1 := ⟨_, rfl⟩
        rw [hV1] at hl2
        have bV1 : Below R1.heap.size R1 V1 := by rw [← hV1]; exact (Below.refl _ _).alloc (Nat.le_refl _) _
        have sV1 : V1.heap.size = R1.heap.size + 1 := by rw [← hV1]; exact World.size_alloc _ _
        have hX2 := list_new V1 _ KK _ hl2 31 38
        rw [sV1] at hX2
        obtain ⟨Q2, hQ2⟩ : ∃ Q2, (V1.alloc (.cells #[.int .i64 KK, .int .i64 0, .int .i64 0, .slice (some ⟨R1.heap.size, 0, none⟩) 2 2] 31)).alloc (.cells #[.int .i64 0, .string ⟨#[]⟩, .slice none 0 0, .slice none 0 0, .slice none 0 0, .slice (some ⟨R1.heap.size + 1, 0, none⟩) 1 1] 38) = Q2 := ⟨_, rfl⟩
        rw [hQ2] at hX2
        have bQ2 : Below V1.heap.size V1 Q2 := by rw [← hQ2]; exact ((Below.refl _ V1).alloc (Nat.le_refl _) _).alloc (by simp) _
        have sQ2 : Q2.heap.size = R1.heap.size + 1 + 1 + 1 := by rw [← hQ2, World.size_alloc, World.size_alloc, sV1]
        obtain ⟨R2, hR2⟩ : ∃ R2, Q2.alloc (.cells #[.slice (some ⟨R1.heap.size + 1 + 1, 0, none⟩) 1 1] 24) = R2 := ⟨_, rfl⟩
        have bR2 : Below Q2.heap.size Q2 R2 := by rw [← hR2]; exact (Below.refl _ _).alloc (Nat.le_refl _) _
        have kR2 : Blk R2 (R1.heap.size + 1 + 1 + 1) 24 [.slice (some ⟨R1.heap.size + 1 + 1, 0, none⟩) 1 1] := by rw [← hR2, ← sQ2]; exact Blk.new Q2 24 _
        have b12 := below_next (below_next bV1 bQ2) bR2
        have HX2 : Hid (PartsR 8 R2.heap.size R2 (.slice (some ⟨R1.heap.size + 1 + 1, 0, none⟩) 1 1) (oneX KK [cutS 7 sb8, cutS 7 sa8])) := PartsR.next hX2 bR2
        have HKR2 : Hid (Blk R2 (R1.heap.size + 1 + 1 + 1) 24 [.slice (some ⟨R1.heap.size + 1 + 1, 0, none⟩) 1 1]) := kR2
        obtain ⟨ox, oy⟩ := HW.out KK HK78.out
        have hof1 := of_any _ _ R2 (PartsR.next HX1.out b12)
        rw [ox] at hof1
        have z1 := (blk1 (HKR1.out.below b12 HKR1.out.lt)).1
        have hBR2 := below_next hBR1 b12
        have HOY : Hid (ofV (oneX KK [cutS 7 sb8, cutS 7 sa8]) = MX) := oy
        clear hX2 kR2 ox oy hl2
        go_upto_region 20 with fail
        first | rw [hV1] | skip
        first | rw [hQ2] | skip
        first | rw [hR2] | skip
        clear hV1 hQ2 hR2 sV1 sQ2 bV1 bQ2 bR2 d1 d2
        go_wp2_with fail
        refine hof1.mono ?_
        clear hof1 z1
        rintro e w9 ⟨rfl, b9⟩
        have z2 := (blk1 (HKR2.out.below b9 HKR2.out.lt)).1
        have hof2 := of_any _ _ w9 (PartsR.next HX2.out b9)
        rw [HOY.out] at hof2
        have hB9 := below_next hBR2 b9
        go_wp2_with fail
        refine hof2.mono ?_
        clear hof2 z2
        rintro e w10 ⟨rfl, b10⟩
        have hBF := below_next hB9 b10
        go_wp2
        go_ret
        exact ⟨rfl, hBF⟩

set_option maxRecDepth 100000 in
theorem weighLists_lifted (os : Os) (started : os.Started) (H : Type) (enc : TypeId × Value → H) :
    ReturnsInHanded {} Try.checked os 3 .any (Rows.weighListsSpec.pre6 enc Try.prog Try.f3 Rows.weighListsRow.domain false) (Rows.weighListsSpec.post enc Try.prog Try.f3 false true false false) := by
  refine returnsInHanded_of_change_sized (C := Try.checked) ownNone started (by kernel_rfl) Try.func3
    (ChangeSpec.witness6 (enc := enc) (C := Try.checked) false ⟨#[], #[.agg #[.slice none 0 0], .agg #[.slice none 0 0], .bool false], []⟩ 8 (by kernel_rfl) (by kernel_rfl) (by kernel_rfl) (by kernel_rfl)) ?_
  intro W base args ds gs before hval hW _ hsz0 _
  have hW' := hW
  obtain ⟨p, q, hA0, hV, rfl, hfz, hnd⟩ := hW
  have hA : DataW.TrodAll enc Try.prog W 0 (fun _ => true) true Try.f3.params.toList args.toList ds p := hA0
  rw [Try.params3] at hA hval hsz0
  obtain ⟨v0, vs0, d0, ds0, p0, q0, hargs, rfl, rfl, h0, r0⟩ := trodAll_cons hA
  obtain ⟨v1, vs1, d1, ds1, p1, q1, rfl, rfl, rfl, h1, r1⟩ := trodAll_cons r0
  obtain ⟨v2, vs2, d2, ds2, p2, q2, rfl, rfl, rfl, h2, r2⟩ := trodAll_cons r1
  obtain ⟨rfl, rfl, rfl⟩ := trodAll_nil r2
  obtain rfl : args = #[v0, v1, v2] := by cases args; simp_all
  obtain ⟨rfl, rfl⟩ := trodVars_none hV
  have hsz := List.all_eq_true.1 hsz0
  have k0 := h0
  have lt0 : ∀ x ∈ p0, x.block < W.heap.size := by obtain ⟨m, hm⟩ := k0; exact DataW.trod_lt m _ _ _ hm
  obtain ⟨z0, w0, y0⟩ := Wg.selAt_of_reads k0 (hval 0 24 v0 rfl rfl) (fun n hn => by simpa using hsz n (DataW.weights_mem_each (j := 0) rfl rfl n hn))
  have k1 := h1
  have lt1 : ∀ x ∈ p1, x.block < W.heap.size := by obtain ⟨m, hm⟩ := k1; exact DataW.trod_lt m _ _ _ hm
  obtain ⟨z1, w1, y1⟩ := Wg.selAt_of_reads k1 (hval 1 24 v1 rfl rfl) (fun n hn => by simpa using hsz n (DataW.weights_mem_each (j := 1) rfl rfl n hn))
  obtain ⟨a2, rfl, rfl, rfl⟩ := open_bool Try.underlying4 (hval 2 4 v2 rfl rfl) h2
  clear hA0
  refine (weighLists_walk W v0 z0 w0 y0 v1 z1 w1 y1 a2).mono fun e W' ⟨he, bel⟩ => ?_
  subst he
  exact ⟨_, rfl, _, _, _, [], _, [], hW', trodAll_mk1 (shut_bool Try.underlying4 _), (trodAll_cons_mk (Below.trod laidOut (by kernel_rfl) (of_decide_eq_true (by kernel_rfl)) k0 bel lt0) (trodAll_cons_mk (Below.trod laidOut (by kernel_rfl) (of_decide_eq_true (by kernel_rfl)) k1 bel lt1) (trodAll_cons_mk (shut_bool Try.underlying4 _) trodAll_mk0))), rfl, bel.frame _, fun h => by cases h⟩

theorem weighLists_said : Rows.WeighListsSaid :=
  OpenClaim.holds_of_wide 3 Try.f3 rfl rfl rfl rfl rfl rfl rfl ⟨rfl, rfl, rfl, rfl, rfl⟩ rfl rfl rfl rfl rfl (by kernel_rfl) Try.func3 (by kernel_rfl)
    (of_decide_eq_true (by kernel_rfl)) (by unfold Func.isWrapper; first | (rw [if_pos (by decide +kernel)]; kernel_rfl) | (rw [if_neg (by decide +kernel)]; exact ⟨rfl, rfl⟩))
    (fun os started H enc _ => weighLists_lifted os started H enc)
#print axioms weighLists_said


end Go.Proofs.Ytcblojngdjofjaa
