/- For every slice of truth values: the law tapestrierlaw8.SelLower returns true and leaves its argument as it was; no condition (its card: the table of operators read off the program's text). -/
import Derived.Test.YteihbpmmjlkkgaaDoorSlLow
import Derived.Test.YteihbpmmjlkkgaaDoorSlBools
import Derived.Deep.QuietTactic
import Derived.Lib.SlBytesConst
namespace Go.Proofs.YteihbpmmjlkkgaaDoor
open Go.Proofs.YteihbpmmjlkkgaaDoor.Tre
open Go Go.ChangeShapes Go.WideShapes Go.ChangeAt Go.RowKit Sl
open Go.ChangeMaps (open_string shut_string)

theorem row_below {W W' : World} {g n n₀ : Nat} {f : Nat → UInt8} (h : Lw.Row W g n f) (hb : Below n₀ W W') (hg : g < n₀) : Lw.Row W' g n f := fun j hj => by
  refine ⟨(hb.cell (p := ⟨g, j, none⟩) hg).trans (h j hj).1, ?_⟩
  have := (h j hj).2
  unfold World.frozen? at this ⊢
  rw [hb.block g hg]
  exact this
def upB (c : UInt8) : UInt8 := if 97 ≤ c.toNat ∧ c.toNat ≤ 122 then UInt8.ofNat (c.toNat - 32) else c
/-- A letter as it is asked for: a great one where it is said. -/
def mx (up : List Bool) (j : Nat) (c : UInt8) : UInt8 := if up[j]?.getD false = true then upB c else c
def mixB (up : List Bool) (k j : Nat) (c : UInt8) : UInt8 := if j < k then mx up j c else c
def mix (x : List UInt8) (up : List Bool) (k : Nat) : List UInt8 := x.mapIdx (mixB up k)
theorem mix_len (x : List UInt8) (up : List Bool) (k : Nat) : (mix x up k).length = x.length := by simp [mix]
def mixF (x : List UInt8) (up : List Bool) (k j : Nat) : UInt8 := (mix x up k)[j]?.getD 0
theorem mixF_at {x : List UInt8} {up : List Bool} {k j : Nat} {c : UInt8} (h : x[j]? = some c) : mixF x up k j = mixB up k j c := by
  unfold mixF mix
  rw [List.getElem?_mapIdx, h]
  rfl
theorem mixF_zero (x : List UInt8) (up : List Bool) : mixF x up 0 = fun j => x[j]?.getD 0 := funext fun j => by
  unfold mixF mix
  rw [List.getElem?_mapIdx]
  cases x[j]? with
  | none => rfl
  | some c => simp [mixB]
theorem mixF_next {x : List UInt8} {up : List Bool} {k : Nat} {c : UInt8} (hx : x[k]? = some c) : mixF x up (k + 1) = fun j => if j = k then mx up k c else mixF x up k j := funext fun j => by
  by_cases e : j = k
  · subst e
    rw [mixF_at hx, if_pos rfl]
    unfold mixB
    rw [if_pos (by omega)]
  · rw [if_neg e]
    cases h : x[j]? with
    | none => simp [mixF, mix, h]
    | some d =>
      rw [mixF_at h, mixF_at h]
      unfold mixB
      by_cases g : j < k
      · simp [g, show j < k + 1 by omega]
      · rw [if_neg (by omega), if_neg (by omega)]
def lowX : List UInt8 := [97, 98, 35, 99, 100, 46, 101, 102, 91, 103, 104, 61, 105, 106, 93, 58, 114, 111, 111, 116]
theorem mx_same (up : List Bool) (j : Nat) {c : UInt8} (h : ¬ (97 ≤ c.toNat ∧ c.toNat ≤ 122)) : mx up j c = c := by
  unfold mx upB
  rw [if_neg h]
  simp
theorem mx_isL (up : List Bool) (j : Nat) {c : UInt8} (h : 97 ≤ c.toNat ∧ c.toNat ≤ 122) : isL (mx up j c) := by
  unfold mx upB isL
  rw [if_pos h]
  split
  · rw [UInt8.toNat_ofNat']; omega
  · omega
theorem mx_low (up : List Bool) (j : Nat) {c : UInt8} (h : 97 ≤ c.toNat ∧ c.toNat ≤ 122) : Lw.lowB (mx up j c) = c := by
  unfold mx upB
  rw [if_pos h]
  split
  · apply UInt8.toNat_inj.1
    rw [Lw.lowB_hit (by rw [UInt8.toNat_ofNat']; omega) (by rw [UInt8.toNat_ofNat']; omega), UInt8.toNat_ofNat']
    omega
  · exact Lw.lowB_miss (by omega)
theorem mix_all (up : List Bool) : mix lowX up 20 = [mx up 0 97, mx up 1 98, 35, mx up 3 99, mx up 4 100, 46, mx up 6 101, mx up 7 102, 91, mx up 9 103, mx up 10 104, 61, mx up 12 105, mx up 13 106, 93, 58, mx up 16 114, mx up 17 111, mx up 18 111, mx up 19 116] := by
  have h35 := mx_same up 2 (c := 35) (by decide)
  have h46 := mx_same up 5 (c := 46) (by decide)
  have h91 := mx_same up 8 (c := 91) (by decide)
  have h61 := mx_same up 11 (c := 61) (by decide)
  have h93 := mx_same up 14 (c := 93) (by decide)
  have h58 := mx_same up 15 (c := 58) (by decide)
  simp [mix, lowX, mixB, h35, h46, h91, h61, h93, h58]
theorem mix_parse (up : List Bool) : ∃ b3 b4 b6 b7 b12 b13 : UInt8, (mix lowX up 20)[3]? = some b3 ∧ (mix lowX up 20)[4]? = some b4 ∧ (mix lowX up 20)[6]? = some b6 ∧ (mix lowX up 20)[7]? = some b7 ∧ (mix lowX up 20)[12]? = some b12 ∧ (mix lowX up 20)[13]? = some b13 ∧
    parseV (tksB (mix lowX up 20)) = some [[(0, .mk ⟨#[97, 98]⟩ [⟨#[b3, b4]⟩] [⟨#[b6, b7]⟩] [⟨⟨#[103, 104]⟩, 1, ⟨#[b12, b13]⟩⟩] [.mk 1 0 0 []])]] := by
  have L := fun (j : Nat) (c : UInt8) (h : 97 ≤ c.toNat ∧ c.toNat ≤ 122) => mx_isL up j h
  have M := fun (j : Nat) (c : UInt8) (h : 97 ≤ c.toNat ∧ c.toNat ≤ 122) => mx_low up j h
  rw [mix_all]
  refine ⟨_, _, _, _, _, _, rfl, rfl, rfl, rfl, rfl, rfl, ?_⟩
  refine low_ofV (L _ _ (by decide)) (L _ _ (by decide)) (L _ _ (by decide)) (L _ _ (by decide)) (L _ _ (by decide)) (L _ _ (by decide)) (L _ _ (by decide)) (L _ _ (by decide)) (L _ _ (by decide)) (L _ _ (by decide)) (L _ _ (by decide)) (L _ _ (by decide)) (L _ _ (by decide)) (L _ _ (by decide)) ?_ ?_ ?_
  · simp only [Lw.low, List.map_cons, List.map_nil, M 0 97 (by decide), M 1 98 (by decide)]
  · simp only [Lw.low, List.map_cons, List.map_nil, M 9 103 (by decide), M 10 104 (by decide)]
  · simp only [Lw.low, List.map_cons, List.map_nil, M 16 114 (by decide), M 17 111 (by decide), M 18 111 (by decide), M 19 116 (by decide)]
    rfl
/-- Two bytes of a row as a text. -/
theorem conv_two (g j cap : Nat) (W : World) (a b : UInt8) (h1 : W.cell? ⟨g, j, none⟩ = some (.int .u8 a.toNat)) (h2 : W.cell? ⟨g, j + 1, none⟩ = some (.int .u8 b.toNat)) :
    (convert 24 9 (.slice (some ⟨g, j, none⟩) 2 cap)).run Tryd.prog W = .ok (.string ⟨#[a, b]⟩) W := by
  refine run_convert_bytes_back W 24 9 5 ⟨g, j, none⟩ cap [a, b] Tryd.underlying24 Tryd.underlying5 Tryd.underlying9 (fun i hi => ?_)
  match i, hi with
  | 0, _ => exact h1
  | 1, _ => exact h2

set_option maxRecDepth 100000 in
set_option maxHeartbeats 60000000 in
theorem selLower_walk (w : World) (hT : OpsAt w.heap.size w) (v : Value) (up : List Bool) (hv : BoolsAt w.heap.size w v up) :
    Calls Tryd.prog 3 #[v] w fun e w' => e = .returned (.bool true) ∧ Below w.heap.size w w' := by
  have h0 := alive_any w hT
  have kc := fun (w : World) (C : Array Value) (n c : Nat) => Lib.run_convert_bytes_const (P := Tryd.prog) w 24 5 C n c Tryd.underlying24 Tryd.underlying5
  obtain ⟨q, cap, rfl⟩ := hv.len
  go_enter Tryd.func3, Tryd.ntmps3
  go_wp2_with fail
  refine h0.mono ?_
  clear h0
  rintro e w1 ⟨rfl, b1⟩
  have bL : Below w1.heap.size w1 (w1.alloc (.cells #[.int .u8 97, .int .u8 98, .int .u8 35, .int .u8 99, .int .u8 100, .int .u8 46, .int .u8 101, .int .u8 102, .int .u8 91, .int .u8 103, .int .u8 104, .int .u8 61, .int .u8 105, .int .u8 106, .int .u8 93, .int .u8 58, .int .u8 114, .int .u8 111, .int .u8 111, .int .u8 116] 5 (20, 21))) := (Below.refl _ _).alloc (Nat.le_refl _) _
  have rL : Lw.Row (w1.alloc (.cells #[.int .u8 97, .int .u8 98, .int .u8 35, .int .u8 99, .int .u8 100, .int .u8 46, .int .u8 101, .int .u8 102, .int .u8 91, .int .u8 103, .int .u8 104, .int .u8 61, .int .u8 105, .int .u8 106, .int .u8 93, .int .u8 58, .int .u8 114, .int .u8 111, .int .u8 111, .int .u8 116] 5 (20, 21))) w1.heap.size 20 (mixF lowX up 0) := fun j hj => by
    rw [mixF_zero]
    refine ⟨?_, ?_⟩
    · rw [cell_of_block (heap_alloc_new w1 _)]
      match j, hj with
      | 0, _ | 1, _ | 2, _ | 3, _ | 4, _ | 5, _ | 6, _ | 7, _ | 8, _ | 9, _ | 10, _ | 11, _ | 12, _ | 13, _ | 14, _ | 15, _ | 16, _ | 17, _ | 18, _ | 19, _ => rfl
      | j + 20, h => exact absurd h (by omega)
    · unfold World.frozen?
      rw [heap_alloc_new w1 _]
      show (decide (20 ≤ j) && decide (j < 21)) = false
      simp
      omega
  have sL : (w1.alloc (.cells #[.int .u8 97, .int .u8 98, .int .u8 35, .int .u8 99, .int .u8 100, .int .u8 46, .int .u8 101, .int .u8 102, .int .u8 91, .int .u8 103, .int .u8 104, .int .u8 61, .int .u8 105, .int .u8 106, .int .u8 93, .int .u8 58, .int .u8 114, .int .u8 111, .int .u8 111, .int .u8 116] 5 (20, 21))).heap.size = w1.heap.size + 1 := World.size_alloc _ _
  have b2 := below_next b1 bL
  have hO2 := (hT.next b1).below bL
  clear hT
  replace hv : BoolsAt w.heap.size _ (.slice q up.length cap) up := hv.below b2
  go_upto_region 3 with fail
  clear kc
  generalize w1.alloc (.cells #[.int .u8 97, .int .u8 98, .int .u8 35, .int .u8 99, .int .u8 100, .int .u8 46, .int .u8 101, .int .u8 102, .int .u8 91, .int .u8 103, .int .u8 104, .int .u8 61, .int .u8 105, .int .u8 106, .int .u8 93, .int .u8 58, .int .u8 114, .int .u8 111, .int .u8 111, .int .u8 116] 5 (20, 21)) = w2 at *
  by_cases hup : up.length < 20
  · have hupi : (up.length : Int) < 20 := by omega
    clear hv hO2 rL
    go_wp2
    go_ret
    exact ⟨rfl, b2⟩
  have hupi : ¬ (up.length : Int) < 20 := by omega
  obtain ⟨g, hg⟩ : ∃ g, w1.heap.size = g := ⟨_, rfl⟩
  have hgw : w.heap.size ≤ g := by rw [← hg]; exact b1.size
  rw [hg] at bL rL sL hO2
  have e1 : Hid (w1.heap.size = g) := hg
  have b12 := below_next b1 (show Below w1.heap.size w1 w2 by rw [hg]; exact bL)
  go_wp2
  go_loopw [5] (fun i wr => ∃ k : Nat, i = .int .i64 k ∧ k ≤ 20 ∧ Lw.Row wr g 20 (mixF lowX up k) ∧ Below g w2 wr ∧ g < wr.heap.size) (fun i _ => 20 - (intOf i).toNat)
  case atStart => exact ⟨0, rfl, Nat.zero_le _, rL, Below.refl _ _, by omega⟩
  case round =>
    obtain ⟨k, rfl, hk, hr, hbr, hltr⟩ := hrel
    clear rL
    by_cases hlt : k < 20
    · have hk1 : (k : Int) < 20 := by omega
      obtain ⟨c, hxk⟩ : ∃ c, lowX[k]? = some c := ⟨_, List.getElem?_eq_getElem (show k < lowX.length from hlt)⟩
      have hrk := hr k hlt
      rw [mixF_at hxk, show mixB up k k c = c from if_neg (by omega)] at hrk
      have hnx := mixF_next (up := up) hxk
      have hku : k < up.length := by omega
      have hku2 : (k : Int) < (up.length : Int) := by omega
      obtain ⟨bk, off, u, rfl, hu, hcu, hbk⟩ := (hv.below (hbr.mono hgw)).get hku
      rw [show mx up k c = if u = true then upB c else c by unfold mx; rw [hu]; rfl] at hnx
      obtain ⟨hc1, hc2⟩ := hrk
      have hcl := c.toNat_lt
      have stay : (if u = true then upB c else c) = c → Lw.Row wr g 20 (mixF lowX up (k + 1)) := fun h => by
        rw [hnx, h]
        intro j hj
        have := hr j hj
        by_cases e : j = k
        · subst e
          exact ⟨by simpa using hc1, hc2⟩
        · simpa [e] using this
      cases u with
      | true =>
        by_cases hl1 : 97 ≤ c.toNat
        · have hl1i : (97 : Int) ≤ (c.toNat : Int) := by omega
          by_cases hl2 : c.toNat ≤ 122
          · have hl2i : (c.toNat : Int) ≤ 122 := by omega
            have hw32 : IntKind.u8.wrap ((c.toNat : Int) - 32) = ((UInt8.ofNat (c.toNat - 32)).toNat : Int) := by
              rw [IntKind.wrap_u8, UInt8.toNat_ofNat']
              omega
            have hrn := hr.set hlt (UInt8.ofNat (c.toNat - 32))
            rw [if_pos rfl, show upB c = UInt8.ofNat (c.toNat - 32) from if_pos ⟨hl1, hl2⟩] at hnx
            rw [← hnx] at hrn
            have hbn : Below g w2 (wr.setCell ⟨g, k, none⟩ (.int .u8 ((UInt8.ofNat (c.toNat - 32)).toNat : Nat))) := hbr.setCell (p := ⟨g, k, none⟩) (Nat.le_refl _) _
            generalize (UInt8.ofNat (c.toNat - 32)).toNat = z at *
            clear hr hnx hv hxk stay
            go_wp2
            exact ⟨⟨k + 1, by go_num, by omega, hrn, hbn, by simpa [World.setCell] using hltr⟩, by simp [intOf]; omega⟩
          · have hl2i : ¬ (c.toNat : Int) ≤ 122 := by omega
            have hrn := stay (by rw [if_pos rfl]; exact if_neg (by omega))
            clear hr hnx hv hxk stay
            go_wp2
            exact ⟨⟨k + 1, by go_num, by omega, hrn, hbr, hltr⟩, by simp [intOf]; omega⟩
        · have hl1i : ¬ (97 : Int) ≤ (c.toNat : Int) := by omega
          have hrn := stay (by rw [if_pos rfl]; exact if_neg (by omega))
          clear hr hnx hv hxk stay
          go_wp2
          exact ⟨⟨k + 1, by go_num, by omega, hrn, hbr, hltr⟩, by simp [intOf]; omega⟩
      | false =>
        have hrn := stay (by simp)
        clear hr hnx hv hxk stay
        go_wp2
        exact ⟨⟨k + 1, by go_num, by omega, hrn, hbr, hltr⟩, by simp [intOf]; omega⟩
    · obtain rfl : k = 20 := by omega
      have hlen : (mix lowX up 20).length = 20 := mix_len lowX up 20
      have hc0 := Lw.conv_out (mix lowX up 20) g 20 wr (mixF lowX up 20) (by rw [hlen]; exact hr) (fun j u hj => by unfold mixF; rw [hj]; rfl)
      rw [hlen] at hc0
      obtain ⟨x3, x4, x6, x7, x12, x13, y3, y4, y6, y7, y12, y13, hP⟩ := mix_parse up
      have cl := fun (j : Nat) (u : UInt8) (hj : j < 20) (hy : (mix lowX up 20)[j]? = some u) => show wr.cell? ⟨g, j, none⟩ = some (.int .u8 u.toNat) by
        have := (hr j hj).1
        unfold mixF at this
        rw [hy] at this
        exact this
      have z3 := cl 3 _ (by omega) y3
      have z4 := cl 4 _ (by omega) y4
      have z6 := cl 6 _ (by omega) y6
      have z7 := cl 7 _ (by omega) y7
      have z12 := cl 12 _ (by omega) y12
      have z13 := cl 13 _ (by omega) y13
      have hbwr : Below w.heap.size w wr := b2.trans (hbr.mono hgw)
      have hOr : OpsAt wr.heap.size wr := (hO2.below hbr).mono (by omega)
      clear hr hv cl y3 y4 y6 y7 y12 y13
      generalize mix lowX up 20 = l at *
      have h1 := of_any ⟨l.toArray⟩ wr (by rw [show (⟨l.toArray⟩ : ByteArray).size = l.length by simp [ByteArray.size]]; omega)
      rw [show (⟨l.toArray⟩ : ByteArray).data.toList = l from rfl] at h1
      have hG := tksB_good l (by omega)
      generalize tksB l = ts at *
      generalize (⟨l.toArray⟩ : ByteArray) = z at *
      clear hlen
      go_wp2_with fail
      refine h1.mono ?_
      clear h1 hc0
      rintro e w4 ⟨v4, rfl, hr4, b4⟩
      have h2 := parse_any v4 ts w4 (BtsAt.own hr4) (hOr.next b4) hG
      rw [hP] at h2
      clear hP hr4 hG
      go_wp2_with fail
      refine h2.mono ?_
      clear h2
      rintro e w5 ⟨hcs, b5⟩
      have b45 := below_next b4 b5
      replace z3 := (b45.cell (p := ⟨g, 3, none⟩) hltr).trans z3
      replace z4 := (b45.cell (p := ⟨g, 4, none⟩) hltr).trans z4
      replace z6 := (b45.cell (p := ⟨g, 6, none⟩) hltr).trans z6
      replace z7 := (b45.cell (p := ⟨g, 7, none⟩) hltr).trans z7
      replace z12 := (b45.cell (p := ⟨g, 12, none⟩) hltr).trans z12
      replace z13 := (b45.cell (p := ⟨g, 13, none⟩) hltr).trans z13
      have hlt5 : g < w5.heap.size := Nat.lt_of_lt_of_le hltr b45.size
      have bb5 := below_next hbwr b45
      rcases hcs with ⟨l, x, hl, rfl, hx⟩ | ⟨hl, _⟩
      · cases hl
        obtain ⟨px, cx, rfl⟩ := hx.form
        obtain ⟨g1, q1, cc, rfl, _, _, d0, hp⟩ := SelsAt.sel hx (j := 0) rfl
        obtain ⟨g2, i1, k1, a1, e1', rfl, _, _, ⟨p0, p1, p2, p3, p4, p5⟩, hi, hk1, ha, he⟩ := PtsF.part hp (j := 0) rfl
        obtain ⟨pi, ci, rfl, _⟩ := FinRow.form hi
        obtain ⟨gi, ri, rfl, _, _, ui, mi, _, rfl, hci⟩ := FinRow.get hi (j := 0) rfl
        obtain ⟨pk, ck, rfl, _⟩ := FinRow.form hk1
        obtain ⟨gk, rk, rfl, _, _, uk, mk, _, rfl, hck⟩ := FinRow.get hk1 (j := 0) rfl
        obtain ⟨pa, ca, rfl, _⟩ := FinRow.form ha
        obtain ⟨ga, ra, rfl, _, _, ua, ma, _, rfl, hca⟩ := FinRow.get ha (j := 0) rfl
        obtain ⟨pp, cp, rfl, _⟩ := FinRow.form he
        obtain ⟨gp, rp, rfl, _, _, ups, mp, _, ⟨xp, rfl, _⟩, hcp⟩ := FinRow.get he (j := 0) rfl
        have s0 := hci 0 _ rfl
        have s1 := hck 0 _ rfl
        have s2 := hca 0 _ rfl
        have s3 := hca 1 _ rfl
        have s4 := hca 2 _ rfl
        have s5 := hcp 0 _ rfl
        clear hx hp hi hk1 ha he hci hck hca hcp
        simp only [Nat.zero_mul, Nat.zero_add, List.length_cons, List.length_nil, Cp.tag, Cp.ids, Cp.classes, Cp.attrs, Cp.pss, Ps.kind] at *
        have bA : Below w5.heap.size w5 (w5.alloc (.cells #[.string ⟨#[97, 98]⟩, .slice (some ⟨gi, 0, none⟩) 1 ci, .slice (some ⟨gk, 0, none⟩) 1 ck, .slice (some ⟨ga, 0, none⟩) 1 ca, .slice (some ⟨gp, 0, none⟩) 1 cp] 37)) := (Below.refl _ _).alloc (Nat.le_refl _) _
        have cA : ∀ j, (w5.alloc (.cells #[.string ⟨#[97, 98]⟩, .slice (some ⟨gi, 0, none⟩) 1 ci, .slice (some ⟨gk, 0, none⟩) 1 ck, .slice (some ⟨ga, 0, none⟩) 1 ca, .slice (some ⟨gp, 0, none⟩) 1 cp] 37)).cell? ⟨w5.heap.size, j, none⟩ = (#[.string ⟨#[97, 98]⟩, .slice (some ⟨gi, 0, none⟩) 1 ci, .slice (some ⟨gk, 0, none⟩) 1 ck, .slice (some ⟨ga, 0, none⟩) 1 ca, .slice (some ⟨gp, 0, none⟩) 1 cp] : Array Value)[j]? := cell_of_block (heap_alloc_new w5 _)
        have t0 := cA 0
        have t1 := cA 1
        have t2 := cA 2
        have t3 := cA 3
        have t4 := cA 4
        simp only [List.getElem?_toArray, List.getElem?_cons_zero, List.getElem?_cons_succ] at t0 t1 t2 t3 t4
        have bb6 := below_next bb5 bA
        replace s0 := (bA.cell (p := ⟨gi, 0, none⟩) (World.block_lt_of_cell? w5 ⟨gi, 0, none⟩ s0)).trans s0
        replace s1 := (bA.cell (p := ⟨gk, 0, none⟩) (World.block_lt_of_cell? w5 ⟨gk, 0, none⟩ s1)).trans s1
        replace s2 := (bA.cell (p := ⟨ga, 0, none⟩) (World.block_lt_of_cell? w5 ⟨ga, 0, none⟩ s2)).trans s2
        replace s3 := (bA.cell (p := ⟨ga, 1, none⟩) (World.block_lt_of_cell? w5 ⟨ga, 1, none⟩ s3)).trans s3
        replace s4 := (bA.cell (p := ⟨ga, 2, none⟩) (World.block_lt_of_cell? w5 ⟨ga, 2, none⟩ s4)).trans s4
        replace s5 := (bA.cell (p := ⟨gp, 0, none⟩) (World.block_lt_of_cell? w5 ⟨gp, 0, none⟩ s5)).trans s5
        replace z3 := (bA.cell (p := ⟨g, 3, none⟩) hlt5).trans z3
        replace z4 := (bA.cell (p := ⟨g, 4, none⟩) hlt5).trans z4
        replace z6 := (bA.cell (p := ⟨g, 6, none⟩) hlt5).trans z6
        replace z7 := (bA.cell (p := ⟨g, 7, none⟩) hlt5).trans z7
        replace z12 := (bA.cell (p := ⟨g, 12, none⟩) hlt5).trans z12
        replace z13 := (bA.cell (p := ⟨g, 13, none⟩) hlt5).trans z13
        clear cA
        go_upto_region 14 with fail
        generalize w5.alloc (.cells #[.string ⟨#[97, 98]⟩, .slice (some ⟨gi, 0, none⟩) 1 ci, .slice (some ⟨gk, 0, none⟩) 1 ck, .slice (some ⟨ga, 0, none⟩) 1 ca, .slice (some ⟨gp, 0, none⟩) 1 cp] 37) = w6 at *
        have v3 := fun n => conv_two g 3 17 (w6.drewN n) x3 x4 z3 z4
        have v6 := fun n => conv_two g 6 14 (w6.drewN n) x6 x7 z6 z7
        have v12 := fun n => conv_two g 12 8 (w6.drewN n) x12 x13 z12 z13
        generalize w5.heap.size = n5 at *
        clear d0 p0 p1 p2 p3 p4 p5 bA b5 b45 b4 hOr hbr hO2 hup hltr hlt5 bb5 hbwr hgw sL bL hg e1 b12 b1 b2
        go_quiet (fail)
        go_wp2
        go_ret
        exact ⟨rfl, bb6.os, bb6.tape, bb6.output, bb6.size, bb6.block⟩
      · cases hl

theorem selLower_met (os : Os) : laidMet Tryd.prog Rows.selLowerRow.laid ((laidIn (World.holding Tryd.prog os ⟨#[], #[], []⟩)).forCall (fun _ _ => 0) ⟨#[], #[.slice none 0 0], []⟩).memory :=
  laidMet_of_run' 8 (by kernel_rfl) (by kernel_rfl)
theorem selLower_reads (os : Os) {H : Type} (enc : TypeId × Value → H) : ∃ places, DataW.whole enc Tryd.prog ((laidIn (World.holding Tryd.prog os ⟨#[], #[], []⟩)).forCall (fun _ _ => 0) ⟨#[], #[.slice none 0 0], []⟩).memory Tryd.f3.params.toList Rows.selLowerSpec.vars false (#[.slice none 0 0] : Array Value).toList 8 = some ([.nil], [], places) :=
  ⟨[], by kernel_rfl⟩

set_option maxRecDepth 100000 in
theorem selLower_lifted (os : Os) (started : os.Started) (H : Type) (enc : TypeId × Value → H) (F : Stop.Interp) :
    ReturnsInHanded {} Tryd.checked os 3 .any ((OpenSpec.ofChange Rows.selLowerSpec).preRow enc Tryd.prog Tryd.f3 Rows.selLowerRow.domain false Rows.selLowerRow.laid) (((OpenSpec.ofChange Rows.selLowerSpec).at F).post enc Tryd.prog Tryd.f3 false true false false) := by
  obtain ⟨places, hx⟩ := selLower_reads os enc
  refine returnsInHanded_of_row (C := Tryd.checked) (s := OpenSpec.ofChange Rows.selLowerSpec) ownNone started (by kernel_rfl) Tryd.func3
    (witness_row_at (enc := enc) (C := Tryd.checked) false (laidIn (World.holding Tryd.prog os ⟨#[], #[], []⟩)) #[.slice none 0 0] rfl (by kernel_rfl) (by kernel_rfl) (by kernel_rfl)
      (OpenSpec.preRow_of_cond 8 hx (by kernel_rfl) (fun k hk => by cases hk) (by kernel_rfl) (selLower_met os))) ?_
  intro W base args ds gs before hval hW _ _ _ hL hS _
  have hW' := hW
  obtain ⟨p, q, hA0, hV, rfl, hfz, hnd⟩ := hW
  have hA : DataW.TrodAll enc Tryd.prog W 0 (fun _ => true) true Tryd.f3.params.toList args.toList ds p := hA0
  rw [Tryd.params3] at hA hval
  obtain ⟨v0, vs0, d0, ds0, p0, q0, hargs, rfl, rfl, h0, r0⟩ := trodAll_cons hA
  obtain ⟨rfl, rfl, rfl⟩ := trodAll_nil r0
  obtain rfl : args = #[v0] := by cases args; simp_all
  obtain ⟨rfl, rfl⟩ := trodVars_none hV
  obtain ⟨a0, len0, cap0, rfl⟩ := okWide_slice Tryd.underlying22 (hval 0 22 v0 rfl rfl)
  have k0 := h0
  have lt0 : ∀ x ∈ p0, x.block < W.heap.size := by obtain ⟨m, hm⟩ := k0; exact DataW.trod_lt m _ _ _ hm
  obtain ⟨z0, w0⟩ := boolsAt_of_reads k0
  clear hA0
  refine (selLower_walk W (tabs_of_laid hL hS) _ z0 w0).mono fun e W' ⟨he, bel⟩ => ?_
  subst he
  exact ⟨_, rfl, _, _, _, [], _, [], hW', trodAll_mk1 (shut_bool Tryd.underlying4 _), (trodAll_cons_mk (Below.trod laidOut (by kernel_rfl) (of_decide_eq_true (by kernel_rfl)) k0 bel lt0) trodAll_mk0), rfl, bel.frame _, fun h => by cases h⟩

theorem selLower_said : Rows.SelLowerSaid :=
  OpenClaim.holds_of_cond 3 Tryd.f3 rfl rfl rfl rfl rfl rfl rfl ⟨rfl, rfl, rfl, rfl, rfl⟩ rfl rfl rfl rfl rfl (by kernel_rfl) Tryd.func3 (by kernel_rfl)
    (of_decide_eq_true (by kernel_rfl)) (by unfold Func.isWrapper; first | (rw [if_pos (by decide +kernel)]; kernel_rfl) | (rw [if_neg (by decide +kernel)]; exact ⟨rfl, rfl⟩))
    (fun os started H enc _ F => by rw [OpenClaim.pre_eq_preRow]; exact selLower_lifted os started H enc F)

theorem selLower_plain (f : FuncId) (fn : Func) (hf : Tryd.pinned.checked.prog.funcNamed "tapestrier/tapestrierlaw8.SelLower" = some f) (hfn : Tryd.pinned.checked.prog.funcs[f]? = some fn) :
    false = Tryd.pinned.checked.prog.looks [] ∧ ∀ (j : Nat) t, fn.params[j]? = some t → Tryd.pinned.checked.prog.wantsStandIn t = false := by
  obtain rfl : f = 3 := Option.some.inj ((show Tryd.prog.funcNamed "tapestrier/tapestrierlaw8.SelLower" = some 3 by kernel_rfl).symm.trans hf) |>.symm
  obtain rfl : fn = Tryd.f3 := (Option.some.inj (Tryd.func3.symm.trans hfn)).symm
  refine ⟨by kernel_rfl, fun j t ht => ?_⟩
  rw [Tryd.params3] at ht
  have hm : t ∈ [22] := by simpa using Array.mem_of_getElem? ht
  have hall : ([22].all fun u => !Tryd.prog.wantsStandIn u) = true := by kernel_rfl
  exact (show Tryd.prog.wantsStandIn t = false by simpa using List.all_eq_true.1 hall t hm)

theorem selLower_card : Rows.SelLowerCardSaid :=
  Claim7.holds_tied_plain_at .later [] _ _ _ _ selLower_said (fun _ h => by cases h) (by kernel_rfl) (fun _ h => by cases h) selLower_row_tie rfl ⟨rfl, rfl⟩ (by kernel_rfl) rfl selLower_plain (by kernel_rfl)
#print axioms selLower_card


end Go.Proofs.YteihbpmmjlkkgaaDoor
