/- The laws' own Dear of selectors (tapestrierlaw10): whatever it tells, it comes back. -/
import Derived.Test.YtcblojngdjofjaaWgMem
namespace Go.Proofs.Ytcblojngdjofjaa.Wg
open Go.Proofs.Ytcblojngdjofjaa.Tre
open Go Go.RowKit Sl

def DearOK (d : Nat) : Prop := ∀ (v : Value) (l : List Sel) (w : World), SelsR d w.heap.size w v l → Calls Try.prog 9 #[v, .int .i64 (11 - (d : Int))] w fun e w' => ∃ z : Int, e = .returned (.int .i64 z) ∧ Below w.heap.size w w'
set_option maxRecDepth 100000 in
theorem dear_zero : DearOK 0 := by
  intro v l w hv
  obtain ⟨q, m, cap, rfl⟩ := hv.form
  clear hv
  show Calls Try.prog 9 #[_, .int .i64 11] w _
  go_enter Try.func9, Try.ntmps9
  go_wp2
  go_ret
  exact ⟨100, rfl, Below.refl _ _⟩

set_option maxRecDepth 100000 in
set_option maxHeartbeats 2000000 in
theorem dear_succ (d : Nat) (hd : d ≤ 10) (H : DearOK d) : DearOK (d + 1) := by
  intro v l w hv
  obtain ⟨q, cap, rfl⟩ := RowT.len hv
  obtain ⟨D, hD⟩ : ∃ D : Int, 11 - ((d + 1 : Nat) : Int) = D := ⟨_, rfl⟩
  rw [hD]
  have hD0 : ¬ (10 < D) := by omega
  have hD1 : IntKind.i64.wrap (D + 1) = 11 - (d : Int) := by rw [IntKind.wrap_i64]; omega
  have HD : Hid (DearOK d) := H
  have HV : Hid (SelsR (d + 1) w.heap.size w (.slice q l.length cap) l) := hv
  clear H hv hD
  go_enter Try.func9, Try.ntmps9
  go_wp2
  go_loopw [5, 6] (fun x5 x6 wr => ∃ (z : Int) (k : Nat), x5 = .int .i64 z ∧ x6 = .int .i64 k ∧ k ≤ l.length ∧ Below w.heap.size w wr) (fun _ x6 _ => l.length - (intOf x6).toNat)
  case atStart => exact ⟨0, 0, rfl, rfl, Nat.zero_le _, Below.refl _ _⟩
  case round =>
    obtain ⟨z, k, rfl, rfl, hk, hb⟩ := hrel
    by_cases hlt : k < l.length
    · have hki : (k : Int) < (l.length : Int) := by omega
      by_cases hz : z < 100
      · obtain ⟨s, hs⟩ : ∃ s, l[k]? = some s := ⟨_, List.getElem?_eq_getElem hlt⟩
        obtain ⟨b, off, x, hq, hbn, hc1, hc2, hx, y0⟩ := SelsR.get (HV.out.below (d + 1) hb) hs
        subst hq
        unfold maxLen at hc2
        obtain ⟨qp, cp, rfl⟩ := RowT.len hx
        have hsh := hx.short
        unfold maxLen at hsh
        have HX : Hid (∀ X, Below w.heap.size w X → PartsR d w.heap.size X (.slice qp s.length cp) s) := fun X hX => by
          obtain ⟨b', off', x', hq', _, _, _, hx', y'⟩ := SelsR.get (HV.out.below (d + 1) hX) hs
          cases hq'
          have e := (hX.cell (p := ⟨b, off + k, none⟩) hbn).trans (hb.cell (p := ⟨b, off + k, none⟩) hbn).symm
          rw [y', y0] at e
          cases e
          exact hx'
        have hk1 : (k : Int) + 1 ≤ 9223372036854775807 := by omega
        clear hx hs
        go_upto_region 8 with fail
        clear y0
        obtain ⟨N, hN⟩ : ∃ N, s.length = N := ⟨_, rfl⟩
        rw [hN] at HX hsh ⊢
        go_cut [40] (fun x wx => ∃ t : Bool, x = .bool t ∧ wx = wr)
        case first =>
          clear HX
          by_cases h1 : (12 : Int) < (N : Int)
          · by_cases h2 : (N : Int) < 50
            · go_wp2
              go_meet
              exact ⟨_, rfl, rfl⟩
            · by_cases h3 : (60 : Int) < (N : Int)
              · go_wp2
                go_meet
                exact ⟨_, rfl, rfl⟩
              · go_wp2
                go_meet
                exact ⟨_, rfl, rfl⟩
          · have h3 : ¬ ((60 : Int) < (N : Int)) := by omega
            go_wp2
            go_meet
            exact ⟨_, rfl, rfl⟩
        case rest =>
        obtain ⟨t, rfl, rfl⟩ := hcut
        obtain ⟨wo, hwo⟩ : ∃ wo, wo = wc := ⟨_, rfl⟩
        subst hwo
        cases t with
        | true =>
          go_wp2
          go_ret
          first | exact ⟨⟨100, rfl⟩, hb⟩ | exact ⟨100, rfl, hb⟩
        | false =>
          have HBO : Hid (Below w.heap.size w wo) := hb
          have HS : Hid (s.length = N) := hN
          clear hN hb
          go_wp2
          go_loopw [5, 8] (fun x5 x8 wr => ∃ (z : Int) (j : Nat), x5 = .int .i64 z ∧ x8 = .int .i64 j ∧ j ≤ N ∧ Below w.heap.size w wr) (fun _ x8 _ => N - (intOf x8).toNat)
          case atStart => exact ⟨z, 0, rfl, rfl, Nat.zero_le _, HBO.out⟩
          case round =>
            obtain ⟨z2, j, rfl, rfl, hj, hb⟩ := hrel
            by_cases hjl : j < N
            · have hji : (j : Int) < (N : Int) := by omega
              by_cases hz2 : z2 < 100
              · obtain ⟨p, hp⟩ : ∃ p, s[j]? = some p := ⟨_, List.getElem?_eq_getElem (by rw [HS.out]; exact hjl)⟩
                have hxx := HX.out wr hb
                obtain ⟨b2, off2, vi, vk, va, vp, hq, hbn2, hd1, hd2, ⟨x0, x1, x2, x3, x4, x5⟩, r1, r2, r3, r4⟩ := PartsR.get hxx hp
                subst hq
                unfold maxLen at hd2
                rw [HS.out] at hd1
                obtain ⟨q1, cp1, rfl⟩ := r1.len
                obtain ⟨q2, cp2, rfl⟩ := r2.len
                obtain ⟨q3, cp3, rfl⟩ := r3.len
                obtain ⟨q4, cp4, rfl⟩ := r4.len
                have h4s := r4.short
                unfold maxLen at h4s
                obtain ⟨w3, hw3⟩ : ∃ w3, wr.alloc (.cells #[.string p.2.tag, .slice q1 p.2.ids.length cp1, .slice q2 p.2.classes.length cp2, .slice q3 p.2.attrs.length cp3, .slice q4 p.2.pss.length cp4] 36) = w3 := ⟨_, rfl⟩
                have b3 : Below wr.heap.size wr w3 := by rw [← hw3]; exact (Below.refl _ _).alloc (Nat.le_refl _) _
                have k3 : Blk w3 wr.heap.size 36 [.string p.2.tag, .slice q1 p.2.ids.length cp1, .slice q2 p.2.classes.length cp2, .slice q3 p.2.attrs.length cp3, .slice q4 p.2.pss.length cp4] := by rw [← hw3]; exact Blk.new wr 36 _
                have r4' := r4.below (hb := b3.mono (hb.size)) (T' := PsC (SelsR d w.heap.size w3)) (fun _ _ ⟨x, e, hx⟩ => ⟨x, e, hx.below d (b3.mono hb.size)⟩)
                have B3 := below_next hb b3
                have HR4 : Hid (RowT 4 (PsC (SelsR d w.heap.size w3)) w.heap.size w3 (.slice q4 p.2.pss.length cp4) p.2.pss) := r4'
                have HK3 : Hid (Blk w3 wr.heap.size 36 [.string p.2.tag, .slice q1 p.2.ids.length cp1, .slice q2 p.2.classes.length cp2, .slice q3 p.2.attrs.length cp3, .slice q4 p.2.pss.length cp4]) := k3
                obtain ⟨⟨c0, c1, c2, c3, c4⟩, _⟩ := blk5 k3
                have hj1 : (j : Int) + 1 ≤ 9223372036854775807 := by omega
                have hws := hb.size
                clear hxx r1 r2 r3 r4 r4' k3 hp hb
                obtain ⟨n1, hn1⟩ : ∃ n, p.2.ids.length = n := ⟨_, rfl⟩
                obtain ⟨n2, hn2⟩ : ∃ n, p.2.classes.length = n := ⟨_, rfl⟩
                obtain ⟨n3, hn3⟩ : ∃ n, p.2.attrs.length = n := ⟨_, rfl⟩
                obtain ⟨n4, hn4⟩ : ∃ n, p.2.pss.length = n := ⟨_, rfl⟩
                rw [hn1] at hw3 HK3 c1 x2
                rw [hn2] at hw3 HK3 c2 x3
                rw [hn3] at hw3 HK3 c3 x4
                rw [hn4] at hw3 HK3 c4 HR4 x5 h4s
                clear hn1 hn2 hn3
                have HN4 : Hid (p.2.pss.length = n4) := hn4
                clear hn4
                go_upto_region 15 with fail
                first | rw [hw3] | skip
                clear hw3 x0 x1 x2 x3 x4 x5 b3
                go_cut [81] (fun x wx => ∃ t : Bool, x = .bool t ∧ wx = w3)
                case first =>
                  clear HX HR4 HK3
                  by_cases h1 : (5 : Int) < (n1 : Int)
                  · go_wp2
                    go_meet
                    exact ⟨_, rfl, rfl⟩
                  · by_cases h2 : (5 : Int) < (n2 : Int)
                    · go_wp2
                      go_meet
                      exact ⟨_, rfl, rfl⟩
                    · by_cases h3 : (5 : Int) < (n3 : Int)
                      · go_wp2
                        go_meet
                        exact ⟨_, rfl, rfl⟩
                      · by_cases h4 : (5 : Int) < (n4 : Int)
                        · go_wp2
                          go_meet
                          exact ⟨_, rfl, rfl⟩
                        · go_wp2
                          go_meet
                          exact ⟨_, rfl, rfl⟩
                case rest =>
                obtain ⟨t, rfl, rfl⟩ := hcut
                clear c0 c1 c2 c3 c4
                cases t with
                | true =>
                  go_wp2
                  go_ret
                  first | exact ⟨⟨100, rfl⟩, B3⟩ | exact ⟨100, rfl, B3⟩
                | false =>
                  obtain ⟨wi, hwi⟩ : ∃ wi, wi = wr := ⟨_, rfl⟩
                  subst hwi
                  go_wp2
                  go_loopw [5, 10] (fun x5 x10 wr => ∃ (z : Int) (m : Nat), x5 = .int .i64 z ∧ x10 = .int .i64 m ∧ m ≤ n4 ∧ Below wc.heap.size wc wr) (fun _ x10 _ => n4 - (intOf x10).toNat)
                  case atStart => exact ⟨_, 0, rfl, rfl, Nat.zero_le _, Below.refl _ _⟩
                  case round =>
                    obtain ⟨z4, m, rfl, rfl, hm, hb4⟩ := hrel
                    obtain ⟨⟨c0, c1, c2, c3, c4⟩, _⟩ := blk5 (HK3.out.below hb4 HK3.out.lt)
                    by_cases hml : m < n4
                    · have hmi : (m : Int) < (n4 : Int) := by omega
                      by_cases hz4 : z4 < 100
                      · obtain ⟨u, hu⟩ : ∃ u, p.2.pss[m]? = some u := ⟨_, List.getElem?_eq_getElem (by rw [HN4.out]; exact hml)⟩
                        obtain ⟨b5, off5, y, hq5, hbn5, he1, he2, hQ, ⟨u0, u1, u2, u3⟩⟩ := pss_get HR4.out hu
                        subst hq5
                        unfold maxLen at he2
                        rw [HN4.out] at he1
                        have hwc := B3.size
                        have v3 := (hb4.cell (p := ⟨b5, off5 + m * 4 + 3, none⟩) (by show b5 < _; omega)).trans u3
                        obtain ⟨qy, my, cy, rfl⟩ := hQ.form
                        have hcall := HD.out (.slice qy my cy) u.list wr ((hQ.mono d hwc).next hb4)
                        have hm1 : (m : Int) + 1 ≤ 9223372036854775807 := by omega
                        clear hQ u0 u1 u2 u3 hu
                        go_wp2_with fail
                        refine hcall.mono ?_
                        clear hcall
                        rintro e w5 ⟨zr, rfl, b5'⟩
                        have hB5 := below_next hb4 b5'
                        clear c0 c1 c2 c3 c4 v3 hb4 b5'
                        go_wp2
                        go_roundw
                        case rel => exact ⟨_, m + 1, rfl, by go_num, by omega, hB5⟩
                        case measure => simp [intOf]; omega
                      · have hB5 := below_next B3 hb4
                        go_wp2
                        go_roundw
                        case rel => exact ⟨z4, j + 1, rfl, by go_num, by omega, hB5⟩
                        case measure => simp [intOf]; omega
                    · have hmi : ¬ (m : Int) < (n4 : Int) := by omega
                      have hB5 := below_next B3 hb4
                      go_wp2
                      go_roundw
                      case rel => exact ⟨z4, j + 1, rfl, by go_num, by omega, hB5⟩
                      case measure => simp [intOf]; omega
              · go_wp2
                go_roundw
                case rel => exact ⟨z2, k + 1, rfl, by go_num, by omega, hb⟩
                case measure => simp [intOf]; omega
            · have hji : ¬ (j : Int) < (N : Int) := by omega
              go_wp2
              go_roundw
              case rel => exact ⟨z2, k + 1, rfl, by go_num, by omega, hb⟩
              case measure => simp [intOf]; omega
      · go_wp2
        go_ret
        first | exact ⟨⟨z, rfl⟩, hb⟩ | exact ⟨z, rfl, hb⟩
    · have hki : ¬ (k : Int) < (l.length : Int) := by omega
      go_wp2
      go_ret
      first | exact ⟨⟨z, rfl⟩, hb⟩ | exact ⟨z, rfl, hb⟩

theorem dear_all : ∀ d, d ≤ 11 → DearOK d
  | 0, _ => dear_zero
  | d + 1, h => dear_succ d (by omega) (dear_all d (by omega))
set_option maxRecDepth 100000 in
theorem Dear_any (v : Value) (l : List Sel) (w : World) (hv : SelsR 11 w.heap.size w v l) :
    Calls Try.prog 5 #[v] w fun e w' => ∃ t : Bool, e = .returned (.bool t) ∧ Below w.heap.size w w' := by
  have h := dear_all 11 (Nat.le_refl _) v l w hv
  rw [show (11 : Int) - ((11 : Nat) : Int) = 0 from rfl] at h
  clear hv
  go_enter Try.func5, Try.ntmps5
  go_wp2_with fail
  refine h.mono ?_
  clear h
  rintro e w1 ⟨z, rfl, b1⟩
  go_wp2
  go_ret
  first | exact ⟨⟨_, rfl⟩, b1⟩ | exact ⟨_, rfl, b1⟩

end Go.Proofs.Ytcblojngdjofjaa.Wg
