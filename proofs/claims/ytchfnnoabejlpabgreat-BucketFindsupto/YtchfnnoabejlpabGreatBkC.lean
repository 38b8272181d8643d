/- The laws' own Dear of selectors (tapestrierlaw10): whatever it tells, it comes back. -/
import Derived.Test.YtchfnnoabejlpabGreatWgMem
import Derived.Laws.OwnMore
import Derived.Test.YtchfnnoabejlpabGreatBkFor
namespace Go.Proofs.YtchfnnoabejlpabGreat.Wg
open Go.Proofs.YtchfnnoabejlpabGreat.Tre
open Go Go.RowKit Sl

/-- A compound with few names; a selector of few parts; such selectors. -/
def FewC (c : Cp) : Prop := c.ids.length ≤ 5 ∧ c.classes.length ≤ 5 ∧ c.attrs.length ≤ 5 ∧ c.pss.length ≤ 5
def FewS (s : Sel) : Prop := s.length ≤ 60 ∧ ∀ p ∈ s, FewC p.2
def FewL (l : List Sel) : Prop := ∀ s ∈ l, FewS s
/-- Few at every depth. -/
def FewD : Nat → List Sel → Prop
  | 0, _ => False
  | d + 1, l => ∀ s ∈ l, s.length ≤ 60 ∧ ∀ p ∈ s, FewC p.2 ∧ ∀ u ∈ p.2.pss, FewD d u.list
def FewQ (d : Nat) (c : Cp) : Prop := FewC c ∧ ∀ u ∈ c.pss, FewD d u.list
def FewT (d : Nat) (s : Sel) : Prop := s.length ≤ 60 ∧ ∀ p ∈ s, FewQ d p.2
theorem FewD.few {d : Nat} {l : List Sel} (h : FewD d l) : FewL l := by
  cases d with
  | zero => exact absurd h (by simp [FewD])
  | succ d => exact fun s hs => ⟨(h s hs).1, fun p hp => ((h s hs).2 p hp).1⟩
def limB : Nat → Int
  | 0 => 100
  | d + 1 => 110 + 3 * limB d
theorem limB_le : ∀ d, d ≤ 11 → 100 ≤ limB d ∧ limB d ≤ 100000000 := by decide
theorem mem_take_more {α : Type} {l : List α} {k : Nat} {x y : α} (h : l[k]? = some x) (hy : y ∈ l.take (k + 1)) : y ∈ l.take k ∨ y = x := by
  obtain ⟨hk, rfl⟩ := List.getElem?_eq_some_iff.1 h
  rw [List.take_succ_eq_append_getElem hk, List.mem_append, List.mem_singleton] at hy
  exact hy
def DearOK (d : Nat) : Prop := ∀ (v : Value) (l : List Sel) (w : World), SelsR d w.heap.size w v l → Calls Tryz.prog 25 #[v, .int .i64 (11 - (d : Int))] w fun e w' => ∃ z : Int, e = .returned (.int .i64 z) ∧ Hid (0 ≤ z ∧ z ≤ limB d ∧ (z < 100 → FewD d l)) ∧ Below w.heap.size w w'
theorem hid_hundred (d : Nat) (hd : d ≤ 11) (l : List Sel) : Hid ((0 : Int) ≤ 100 ∧ 100 ≤ limB d ∧ ((100 : Int) < 100 → FewD d l)) := ⟨by omega, (limB_le d hd).1, fun h => by omega⟩
set_option maxRecDepth 100000 in
theorem dear_zero : DearOK 0 := by
  intro v l w hv
  obtain ⟨q, m, cap, rfl⟩ := hv.form
  clear hv
  show Calls Tryz.prog 25 #[_, .int .i64 11] w _
  go_enter Tryz.func25, Tryz.ntmps25
  go_wp2
  go_ret
  exact ⟨100, rfl, hid_hundred 0 (by omega) l, Below.refl _ _⟩

set_option maxRecDepth 100000 in
set_option maxHeartbeats 2000000 in
theorem dear_succ (d : Nat) (hd : d ≤ 10) (H : DearOK d) : DearOK (d + 1) := by
  intro v l w hv
  obtain ⟨q, cap, rfl⟩ := RowT.len hv
  obtain ⟨D, hD⟩ : ∃ D : Int, 11 - ((d + 1 : Nat) : Int) = D := ⟨_, rfl⟩
  rw [hD]
  have hD0 : ¬ (10 < D) := by omega
  have hD1 : IntKind.i64.wrap (D + 1) = 11 - (d : Int) := by rw [IntKind.wrap_i64]; omega
  have hDr : 0 ≤ D ∧ D ≤ 10 := by omega
  have HLB : Hid (100 ≤ limB d ∧ limB d ≤ 100000000 ∧ limB (d + 1) = 110 + 3 * limB d) := ⟨(limB_le d (by omega)).1, (limB_le d (by omega)).2, rfl⟩
  have HUN : Hid (∀ l, Hid ((0 : Int) ≤ 100 ∧ 100 ≤ limB (d + 1) ∧ ((100 : Int) < 100 → FewD (d + 1) l))) := fun l => hid_hundred (d + 1) (by omega) l
  have HD : Hid (DearOK d) := H
  have HV : Hid (SelsR (d + 1) w.heap.size w (.slice q l.length cap) l) := hv
  clear H hv hD
  go_enter Tryz.func25, Tryz.ntmps25
  go_wp2
  go_loopw [5, 6] (fun x5 x6 wr => ∃ (z : Int) (k : Nat), x5 = .int .i64 z ∧ x6 = .int .i64 k ∧ k ≤ l.length ∧ Below w.heap.size w wr ∧ Hid (0 ≤ z ∧ z ≤ limB (d + 1) ∧ (z < 100 → ∀ s ∈ l.take k, FewT d s))) (fun _ x6 _ => l.length - (intOf x6).toNat)
  case atStart => exact ⟨0, 0, rfl, rfl, Nat.zero_le _, Below.refl _ _, (by have := HLB.out; exact ⟨by omega, by omega, fun _ s hs => by simp at hs⟩)⟩
  case round =>
    obtain ⟨z, k, rfl, rfl, hk, hb, HZ⟩ := hrel
    by_cases hlt : k < l.length
    · have hki : (k : Int) < (l.length : Int) := by omega
      by_cases hz : z < 100
      · obtain ⟨s, hs⟩ : ∃ s, l[k]? = some s := ⟨_, List.getElem?_eq_getElem hlt⟩
        obtain ⟨b, off, x, hq, hbn, hc1, hc2, hx, y0⟩ := SelsR.get (HV.out.below (d + 1) hb) hs
        subst hq
        unfold maxLen at hc2
        obtain ⟨qp, cp, rfl⟩ := RowT.len hx
        have hsh := hx.short
        unfold maxLen at hsh
        have HX : Hid (∀ X, Below w.heap.size w X → PartsR d w.heap.size X (.slice qp s.length cp) s) := fun X hX => by
          obtain ⟨b', off', x', hq', _, _, _, hx', y'⟩ := SelsR.get (HV.out.below (d + 1) hX) hs
          cases hq'
          have e := (hX.cell (p := ⟨b, off + k, none⟩) hbn).trans (hb.cell (p := ⟨b, off + k, none⟩) hbn).symm
          rw [y', y0] at e
          cases e
          exact hx'
        have hk1 : (k : Int) + 1 ≤ 9223372036854775807 := by omega
        have HSK : Hid (l[k]? = some s) := hs
        clear hx hs
        go_upto_region 8 with fail
        clear y0
        obtain ⟨N, hN⟩ : ∃ N, s.length = N := ⟨_, rfl⟩
        rw [hN] at HX hsh ⊢
        go_cut [40] (fun x wx => ∃ t : Bool, x = .bool t ∧ wx = wr ∧ Hid (t = false → N ≤ 60))
        case first =>
          clear HX
          by_cases h1 : (12 : Int) < (N : Int)
          · by_cases h2 : (N : Int) < 50
            · have HT : Hid (true = false → N ≤ 60) := fun h => (by cases h)
              go_wp2
              go_meet
              exact ⟨_, rfl, rfl, HT⟩
            · by_cases h3 : (60 : Int) < (N : Int)
              · have HT : Hid (true = false → N ≤ 60) := fun h => (by cases h)
                go_wp2
                go_meet
                exact ⟨_, rfl, rfl, HT⟩
              · have HT : Hid (N ≤ 60) := (by show N ≤ 60; omega)
                go_wp2
                go_meet
                exact ⟨_, rfl, rfl, fun _ => HT.out⟩
          · have h3 : ¬ ((60 : Int) < (N : Int)) := by omega
            have HT : Hid (N ≤ 60) := (by show N ≤ 60; omega)
            go_wp2
            go_meet
            exact ⟨_, rfl, rfl, fun _ => HT.out⟩
        case rest =>
        obtain ⟨t, rfl, rfl, HT⟩ := hcut
        obtain ⟨wo, hwo⟩ : ∃ wo, wo = wc := ⟨_, rfl⟩
        subst hwo
        cases t with
        | true =>
          go_wp2
          go_ret
          first | exact ⟨⟨100, rfl, HUN.out l⟩, hb⟩ | exact ⟨100, rfl, HUN.out l, hb⟩
        | false =>
          have HBO : Hid (Below w.heap.size w wo) := hb
          have HS : Hid (s.length = N) := hN
          have HN60 : Hid (N ≤ 60) := HT.out rfl
          clear hN hb HT
          go_wp2
          go_loopw [5, 8] (fun x5 x8 wr => ∃ (z : Int) (j : Nat), x5 = .int .i64 z ∧ x8 = .int .i64 j ∧ j ≤ N ∧ Below w.heap.size w wr ∧ Hid (0 ≤ z ∧ z ≤ limB (d + 1) ∧ (z < 100 → (∀ s ∈ l.take k, FewT d s) ∧ ∀ p ∈ s.take j, FewQ d p.2))) (fun _ x8 _ => N - (intOf x8).toNat)
          case atStart => exact ⟨z, 0, rfl, rfl, Nat.zero_le _, HBO.out, (by have := HZ.out; exact ⟨this.1, this.2.1, fun h => ⟨this.2.2 h, fun p hp => by simp at hp⟩⟩)⟩
          case round =>
            obtain ⟨z2, j, rfl, rfl, hj, hb, HZ2⟩ := hrel
            by_cases hjl : j < N
            · have hji : (j : Int) < (N : Int) := by omega
              by_cases hz2 : z2 < 100
              · obtain ⟨p, hp⟩ : ∃ p, s[j]? = some p := ⟨_, List.getElem?_eq_getElem (by rw [HS.out]; exact hjl)⟩
                have hxx := HX.out wr hb
                obtain ⟨b2, off2, vi, vk, va, vp, hq, hbn2, hd1, hd2, ⟨x0, x1, x2, x3, x4, x5⟩, r1, r2, r3, r4⟩ := PartsR.get hxx hp
                subst hq
                unfold maxLen at hd2
                rw [HS.out] at hd1
                obtain ⟨q1, cp1, rfl⟩ := r1.len
                obtain ⟨q2, cp2, rfl⟩ := r2.len
                obtain ⟨q3, cp3, rfl⟩ := r3.len
                obtain ⟨q4, cp4, rfl⟩ := r4.len
                have h4s := r4.short
                unfold maxLen at h4s
                obtain ⟨w3, hw3⟩ : ∃ w3, wr.alloc (.cells #[.string p.2.tag, .slice q1 p.2.ids.length cp1, .slice q2 p.2.classes.length cp2, .slice q3 p.2.attrs.length cp3, .slice q4 p.2.pss.length cp4] 82) = w3 := ⟨_, rfl⟩
                have b3 : Below wr.heap.size wr w3 := by rw [← hw3]; exact (Below.refl _ _).alloc (Nat.le_refl _) _
                have k3 : Blk w3 wr.heap.size 82 [.string p.2.tag, .slice q1 p.2.ids.length cp1, .slice q2 p.2.classes.length cp2, .slice q3 p.2.attrs.length cp3, .slice q4 p.2.pss.length cp4] := by rw [← hw3]; exact Blk.new wr 82 _
                have r4' := r4.below (hb := b3.mono (hb.size)) (T' := PsC (SelsR d w.heap.size w3)) (fun _ _ ⟨x, e, hx⟩ => ⟨x, e, hx.below d (b3.mono hb.size)⟩)
                have B3 := below_next hb b3
                have HR4 : Hid (RowT 4 (PsC (SelsR d w.heap.size w3)) w.heap.size w3 (.slice q4 p.2.pss.length cp4) p.2.pss) := r4'
                have HK3 : Hid (Blk w3 wr.heap.size 82 [.string p.2.tag, .slice q1 p.2.ids.length cp1, .slice q2 p.2.classes.length cp2, .slice q3 p.2.attrs.length cp3, .slice q4 p.2.pss.length cp4]) := k3
                obtain ⟨⟨c0, c1, c2, c3, c4⟩, _⟩ := blk5 k3
                have hj1 : (j : Int) + 1 ≤ 9223372036854775807 := by omega
                have hws := hb.size
                have HPJ : Hid (s[j]? = some p) := hp
                have hwz : IntKind.i64.wrap (z2 + 1) = z2 + 1 := by rw [IntKind.wrap_i64]; have := HZ2.out; omega
                have hwd : IntKind.i64.wrap (z2 + 1 + D) = z2 + 1 + D := by rw [IntKind.wrap_i64]; have := HZ2.out; omega
                clear hxx r1 r2 r3 r4 r4' k3 hp hb
                obtain ⟨n1, hn1⟩ : ∃ n, p.2.ids.length = n := ⟨_, rfl⟩
                obtain ⟨n2, hn2⟩ : ∃ n, p.2.classes.length = n := ⟨_, rfl⟩
                obtain ⟨n3, hn3⟩ : ∃ n, p.2.attrs.length = n := ⟨_, rfl⟩
                obtain ⟨n4, hn4⟩ : ∃ n, p.2.pss.length = n := ⟨_, rfl⟩
                rw [hn1] at hw3 HK3 c1 x2
                rw [hn2] at hw3 HK3 c2 x3
                rw [hn3] at hw3 HK3 c3 x4
                rw [hn4] at hw3 HK3 c4 HR4 x5 h4s
                have HFC : Hid (n1 ≤ 5 → n2 ≤ 5 → n3 ≤ 5 → n4 ≤ 5 → FewC p.2) := fun a b c e => ⟨by omega, by omega, by omega, by omega⟩
                clear hn1 hn2 hn3
                have HN4 : Hid (p.2.pss.length = n4) := hn4
                clear hn4
                go_upto_region 15 with fail
                first | rw [hw3] | skip
                clear hw3 x0 x1 x2 x3 x4 x5 b3
                go_cut [81] (fun x wx => ∃ t : Bool, x = .bool t ∧ wx = w3 ∧ Hid (t = false → FewC p.2))
                case first =>
                  clear HX HR4 HK3
                  have HTT : Hid (true = false → FewC p.2) := fun h => (by cases h)
                  by_cases h1 : (5 : Int) < (n1 : Int)
                  · go_wp2
                    go_meet
                    exact ⟨_, rfl, rfl, HTT⟩
                  · by_cases h2 : (5 : Int) < (n2 : Int)
                    · go_wp2
                      go_meet
                      exact ⟨_, rfl, rfl, HTT⟩
                    · by_cases h3 : (5 : Int) < (n3 : Int)
                      · go_wp2
                        go_meet
                        exact ⟨_, rfl, rfl, HTT⟩
                      · by_cases h4 : (5 : Int) < (n4 : Int)
                        · go_wp2
                          go_meet
                          exact ⟨_, rfl, rfl, HTT⟩
                        · have HTF : Hid (FewC p.2) := HFC.out (by omega) (by omega) (by omega) (by omega)
                          go_wp2
                          go_meet
                          exact ⟨_, rfl, rfl, fun _ => HTF.out⟩
                case rest =>
                obtain ⟨t, rfl, rfl, HT⟩ := hcut
                clear c0 c1 c2 c3 c4
                cases t with
                | true =>
                  go_wp2
                  go_ret
                  first | exact ⟨⟨100, rfl, HUN.out l⟩, B3⟩ | exact ⟨100, rfl, HUN.out l, B3⟩
                | false =>
                  obtain ⟨wi, hwi⟩ : ∃ wi, wi = wr := ⟨_, rfl⟩
                  subst hwi
                  have HFP : Hid (FewC p.2) := HT.out rfl
                  have HZP : Hid (0 ≤ z2 + 1 + D ∧ z2 + 1 + D ≤ limB (d + 1) ∧ (z2 + 1 + D < 100 → (∀ s ∈ l.take k, FewT d s) ∧ ∀ q ∈ s.take j, FewQ d q.2)) := by
                    have h1 := HZ2.out
                    have h2 := HLB.out
                    exact ⟨by omega, by omega, fun h => h1.2.2 (by omega)⟩
                  clear HT
                  go_wp2
                  clear hwz hwd
                  go_loopw [5, 10] (fun x5 x10 wr => ∃ (z : Int) (m : Nat), x5 = .int .i64 z ∧ x10 = .int .i64 m ∧ m ≤ n4 ∧ Below wc.heap.size wc wr ∧ Hid (0 ≤ z ∧ z ≤ limB (d + 1) ∧ (z < 100 → (∀ s ∈ l.take k, FewT d s) ∧ (∀ q ∈ s.take j, FewQ d q.2) ∧ ∀ u ∈ p.2.pss.take m, FewD d u.list))) (fun _ x10 _ => n4 - (intOf x10).toNat)
                  case atStart => exact ⟨_, 0, rfl, rfl, Nat.zero_le _, Below.refl _ _, ⟨HZP.out.1, HZP.out.2.1, fun h => ⟨(HZP.out.2.2 h).1, (HZP.out.2.2 h).2, fun u hu => by simp at hu⟩⟩⟩
                  case round =>
                    obtain ⟨z4, m, rfl, rfl, hm, hb4, HZ4⟩ := hrel
                    have HEND : Hid ((m < n4 → ¬ z4 < 100) → 0 ≤ z4 ∧ z4 ≤ limB (d + 1) ∧ (z4 < 100 → (∀ s ∈ l.take k, FewT d s) ∧ ∀ q ∈ s.take (j + 1), FewQ d q.2)) := by
                      have h1 := HZ4.out
                      refine fun hmn => ⟨h1.1, h1.2.1, fun h => ⟨(h1.2.2 h).1, fun q hq => ?_⟩⟩
                      rcases mem_take_more HPJ.out hq with hq | rfl
                      · exact (h1.2.2 h).2.1 q hq
                      · refine ⟨HFP.out, fun u hu => (h1.2.2 h).2.2 u ?_⟩
                        rw [List.take_of_length_le (by
                          rw [HN4.out]
                          rcases Nat.lt_or_ge m n4 with g | g
                          · exact absurd h (hmn g)
                          · exact g)]
                        exact hu
                    obtain ⟨⟨c0, c1, c2, c3, c4⟩, _⟩ := blk5 (HK3.out.below hb4 HK3.out.lt)
                    by_cases hml : m < n4
                    · have hmi : (m : Int) < (n4 : Int) := by omega
                      by_cases hz4 : z4 < 100
                      · obtain ⟨u, hu⟩ : ∃ u, p.2.pss[m]? = some u := ⟨_, List.getElem?_eq_getElem (by rw [HN4.out]; exact hml)⟩
                        obtain ⟨b5, off5, y, hq5, hbn5, he1, he2, hQ, ⟨u0, u1, u2, u3⟩⟩ := pss_get HR4.out hu
                        subst hq5
                        unfold maxLen at he2
                        rw [HN4.out] at he1
                        have hwc := B3.size
                        have v3 := (hb4.cell (p := ⟨b5, off5 + m * 4 + 3, none⟩) (by show b5 < _; omega)).trans u3
                        obtain ⟨qy, my, cy, rfl⟩ := hQ.form
                        have hcall := HD.out (.slice qy my cy) u.list wr ((hQ.mono d hwc).next hb4)
                        have hm1 : (m : Int) + 1 ≤ 9223372036854775807 := by omega
                        have HUM : Hid (p.2.pss[m]? = some u) := hu
                        clear hQ u0 u1 u2 u3 hu
                        go_wp2_with fail
                        refine hcall.mono ?_
                        clear hcall
                        rintro e w5 ⟨zr, rfl, HZR, b5'⟩
                        have h3r : IntKind.i64.wrap (3 * zr) = 3 * zr := by rw [IntKind.wrap_i64]; have := HZR.out; have := HLB.out; omega
                        have h4r : IntKind.i64.wrap (z4 + 3 * zr) = z4 + 3 * zr := by rw [IntKind.wrap_i64]; have := HZR.out; have := HLB.out; have := HZ4.out; omega
                        have HZ5 : Hid (0 ≤ z4 + 3 * zr ∧ z4 + 3 * zr ≤ limB (d + 1) ∧ (z4 + 3 * zr < 100 → (∀ s ∈ l.take k, FewT d s) ∧ (∀ q ∈ s.take j, FewQ d q.2) ∧ ∀ u ∈ p.2.pss.take (m + 1), FewD d u.list)) := by
                          have h1 := HZ4.out
                          have h2 := HLB.out
                          have h3 := HZR.out
                          refine ⟨by omega, by omega, fun h => ⟨(h1.2.2 (by omega)).1, (h1.2.2 (by omega)).2.1, fun u' hu' => ?_⟩⟩
                          rcases mem_take_more HUM.out hu' with hu' | rfl
                          · exact (h1.2.2 (by omega)).2.2 u' hu'
                          · exact h3.2.2 (by omega)
                        have hB5 := below_next hb4 b5'
                        clear c0 c1 c2 c3 c4 v3 hb4 b5'
                        go_wp2
                        go_roundw
                        case rel => exact ⟨_, m + 1, rfl, by go_num, by omega, hB5, HZ5⟩
                        case measure => simp [intOf]; omega
                      · have hB5 := below_next B3 hb4
                        go_wp2
                        go_roundw
                        case rel => exact ⟨z4, j + 1, rfl, by go_num, by omega, hB5, HEND.out (fun _ => hz4)⟩
                        case measure => simp [intOf]; omega
                    · have hmi : ¬ (m : Int) < (n4 : Int) := by omega
                      have hB5 := below_next B3 hb4
                      go_wp2
                      go_roundw
                      case rel => exact ⟨z4, j + 1, rfl, by go_num, by omega, hB5, HEND.out (fun g => absurd g hml)⟩
                      case measure => simp [intOf]; omega
              · have HE2 : Hid (0 ≤ z2 ∧ z2 ≤ limB (d + 1) ∧ (z2 < 100 → ∀ s ∈ l.take (k + 1), FewT d s)) := by
                  have h1 := HZ2.out
                  exact ⟨h1.1, h1.2.1, fun h => absurd h hz2⟩
                go_wp2
                go_roundw
                case rel => exact ⟨z2, k + 1, rfl, by go_num, by omega, hb, HE2⟩
                case measure => simp [intOf]; omega
            · have hji : ¬ (j : Int) < (N : Int) := by omega
              have HE2 : Hid (0 ≤ z2 ∧ z2 ≤ limB (d + 1) ∧ (z2 < 100 → ∀ s ∈ l.take (k + 1), FewT d s)) := by
                have h1 := HZ2.out
                refine ⟨h1.1, h1.2.1, fun h s' hs' => ?_⟩
                rcases mem_take_more HSK.out hs' with hs' | rfl
                · exact (h1.2.2 h).1 s' hs'
                · have h2 := (h1.2.2 h).2
                  rw [List.take_of_length_le (by rw [HS.out]; omega)] at h2
                  exact ⟨by rw [HS.out]; exact HN60.out, h2⟩
              go_wp2
              go_roundw
              case rel => exact ⟨z2, k + 1, rfl, by go_num, by omega, hb, HE2⟩
              case measure => simp [intOf]; omega
      · have HF : Hid (0 ≤ z ∧ z ≤ limB (d + 1) ∧ (z < 100 → FewD (d + 1) l)) := by
          have h1 := HZ.out
          exact ⟨h1.1, h1.2.1, fun h => absurd h hz⟩
        go_wp2
        go_ret
        first | exact ⟨⟨z, rfl, HF⟩, hb⟩ | exact ⟨z, rfl, HF, hb⟩
    · have hki : ¬ (k : Int) < (l.length : Int) := by omega
      have HF : Hid (0 ≤ z ∧ z ≤ limB (d + 1) ∧ (z < 100 → FewD (d + 1) l)) := by
        have h1 := HZ.out
        rw [List.take_of_length_le (by omega)] at h1
        exact h1
      go_wp2
      go_ret
      first | exact ⟨⟨z, rfl, HF⟩, hb⟩ | exact ⟨z, rfl, HF, hb⟩

theorem dear_all : ∀ d, d ≤ 11 → DearOK d
  | 0, _ => dear_zero
  | d + 1, h => dear_succ d (by omega) (dear_all d (by omega))
set_option maxRecDepth 100000 in
theorem Dear_deep (v : Value) (l : List Sel) (w : World) (hv : SelsR 11 w.heap.size w v l) :
    Calls Tryz.prog 14 #[v] w fun e w' => ∃ t : Bool, e = .returned (.bool t) ∧ Hid (t = false → FewD 11 l) ∧ Below w.heap.size w w' := by
  have h := dear_all 11 (Nat.le_refl _) v l w hv
  rw [show (11 : Int) - ((11 : Nat) : Int) = 0 from rfl] at h
  clear hv
  go_enter Tryz.func14, Tryz.ntmps14
  go_wp2_with fail
  refine h.mono ?_
  clear h
  rintro e w1 ⟨z, rfl, HZ, b1⟩
  have HT : Hid (decide (40 < z) = false → FewD 11 l) := fun h => HZ.out.2.2 (by have := of_decide_eq_false h; omega)
  go_wp2
  go_ret
  first | exact ⟨⟨_, rfl, HT⟩, b1⟩ | exact ⟨_, rfl, HT, b1⟩
theorem Dear_few (v : Value) (l : List Sel) (w : World) (hv : SelsR 11 w.heap.size w v l) :
    Calls Tryz.prog 14 #[v] w fun e w' => ∃ t : Bool, e = .returned (.bool t) ∧ Hid (t = false → FewL l) ∧ Below w.heap.size w w' :=
  Calls.mono (Dear_deep v l w hv) (fun _ _ ⟨t, h1, h2, h3⟩ => ⟨t, h1, fun h => (h2.out h).few, h3⟩)
theorem Dear_any (v : Value) (l : List Sel) (w : World) (hv : SelsR 11 w.heap.size w v l) :
    Calls Tryz.prog 14 #[v] w fun e w' => ∃ t : Bool, e = .returned (.bool t) ∧ Below w.heap.size w w' :=
  Calls.mono (Dear_few v l w hv) (fun _ _ ⟨t, h1, _, h2⟩ => ⟨t, h1, h2⟩)

end Go.Proofs.YtchfnnoabejlpabGreat.Wg

/- Rows of things that a call owns: append(dst, src...). -/
namespace Go.Proofs.YtchfnnoabejlpabGreat.Wg
open Go.Proofs.YtchfnnoabejlpabGreat.Tre
open Go Go.RowKit Sl

/-- A row of things that the call owns. -/
def OwnT {α : Type} (base : Nat) (e : TypeId) (sz : Nat) (T : List Value → α → Prop) (W : World) (v : Value) (l : List α) : Prop :=
  ∃ css : List (List Value), W.ownsRow base e sz v l.length css.flatten ∧ css.length = l.length ∧ (∀ c ∈ css, c.length = sz) ∧ ∀ (j : Nat) (x : α), l[j]? = some x → ∃ c, css[j]? = some c ∧ T c x
theorem OwnT.nil {α : Type} (base : Nat) (e : TypeId) (sz : Nat) (T : List Value → α → Prop) (W : World) : OwnT base e sz T W (.slice none 0 0) ([] : List α) :=
  ⟨[], World.ownsRow_nil _ _ _ _, rfl, fun _ h => (by cases h), fun j x h => by simp at h⟩
theorem OwnT.form {α : Type} {base : Nat} {e : TypeId} {sz : Nat} {T : List Value → α → Prop} {W : World} {v : Value} {l : List α} (h : OwnT base e sz T W v l) : ∃ q c, v = .slice q l.length c := by
  obtain ⟨_, h, _⟩ := h
  exact owns_form h
theorem OwnT.lt {α : Type} {base : Nat} {e : TypeId} {sz : Nat} {T : List Value → α → Prop} {W : World} {v : Value} {l : List α} (h : OwnT base e sz T W v l) {g : Nat} (hg : v.ownBlock = some g) : base ≤ g ∧ g < W.heap.size := by
  obtain ⟨_, h, _⟩ := h
  exact owns_lt h hg
theorem OwnT.same {α : Type} {base : Nat} {e : TypeId} {sz : Nat} {T T' : List Value → α → Prop} {W W' : World} {v : Value} {l : List α} (h : OwnT base e sz T W v l) (hs : ∀ g, v.ownBlock = some g → W'.heap[g]? = W.heap[g]?) (hT : ∀ c x, T c x → T' c x) : OwnT base e sz T' W' v l := by
  obtain ⟨css, h1, h2, h3, h4⟩ := h
  exact ⟨css, owns_same h1 hs, h2, h3, fun j x hx => let ⟨c, hc, ht⟩ := h4 j x hx; ⟨c, hc, hT _ _ ht⟩⟩
theorem OwnT.next {α : Type} {base : Nat} {e : TypeId} {sz : Nat} {T : List Value → α → Prop} {W W' : World} {v : Value} {l : List α} (h : OwnT base e sz T W v l) (hb : Below W.heap.size W W') : OwnT base e sz T W' v l :=
  h.same (fun g hg => hb.block g (h.lt hg).2) (fun _ _ h => h)
theorem OwnT.row {α : Type} {base : Nat} {e : TypeId} {sz : Nat} (_hz : 0 < sz) {T : List Value → α → Prop} {W : World} {v : Value} {l : List α} (h : OwnT base e sz T W v l) : RowT sz T W.heap.size W v l := by
  obtain ⟨css, h1, h2, h3, h4⟩ := h
  rcases h1.2 with ⟨rfl, hn⟩ | ⟨g, cap, cur, rfl, hg, hb, hn, hm, hs, ht⟩
  · exact .inl ⟨List.eq_nil_of_length_eq_zero hn, _, _, rfl⟩
  · refine .inr ⟨g, 0, cap, rfl, hn, hm, (Array.getElem?_eq_some_iff.1 hb).1, fun j x hx => ?_⟩
    obtain ⟨c, hc, htc⟩ := h4 j x hx
    refine ⟨c, h3 c (List.mem_of_getElem? hc), htc, fun i u hu => ?_⟩
    have hi : i < sz := by rw [← h3 c (List.mem_of_getElem? hc)]; exact (List.getElem?_eq_some_iff.1 hu).1
    have := flatten_at css j c h3 hc i hi
    have := h1.cells (g := g) rfl (j * sz + i) u (by rw [this]; exact hu)
    rw [show (⟨g, 0, none⟩ : Addr).add (j * sz + i) = ⟨g, 0 + j * sz + i, none⟩ by
      unfold Addr.add
      split
      · simp_all
      · simp] at this
    exact this
theorem row_cells {α : Type} {sz : Nat} {T : List Value → α → Prop} {W : World} {b : Nat} : ∀ (l : List α) (off : Nat), (∀ (j : Nat) (x : α), l[j]? = some x → ∃ c, c.length = sz ∧ T c x ∧ ∀ i u, c[i]? = some u → W.cell? ⟨b, off + j * sz + i, none⟩ = some u) →
    ∃ css : List (List Value), css.length = l.length ∧ (∀ c ∈ css, c.length = sz) ∧ (∀ (j : Nat) (x : α), l[j]? = some x → ∃ c, css[j]? = some c ∧ T c x) ∧ (∀ c ∈ css, ∃ x ∈ l, T c x) ∧ ∀ k u, css.flatten[k]? = some u → W.cell? ⟨b, off + k, none⟩ = some u
  | [], off, _ => ⟨[], rfl, fun _ h => (by cases h), fun j x h => (by simp at h), fun _ h => (by cases h), fun k u h => by simp at h⟩
  | a :: l, off, h => by
    obtain ⟨c, hc, ht, hcell⟩ := h 0 a rfl
    obtain ⟨css, h1, h2, h3, h5, h4⟩ := row_cells l (off + sz) (fun j x hx => by
      obtain ⟨c, hc, ht, hcell⟩ := h (j + 1) x (by simpa using hx)
      refine ⟨c, hc, ht, fun i u hu => ?_⟩
      have := hcell i u hu
      rwa [show off + (j + 1) * sz + i = off + sz + j * sz + i by rw [Nat.add_mul]; omega] at this)
    refine ⟨c :: css, by simp [h1], fun x hx => ?_, fun j x hx => ?_, fun x hx => ?_, fun k u hu => ?_⟩
    · rcases List.mem_cons.1 hx with rfl | hx
      · exact hc
      · exact h2 x hx
    · cases j with
      | zero =>
        obtain rfl : a = x := by simpa using hx
        exact ⟨c, rfl, ht⟩
      | succ j => exact h3 j x (by simpa using hx)
    · rcases List.mem_cons.1 hx with rfl | hx
      · exact ⟨a, List.mem_cons_self .., ht⟩
      · obtain ⟨y, hy, hty⟩ := h5 x hx
        exact ⟨y, List.mem_cons_of_mem _ hy, hty⟩
    · rw [List.flatten_cons] at hu
      by_cases hk : k < c.length
      · rw [List.getElem?_append_left hk] at hu
        have := hcell k u hu
        simpa using this
      · rw [List.getElem?_append_right (by omega)] at hu
        have := h4 _ u hu
        rwa [show off + sz + (k - c.length) = off + k by omega] at this
theorem flat_len {sz : Nat} : ∀ (css : List (List Value)), (∀ c ∈ css, c.length = sz) → css.flatten.length = css.length * sz
  | [], _ => by simp
  | c :: css, h => by
    rw [List.flatten_cons, List.length_append, flat_len css (fun x hx => h x (List.mem_cons_of_mem _ hx)), h c (List.mem_cons_self ..), List.length_cons, Nat.add_mul]
    omega
theorem run_append_empty {P : Program} {w : World} (base : Nat) (t ty e : TypeId) (i : TypeInfo) (size : Nat) (ht : P.underlying t = some (.slice e)) (hi : P.info? e = some i)
    (v : Value) (n : Nat) (xs : List Value) (hown : w.ownsRow base e size v n xs) (p : Option Addr) (c : Nat) :
    (Builtin.append_ #[t, t] ty #[v, .slice p 0 c]).run P w = .ok v w := by
  rcases hown.2 with ⟨rfl, rfl⟩ | ⟨g, cap, cur, rfl, _, _, hnc, _⟩
  · cases p <;> simp [Builtin.append_, run_underlying ht, sizeOf, typeInfo, hi, Builtin.lenOf, Builtin.firstCells, loadCells, loadCellsFrom]
  · cases p <;> simp [Builtin.append_, run_underlying ht, sizeOf, typeInfo, hi, Builtin.lenOf, Builtin.firstCells, hnc, storeCells, loadCells, loadCellsFrom]
/-- append(dst, src...) from whatever slice. -/
theorem OwnT.app {α : Type} {P : Program} {base : Nat} {t e : TypeId} {i : TypeInfo} {z : Value} {sz bytes : Nat} (ht : P.underlying t = some (.slice e)) (hi : P.info? e = some i) (hz : i.zero = some z) (hsize : i.size = sz) (hby : i.bytes = bytes) (hzs : z.cells.size = sz) (hsz : 0 < sz)
    {T : List Value → α → Prop} (h1 : ∀ c x, T c x → ∀ u ∈ c, u.oneCell' = true) {W : World} {v x : Value} {l m : List α} (h : OwnT base e sz T W v l) {n : Nat} (hx : RowT sz T n W x m) (hl : l.length + m.length ≤ maxLen) (hb : (l.length + m.length) * bytes ≤ 140737488355328) (hbase : base ≤ W.heap.size) :
    ∃ v' W', (Builtin.append_ #[t, t] t #[v, x]).run P W = .ok v' W' ∧ OwnT base e sz T W' v' (l ++ m) ∧ W.grownBy W' v.ownBlock ∧ (v'.ownBlock = v.ownBlock ∨ v'.ownBlock = some W.heap.size) := by
  rcases hx with ⟨rfl, p, c, rfl⟩ | ⟨b, off, cap, rfl, g1, g2, g3, g4⟩
  · have hh := h
    obtain ⟨css, h2, _⟩ := hh
    exact ⟨v, W, run_append_empty base t t e i sz ht hi v l.length _ h2 p c, by rw [List.append_nil]; exact h, World.grownBy.refl _ _, .inl rfl⟩
  · obtain ⟨css, h2, h3, h4, h5⟩ := h
    obtain ⟨dss, k1, k2, k3, k5, k4⟩ := row_cells m off g4
    obtain ⟨v', W', r1, r2, r3, _, r5⟩ := run_append_own_at (P := P) W base t t e i z sz bytes ht hi hz hsize hby hzs hsz v l.length css.flatten h2 ⟨b, off, none⟩ m.length cap dss.flatten (by rw [flat_len dss k2, k1]) (fun j u hu => by
      have := k4 j u hu
      rw [show (⟨b, off, none⟩ : Addr).add j = ⟨b, off + j, none⟩ by
        unfold Addr.add
        split
        · simp_all
        · rfl]
      exact this) (fun u hu => by
        obtain ⟨c, hc, huc⟩ := List.mem_flatten.1 hu
        obtain ⟨y, _, hty⟩ := k5 c hc
        exact h1 c y hty u huc) hl hb hbase
    refine ⟨v', W', r1, ⟨css ++ dss, by rw [List.flatten_append, List.length_append]; exact r2, by rw [List.length_append, List.length_append, h3, k1], fun c hc => ?_, fun j y hj => ?_⟩, r3, r5⟩
    · rcases List.mem_append.1 hc with hc | hc
      · exact h4 c hc
      · exact k2 c hc
    · by_cases hlt : j < l.length
      · rw [List.getElem?_append_left hlt] at hj
        obtain ⟨c, hc, htc⟩ := h5 j y hj
        exact ⟨c, by rw [List.getElem?_append_left (by omega)]; exact hc, htc⟩
      · rw [List.getElem?_append_right (by omega)] at hj
        obtain ⟨c, hc, htc⟩ := k3 _ y hj
        exact ⟨c, by rw [List.getElem?_append_right (by omega), h3]; exact hc, htc⟩

end Go.Proofs.YtchfnnoabejlpabGreat.Wg

/- The laws' own Dear of rules (tapestrierlaw12): what it lets pass is few. -/
namespace Go.Proofs.YtchfnnoabejlpabGreat.Bk
open Go.Proofs.YtchfnnoabejlpabGreat.Tre
open Go Go.RowKit Sl Wg

theorem infoSel : (Tryz.prog.info? 50).map (fun i => (i.zero, i.size, i.bytes)) = some (some (.agg #[.slice none 0 0]), 1, 24) := by kernel_rfl
theorem opw_append_run {P : Program} {Q : Exit → Act → World → Prop} {o : Oper} {a : Act} {w w' : World} {K : Act → World → Prop} (s x : Operand) (t : TypeId)
    (ho : o.op = .call { callee := .builtin .append, args := #[s, x], argTypes := #[t, t] }) {v xv v' : Value} (hs : a.eval s = v) (hx : a.eval x = xv) (hrun : (Builtin.append_ #[t, t] o.type #[v, xv]).run P w = .ok v' w')
    (h : K (a.put o.dst v') w') : Oper.wp P o a w K Q := by
  unfold Oper.wp
  simp [execOp, ho, resolve, invoke, builtin, hs, hx, hrun, Result.andThen]
  exact h
/-- One selector's cell. -/
def SelT (d n : Nat) (W : World) (c : List Value) (s : Sel) : Prop := ∃ x, c = [x] ∧ PtsR (SelsR d n W) n W x s
theorem selT_one {d n : Nat} {W : World} (c : List Value) (s : Sel) (h : SelT d n W c s) : ∀ u ∈ c, u.oneCell' = true := by
  obtain ⟨x, rfl, hx⟩ := h
  obtain ⟨p, cap, rfl⟩ := RowT.len hx
  intro u hu
  rw [List.mem_singleton] at hu
  subst hu
  rfl
theorem selT_below {d n : Nat} {X Y : World} (hb : Below n X Y) (c : List Value) (s : Sel) (h : SelT d n X c s) : SelT d n Y c s := by
  obtain ⟨x, e, hx⟩ := h
  exact ⟨x, e, hx.below hb (fun _ _ hq => hq.below d hb)⟩

/-- What Dear tells of rules. -/
def DearP (l : List Rl) (w : World) (e : Ending) (w' : World) : Prop := ∃ t : Bool, e = .returned (.bool t) ∧ (t = false → l.length ≤ 30 ∧ ∀ r ∈ l, r.length ≤ 8) ∧ Below w.heap.size w w'
theorem RowT.one {α : Type} {T : List Value → α → Prop} {n : Nat} {W : World} {q : Option Addr} {m cap : Nat} {l : List α} (h : RowT 1 T n W (.slice q m cap) l) {j : Nat} {x : α} (hx : l[j]? = some x) :
    ∃ b off, q = some ⟨b, off, none⟩ ∧ l.length ≤ cap ∧ cap ≤ maxLen ∧ b < n ∧ RowT 1 T n W (.slice (some ⟨b, off + j, none⟩) 1 (cap - j)) [x] := by
  obtain ⟨b, off, c, e, hb, h1, h2, h3, h4, h5⟩ := RowT.get h hx
  have hj : j < l.length := (List.getElem?_eq_some_iff.1 hx).1
  refine ⟨b, off, e, h1, h2, hb, .inr ⟨b, off + j, cap - j, rfl, by simp; omega, by omega, hb, fun i y hy => ?_⟩⟩
  cases i with
  | succ i => simp at hy
  | zero =>
    obtain rfl : x = y := by simpa using hy
    refine ⟨c, h3, h4, fun i u hu => ?_⟩
    have := h5 i u hu
    simpa using this

set_option maxRecDepth 100000 in
set_option maxHeartbeats 1000000 in
theorem dearRules_any (v : Value) (l : List Rl) (w : World) (hv : RulesR 11 w.heap.size w v l) :
    Calls Tryz.prog 5 #[v] w (DearP l w) := by
  obtain ⟨i0, hi, hz0, hz1, hz2⟩ := info_of infoSel
  obtain ⟨q, cap, rfl⟩ := RowT.len hv
  have HV : Hid (RulesR 11 w.heap.size w (.slice q l.length cap) l) := hv
  clear hv
  by_cases h30 : (30 : Int) < (l.length : Int)
  · go_enter Tryz.func5, Tryz.ntmps5
    go_wp2
    go_ret
    exact ⟨true, rfl, fun h => (by cases h), Below.refl _ _⟩
  · have hl30 : l.length ≤ 30 := by omega
    go_enter Tryz.func5, Tryz.ntmps5
    go_wp2
    go_loopw [3, 4] (fun x3 x4 wr => ∃ (k : Nat) (L : List Sel), x4 = .int .i64 k ∧ k ≤ l.length ∧ OwnT w.heap.size 50 1 (SelT 10 w.heap.size w) wr x3 L ∧ Hid ((l.take k).flatten = L) ∧ Hid (∀ r ∈ l.take k, r.length ≤ 8) ∧ L.length ≤ k * 8 ∧ Below w.heap.size w wr) (fun _ x4 _ => l.length - (intOf x4).toNat)
    case atStart => exact ⟨0, [], rfl, Nat.zero_le _, OwnT.nil _ _ _ _ _, rfl, fun r h => (by simp at h), by simp, Below.refl _ _⟩
    case round =>
      obtain ⟨k, L, rfl, hk, hO, HL, H8, hfl, hb⟩ := hrel
      obtain ⟨q3, c3, rfl⟩ := hO.form
      by_cases hlt : k < l.length
      · have hki : (k : Int) < (l.length : Int) := by omega
        obtain ⟨r, hr⟩ : ∃ r, l[k]? = some r := ⟨_, List.getElem?_eq_getElem hlt⟩
        obtain ⟨b, off, cs, hq, hbn, hc1, hc2, _, ⟨x, px, mx, kx, rfl, hx⟩, hcell⟩ := RowT.get HV.out hr
        subst hq
        unfold maxLen at hc2
        have x0 := (hb.cell (p := ⟨b, off + k * 2 + 0, none⟩) hbn).trans (hcell 0 _ rfl)
        have x1 := (hb.cell (p := ⟨b, off + k * 2 + 1, none⟩) hbn).trans (hcell 1 _ rfl)
        simp only [Nat.add_zero] at x0
        obtain ⟨pr, cr, rfl⟩ := RowT.len hx
        have hk1 : (k : Int) + 1 ≤ 9223372036854775807 := by omega
        by_cases hr8 : (8 : Int) < (r.length : Int)
        · clear hcell
          go_wp2
          go_ret
          exact ⟨true, rfl, fun h => (by cases h), hb⟩
        · by_cases hm30 : (30 : Int) < (mx : Int)
          · clear hcell
            go_wp2
            go_ret
            exact ⟨true, rfl, fun h => (by cases h), hb⟩
          · obtain ⟨v', w', hap, hO', hg', hat'⟩ := OwnT.app Tryz.underlying40 hi hz0 hz1 hz2 rfl (by decide) selT_one hO (RowT.below hx hb (fun _ _ h => h)) (by unfold maxLen; omega) (by omega) hb.size
            have hnx : (l.take (k + 1)).flatten = L ++ r := by
              obtain ⟨hk', rfl⟩ := List.getElem?_eq_some_iff.1 hr
              rw [List.take_succ_eq_append_getElem hk', List.flatten_append, HL.out]
              simp
            have FIN : Hid (OwnT w.heap.size 50 1 (SelT 10 w.heap.size w) w' v' (L ++ r) ∧ Hid ((l.take (k + 1)).flatten = L ++ r) ∧ Hid (∀ r ∈ l.take (k + 1), r.length ≤ 8) ∧ (L ++ r).length ≤ (k + 1) * 8 ∧ Below w.heap.size w w') := by
              refine ⟨hO', hnx, fun z hz => ?_, by rw [List.length_append]; omega, hb.grown hg' hb.size (fun r e => (hO.lt e).1)⟩
              obtain ⟨hk', rfl⟩ := List.getElem?_eq_some_iff.1 hr
              rw [List.take_succ_eq_append_getElem hk', List.mem_append, List.mem_singleton] at hz
              rcases hz with hz | rfl
              · exact H8.out z hz
              · omega
            clear hcell hO hO' hg' hat' hnx hx HL H8 hfl hr
            obtain ⟨NL, hNL⟩ : ∃ NL, L.length = NL := ⟨_, rfl⟩
            obtain ⟨NR, hNR⟩ : ∃ NR, r.length = NR := ⟨_, rfl⟩
            rw [hNL, hNR] at hap
            rw [hNR] at x0 hr8
            rw [hNL]
            clear hNL hNR
            have hap2 : Hid (_ = _) := hap
            clear hap
            go_wp2_with (at_builtin; refine wpList_plain rfl fun K hK => ?_; refine opw_append_run _ _ 40 rfl rfl rfl hap2.out (hK _ _ ?_))
            go_roundw
            case rel => exact ⟨k + 1, L ++ r, by go_num, by omega, FIN.out⟩
            case measure => simp [intOf]; omega
      · have hki : ¬ (k : Int) < (l.length : Int) := by omega
        have H8' : Hid (∀ r ∈ l, r.length ≤ 8) := by
          have := H8.out
          rwa [List.take_of_length_le (by omega)] at this
        have hrow := hO.row (by decide)
        have HRW : Hid (∀ X, Below wr.heap.size wr X → RowT 1 (SelT 10 X.heap.size X) X.heap.size X (.slice q3 L.length c3) L) := fun X hX =>
          ((hrow.below hX (T' := SelT 10 X.heap.size X) (fun c s hs => by
            obtain ⟨x, e, hx⟩ := selT_below (hb.trans (hX.mono hb.size)) c s hs
            exact ⟨x, e, hx.mono (Nat.le_trans hb.size hX.size) (fun _ _ hq => hq.mono 10 (Nat.le_trans hb.size hX.size))⟩)).mono hX.size (fun _ _ h => h))
        have hLs : L.length ≤ 240 := by omega
        obtain ⟨wo, hwo⟩ : ∃ wo, wo = wr := ⟨_, rfl⟩
        subst hwo
        clear HL H8 hfl hO hrow
        obtain ⟨NL, hNL⟩ : ∃ NL, L.length = NL := ⟨_, rfl⟩
        rw [hNL] at hLs HRW ⊢
        have HNL : Hid (L.length = NL) := hNL
        clear hNL
        go_wp2
        go_loopw [5, 6] (fun x5 x6 wr => ∃ (z : Int) (m : Nat), x5 = .int .i64 z ∧ x6 = .int .i64 m ∧ m ≤ NL ∧ Below wo.heap.size wo wr) (fun _ x6 _ => NL - (intOf x6).toNat)
        case atStart => exact ⟨0, 0, rfl, rfl, Nat.zero_le _, Below.refl _ _⟩
        case round =>
          obtain ⟨z, m, rfl, rfl, hm, hb2⟩ := hrel
          by_cases hml : m < NL
          · have hmi : (m : Int) < (NL : Int) := by omega
            obtain ⟨s, hs⟩ : ∃ s, L[m]? = some s := ⟨_, List.getElem?_eq_getElem (by rw [HNL.out]; exact hml)⟩
            obtain ⟨b, off, hq, hc1, hc2, hbn, hone⟩ := RowT.one (HRW.out wr hb2) hs
            subst hq
            rw [HNL.out] at hc1
            unfold maxLen at hc2
            have hde := Dear_any _ [s] wr hone
            obtain ⟨b', off', cs, e', _, _, _, _, ⟨xp, rfl, hxp⟩, hcell⟩ := RowT.get (HRW.out wr hb2) hs
            cases e'
            have y0 := hcell 0 _ rfl
            simp only [Nat.mul_one, Nat.add_zero] at y0
            obtain ⟨qp, cp, rfl⟩ := RowT.len hxp
            have hm1 : (m : Int) + 1 ≤ 9223372036854775807 := by omega
            have hm2 : (m : Int) + 1 ≤ (NL : Int) := by omega
            have i1 : IntKind.i64.wrap ((m : Int) + 1) = ((m + 1 : Nat) : Int) := by rw [IntKind.wrap_i64]; omega
            clear hone hcell hxp hs
            go_wp2_with fail
            refine hde.mono ?_
            clear hde
            rintro e w5 ⟨t, rfl, b5⟩
            have hB5 := below_next hb2 b5
            have hB := below_next hb hB5
            have hbw : b < wr.heap.size := hbn
            have y1 := (b5.cell (p := ⟨b, off + m, none⟩) hbw).trans y0
            clear y0 hb2
            cases t with
            | true =>
              go_wp2
              go_ret
              exact ⟨true, rfl, fun h => (by cases h), hB⟩
            | false =>
              go_wp2
              go_roundw
              case rel => exact ⟨_, m + 1, rfl, by go_num, by omega, hB5⟩
              case measure => simp [intOf]; omega
          · have hmi : ¬ (m : Int) < (NL : Int) := by omega
            have hB := below_next hb hb2
            go_wp2
            go_ret
            exact ⟨_, rfl, fun _ => ⟨hl30, H8'.out⟩, hB⟩

end Go.Proofs.YtchfnnoabejlpabGreat.Bk
