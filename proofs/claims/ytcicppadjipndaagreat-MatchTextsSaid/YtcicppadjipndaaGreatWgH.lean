/- The laws' own Dear of selectors (tapestrierlaw10): whatever it tells, it comes back. -/
import Derived.Test.YtcicppadjipndaaGreatWgMem
import Derived.Test.YtcicppadjipndaaGreatWgArgs
namespace Go.Proofs.YtcicppadjipndaaGreat.Wg
open Go.Proofs.YtcicppadjipndaaGreat.Tre
open Go Go.RowKit Sl

/-- A compound with few names; a selector of few parts; such selectors. -/
def FewC (c : Cp) : Prop := c.ids.length ≤ 5 ∧ c.classes.length ≤ 5 ∧ c.attrs.length ≤ 5 ∧ c.pss.length ≤ 5
def FewS (s : Sel) : Prop := s.length ≤ 60 ∧ ∀ p ∈ s, FewC p.2
def FewL (l : List Sel) : Prop := ∀ s ∈ l, FewS s
/-- Few at every depth. -/
def FewD : Nat → List Sel → Prop
  | 0, _ => False
  | d + 1, l => ∀ s ∈ l, s.length ≤ 60 ∧ ∀ p ∈ s, FewC p.2 ∧ ∀ u ∈ p.2.pss, FewD d u.list
def FewQ (d : Nat) (c : Cp) : Prop := FewC c ∧ ∀ u ∈ c.pss, FewD d u.list
def FewT (d : Nat) (s : Sel) : Prop := s.length ≤ 60 ∧ ∀ p ∈ s, FewQ d p.2
theorem FewD.few {d : Nat} {l : List Sel} (h : FewD d l) : FewL l := by
  cases d with
  | zero => exact absurd h (by simp [FewD])
  | succ d => exact fun s hs => ⟨(h s hs).1, fun p hp => ((h s hs).2 p hp).1⟩
def limB : Nat → Int
  | 0 => 100
  | d + 1 => 110 + 3 * limB d
theorem limB_le : ∀ d, d ≤ 11 → 100 ≤ limB d ∧ limB d ≤ 100000000 := by decide
theorem mem_take_more {α : Type} {l : List α} {k : Nat} {x y : α} (h : l[k]? = some x) (hy : y ∈ l.take (k + 1)) : y ∈ l.take k ∨ y = x := by
  obtain ⟨hk, rfl⟩ := List.getElem?_eq_some_iff.1 h
  rw [List.take_succ_eq_append_getElem hk, List.mem_append, List.mem_singleton] at hy
  exact hy
def DearOK (d : Nat) : Prop := ∀ (v : Value) (l : List Sel) (w : World), SelsR d w.heap.size w v l → Calls Tryz.prog 29 #[v, .int .i64 (11 - (d : Int))] w fun e w' => ∃ z : Int, e = .returned (.int .i64 z) ∧ Hid (0 ≤ z ∧ z ≤ limB d ∧ (z < 100 → FewD d l)) ∧ Below w.heap.size w w'
theorem hid_hundred (d : Nat) (hd : d ≤ 11) (l : List Sel) : Hid ((0 : Int) ≤ 100 ∧ 100 ≤ limB d ∧ ((100 : Int) < 100 → FewD d l)) := ⟨by omega, (limB_le d hd).1, fun h => by omega⟩
set_option maxRecDepth 100000 in
theorem dear_zero : DearOK 0 := by
  intro v l w hv
  obtain ⟨q, m, cap, rfl⟩ := hv.form
  clear hv
  show Calls Tryz.prog 29 #[_, .int .i64 11] w _
  go_enter Tryz.func29, Tryz.ntmps29
  go_wp2
  go_ret
  exact ⟨100, rfl, hid_hundred 0 (by omega) l, Below.refl _ _⟩

set_option maxRecDepth 100000 in
set_option maxHeartbeats 2000000 in
theorem dear_succ (d : Nat) (hd : d ≤ 10) (H : DearOK d) : DearOK (d + 1) := by
  intro v l w hv
  obtain ⟨q, cap, rfl⟩ := RowT.len hv
  obtain ⟨D, hD⟩ : ∃ D : Int, 11 - ((d + 1 : Nat) : Int) = D := ⟨_, rfl⟩
  rw [hD]
  have hD0 : ¬ (10 < D) := by omega
  have hD1 : IntKind.i64.wrap (D + 1) = 11 - (d : Int) := by rw [IntKind.wrap_i64]; omega
  have hDr : 0 ≤ D ∧ D ≤ 10 := by omega
  have HLB : Hid (100 ≤ limB d ∧ limB d ≤ 100000000 ∧ limB (d + 1) = 110 + 3 * limB d) := ⟨(limB_le d (by omega)).1, (limB_le d (by omega)).2, rfl⟩
  have HUN : Hid (∀ l, Hid ((0 : Int) ≤ 100 ∧ 100 ≤ limB (d + 1) ∧ ((100 : Int) < 100 → FewD (d + 1) l))) := fun l => hid_hundred (d + 1) (by omega) l
  have HD : Hid (DearOK d) := H
  have HV : Hid (SelsR (d + 1) w.heap.size w (.slice q l.length cap) l) := hv
  clear H hv hD
  go_enter Tryz.func29, Tryz.ntmps29
  go_wp2
  go_loopw [5, 6] (fun x5 x6 wr => ∃ (z : Int) (k : Nat), x5 = .int .i64 z ∧ x6 = .int .i64 k ∧ k ≤ l.length ∧ Below w.heap.size w wr ∧ Hid (0 ≤ z ∧ z ≤ limB (d + 1) ∧ (z < 100 → ∀ s ∈ l.take k, FewT d s))) (fun _ x6 _ => l.length - (intOf x6).toNat)
  case atStart => exact ⟨0, 0, rfl, rfl, Nat.zero_le _, Below.refl _ _, (by have := HLB.out; exact ⟨by omega, by omega, fun _ s hs => by simp at hs⟩)⟩
  case round =>
    obtain ⟨z, k, rfl, rfl, hk, hb, HZ⟩ := hrel
    by_cases hlt : k < l.length
    · have hki : (k : Int) < (l.length : Int) := by omega
      by_cases hz : z < 100
      · obtain ⟨s, hs⟩ : ∃ s, l[k]? = some s := ⟨_, List.getElem?_eq_getElem hlt⟩
        obtain ⟨b, off, x, hq, hbn, hc1, hc2, hx, y0⟩ := SelsR.get (HV.out.below (d + 1) hb) hs
        subst hq
        unfold maxLen at hc2
        obtain ⟨qp, cp, rfl⟩ := RowT.len hx
        have hsh := hx.short
        unfold maxLen at hsh
        have HX : Hid (∀ X, Below w.heap.size w X → PartsR d w.heap.size X (.slice qp s.length cp) s) := fun X hX => by
          obtain ⟨b', off', x', hq', _, _, _, hx', y'⟩ := SelsR.get (HV.out.below (d + 1) hX) hs
          cases hq'
          have e := (hX.cell (p := ⟨b, off + k, none⟩) hbn).trans (hb.cell (p := ⟨b, off + k, none⟩) hbn).symm
          rw [y', y0] at e
          cases e
          exact hx'
        have hk1 : (k : Int) + 1 ≤ 9223372036854775807 := by omega
        have HSK : Hid (l[k]? = some s) := hs
        clear hx hs
        go_upto_region 8 with fail
        clear y0
        obtain ⟨N, hN⟩ : ∃ N, s.length = N := ⟨_, rfl⟩
        rw [hN] at HX hsh ⊢
        go_cut [40] (fun x wx => ∃ t : Bool, x = .bool t ∧ wx = wr ∧ Hid (t = false → N ≤ 60))
        case first =>
          clear HX
          by_cases h1 : (12 : Int) < (N : Int)
          · by_cases h2 : (N : Int) < 50
            · have HT : Hid (true = false → N ≤ 60) := fun h => (by cases h)
              go_wp2
              go_meet
              exact ⟨_, rfl, rfl, HT⟩
            · by_cases h3 : (60 : Int) < (N : Int)
              · have HT : Hid (true = false → N ≤ 60) := fun h => (by cases h)
                go_wp2
                go_meet
                exact ⟨_, rfl, rfl, HT⟩
              · have HT : Hid (N ≤ 60) := (by show N ≤ 60; omega)
                go_wp2
                go_meet
                exact ⟨_, rfl, rfl, fun _ => HT.out⟩
          · have h3 : ¬ ((60 : Int) < (N : Int)) := by omega
            have HT : Hid (N ≤ 60) := (by show N ≤ 60; omega)
            go_wp2
            go_meet
            exact ⟨_, rfl, rfl, fun _ => HT.out⟩
        case rest =>
        obtain ⟨t, rfl, rfl, HT⟩ := hcut
        obtain ⟨wo, hwo⟩ : ∃ wo, wo = wc := ⟨_, rfl⟩
        subst hwo
        cases t with
        | true =>
          go_wp2
          go_ret
          first | exact ⟨⟨100, rfl, HUN.out l⟩, hb⟩ | exact ⟨100, rfl, HUN.out l, hb⟩
        | false =>
          have HBO : Hid (Below w.heap.size w wo) := hb
          have HS : Hid (s.length = N) := hN
          have HN60 : Hid (N ≤ 60) := HT.out rfl
          clear hN hb HT
          go_wp2
          go_loopw [5, 8] (fun x5 x8 wr => ∃ (z : Int) (j : Nat), x5 = .int .i64 z ∧ x8 = .int .i64 j ∧ j ≤ N ∧ Below w.heap.size w wr ∧ Hid (0 ≤ z ∧ z ≤ limB (d + 1) ∧ (z < 100 → (∀ s ∈ l.take k, FewT d s) ∧ ∀ p ∈ s.take j, FewQ d p.2))) (fun _ x8 _ => N - (intOf x8).toNat)
          case atStart => exact ⟨z, 0, rfl, rfl, Nat.zero_le _, HBO.out, (by have := HZ.out; exact ⟨this.1, this.2.1, fun h => ⟨this.2.2 h, fun p hp => by simp at hp⟩⟩)⟩
          case round =>
            obtain ⟨z2, j, rfl, rfl, hj, hb, HZ2⟩ := hrel
            by_cases hjl : j < N
            · have hji : (j : Int) < (N : Int) := by omega
              by_cases hz2 : z2 < 100
              · obtain ⟨p, hp⟩ : ∃ p, s[j]? = some p := ⟨_, List.getElem?_eq_getElem (by rw [HS.out]; exact hjl)⟩
                have hxx := HX.out wr hb
                obtain ⟨b2, off2, vi, vk, va, vp, hq, hbn2, hd1, hd2, ⟨x0, x1, x2, x3, x4, x5⟩, r1, r2, r3, r4⟩ := PartsR.get hxx hp
                subst hq
                unfold maxLen at hd2
                rw [HS.out] at hd1
                obtain ⟨q1, cp1, rfl⟩ := r1.len
                obtain ⟨q2, cp2, rfl⟩ := r2.len
                obtain ⟨q3, cp3, rfl⟩ := r3.len
                obtain ⟨q4, cp4, rfl⟩ := r4.len
                have h4s := r4.short
                unfold maxLen at h4s
                obtain ⟨w3, hw3⟩ : ∃ w3, wr.alloc (.cells #[.string p.2.tag, .slice q1 p.2.ids.length cp1, .slice q2 p.2.classes.length cp2, .slice q3 p.2.attrs.length cp3, .slice q4 p.2.pss.length cp4] 45) = w3 := ⟨_, rfl⟩
                have b3 : Below wr.heap.size wr w3 := by rw [← hw3]; exact (Below.refl _ _).alloc (Nat.le_refl _) _
                have k3 : Blk w3 wr.heap.size 45 [.string p.2.tag, .slice q1 p.2.ids.length cp1, .slice q2 p.2.classes.length cp2, .slice q3 p.2.attrs.length cp3, .slice q4 p.2.pss.length cp4] := by rw [← hw3]; exact Blk.new wr 45 _
                have r4' := r4.below (hb := b3.mono (hb.size)) (T' := PsC (SelsR d w.heap.size w3)) (fun _ _ ⟨x, e, hx⟩ => ⟨x, e, hx.below d (b3.mono hb.size)⟩)
                have B3 := below_next hb b3
                have HR4 : Hid (RowT 4 (PsC (SelsR d w.heap.size w3)) w.heap.size w3 (.slice q4 p.2.pss.length cp4) p.2.pss) := r4'
                have HK3 : Hid (Blk w3 wr.heap.size 45 [.string p.2.tag, .slice q1 p.2.ids.length cp1, .slice q2 p.2.classes.length cp2, .slice q3 p.2.attrs.length cp3, .slice q4 p.2.pss.length cp4]) := k3
                obtain ⟨⟨c0, c1, c2, c3, c4⟩, _⟩ := blk5 k3
                have hj1 : (j : Int) + 1 ≤ 9223372036854775807 := by omega
                have hws := hb.size
                have HPJ : Hid (s[j]? = some p) := hp
                have hwz : IntKind.i64.wrap (z2 + 1) = z2 + 1 := by rw [IntKind.wrap_i64]; have := HZ2.out; omega
                have hwd : IntKind.i64.wrap (z2 + 1 + D) = z2 + 1 + D := by rw [IntKind.wrap_i64]; have := HZ2.out; omega
                clear hxx r1 r2 r3 r4 r4' k3 hp hb
                obtain ⟨n1, hn1⟩ : ∃ n, p.2.ids.length = n := ⟨_, rfl⟩
                obtain ⟨n2, hn2⟩ : ∃ n, p.2.classes.length = n := ⟨_, rfl⟩
                obtain ⟨n3, hn3⟩ : ∃ n, p.2.attrs.length = n := ⟨_, rfl⟩
                obtain ⟨n4, hn4⟩ : ∃ n, p.2.pss.length = n := ⟨_, rfl⟩
                rw [hn1] at hw3 HK3 c1 x2
                rw [hn2] at hw3 HK3 c2 x3
                rw [hn3] at hw3 HK3 c3 x4
                rw [hn4] at hw3 HK3 c4 HR4 x5 h4s
                have HFC : Hid (n1 ≤ 5 → n2 ≤ 5 → n3 ≤ 5 → n4 ≤ 5 → FewC p.2) := fun a b c e => ⟨by omega, by omega, by omega, by omega⟩
                clear hn1 hn2 hn3
                have HN4 : Hid (p.2.pss.length = n4) := hn4
                clear hn4
                go_upto_region 15 with fail
                first | rw [hw3] | skip
                clear hw3 x0 x1 x2 x3 x4 x5 b3
                go_cut [81] (fun x wx => ∃ t : Bool, x = .bool t ∧ wx = w3 ∧ Hid (t = false → FewC p.2))
                case first =>
                  clear HX HR4 HK3
                  have HTT : Hid (true = false → FewC p.2) := fun h => (by cases h)
                  by_cases h1 : (5 : Int) < (n1 : Int)
                  · go_wp2
                    go_meet
                    exact ⟨_, rfl, rfl, HTT⟩
                  · by_cases h2 : (5 : Int) < (n2 : Int)
                    · go_wp2
                      go_meet
                      exact ⟨_, rfl, rfl, HTT⟩
                    · by_cases h3 : (5 : Int) < (n3 : Int)
                      · go_wp2
                        go_meet
                        exact ⟨_, rfl, rfl, HTT⟩
                      · by_cases h4 : (5 : Int) < (n4 : Int)
                        · go_wp2
                          go_meet
                          exact ⟨_, rfl, rfl, HTT⟩
                        · have HTF : Hid (FewC p.2) := HFC.out (by omega) (by omega) (by omega) (by omega)
                          go_wp2
                          go_meet
                          exact ⟨_, rfl, rfl, fun _ => HTF.out⟩
                case rest =>
                obtain ⟨t, rfl, rfl, HT⟩ := hcut
                clear c0 c1 c2 c3 c4
                cases t with
                | true =>
                  go_wp2
                  go_ret
                  first | exact ⟨⟨100, rfl, HUN.out l⟩, B3⟩ | exact ⟨100, rfl, HUN.out l, B3⟩
                | false =>
                  obtain ⟨wi, hwi⟩ : ∃ wi, wi = wr := ⟨_, rfl⟩
                  subst hwi
                  have HFP : Hid (FewC p.2) := HT.out rfl
                  have HZP : Hid (0 ≤ z2 + 1 + D ∧ z2 + 1 + D ≤ limB (d + 1) ∧ (z2 + 1 + D < 100 → (∀ s ∈ l.take k, FewT d s) ∧ ∀ q ∈ s.take j, FewQ d q.2)) := by
                    have h1 := HZ2.out
                    have h2 := HLB.out
                    exact ⟨by omega, by omega, fun h => h1.2.2 (by omega)⟩
                  clear HT
                  go_wp2
                  clear hwz hwd
                  go_loopw [5, 10] (fun x5 x10 wr => ∃ (z : Int) (m : Nat), x5 = .int .i64 z ∧ x10 = .int .i64 m ∧ m ≤ n4 ∧ Below wc.heap.size wc wr ∧ Hid (0 ≤ z ∧ z ≤ limB (d + 1) ∧ (z < 100 → (∀ s ∈ l.take k, FewT d s) ∧ (∀ q ∈ s.take j, FewQ d q.2) ∧ ∀ u ∈ p.2.pss.take m, FewD d u.list))) (fun _ x10 _ => n4 - (intOf x10).toNat)
                  case atStart => exact ⟨_, 0, rfl, rfl, Nat.zero_le _, Below.refl _ _, ⟨HZP.out.1, HZP.out.2.1, fun h => ⟨(HZP.out.2.2 h).1, (HZP.out.2.2 h).2, fun u hu => by simp at hu⟩⟩⟩
                  case round =>
                    obtain ⟨z4, m, rfl, rfl, hm, hb4, HZ4⟩ := hrel
                    have HEND : Hid ((m < n4 → ¬ z4 < 100) → 0 ≤ z4 ∧ z4 ≤ limB (d + 1) ∧ (z4 < 100 → (∀ s ∈ l.take k, FewT d s) ∧ ∀ q ∈ s.take (j + 1), FewQ d q.2)) := by
                      have h1 := HZ4.out
                      refine fun hmn => ⟨h1.1, h1.2.1, fun h => ⟨(h1.2.2 h).1, fun q hq => ?_⟩⟩
                      rcases mem_take_more HPJ.out hq with hq | rfl
                      · exact (h1.2.2 h).2.1 q hq
                      · refine ⟨HFP.out, fun u hu => (h1.2.2 h).2.2 u ?_⟩
                        rw [List.take_of_length_le (by
                          rw [HN4.out]
                          rcases Nat.lt_or_ge m n4 with g | g
                          · exact absurd h (hmn g)
                          · exact g)]
                        exact hu
                    obtain ⟨⟨c0, c1, c2, c3, c4⟩, _⟩ := blk5 (HK3.out.below hb4 HK3.out.lt)
                    by_cases hml : m < n4
                    · have hmi : (m : Int) < (n4 : Int) := by omega
                      by_cases hz4 : z4 < 100
                      · obtain ⟨u, hu⟩ : ∃ u, p.2.pss[m]? = some u := ⟨_, List.getElem?_eq_getElem (by rw [HN4.out]; exact hml)⟩
                        obtain ⟨b5, off5, y, hq5, hbn5, he1, he2, hQ, ⟨u0, u1, u2, u3⟩⟩ := pss_get HR4.out hu
                        subst hq5
                        unfold maxLen at he2
                        rw [HN4.out] at he1
                        have hwc := B3.size
                        have v3 := (hb4.cell (p := ⟨b5, off5 + m * 4 + 3, none⟩) (by show b5 < _; omega)).trans u3
                        obtain ⟨qy, my, cy, rfl⟩ := hQ.form
                        have hcall := HD.out (.slice qy my cy) u.list wr ((hQ.mono d hwc).next hb4)
                        have hm1 : (m : Int) + 1 ≤ 9223372036854775807 := by omega
                        have HUM : Hid (p.2.pss[m]? = some u) := hu
                        clear hQ u0 u1 u2 u3 hu
                        go_wp2_with fail
                        refine hcall.mono ?_
                        clear hcall
                        rintro e w5 ⟨zr, rfl, HZR, b5'⟩
                        have h3r : IntKind.i64.wrap (3 * zr) = 3 * zr := by rw [IntKind.wrap_i64]; have := HZR.out; have := HLB.out; omega
                        have h4r : IntKind.i64.wrap (z4 + 3 * zr) = z4 + 3 * zr := by rw [IntKind.wrap_i64]; have := HZR.out; have := HLB.out; have := HZ4.out; omega
                        have HZ5 : Hid (0 ≤ z4 + 3 * zr ∧ z4 + 3 * zr ≤ limB (d + 1) ∧ (z4 + 3 * zr < 100 → (∀ s ∈ l.take k, FewT d s) ∧ (∀ q ∈ s.take j, FewQ d q.2) ∧ ∀ u ∈ p.2.pss.take (m + 1), FewD d u.list)) := by
                          have h1 := HZ4.out
                          have h2 := HLB.out
                          have h3 := HZR.out
                          refine ⟨by omega, by omega, fun h => ⟨(h1.2.2 (by omega)).1, (h1.2.2 (by omega)).2.1, fun u' hu' => ?_⟩⟩
                          rcases mem_take_more HUM.out hu' with hu' | rfl
                          · exact (h1.2.2 (by omega)).2.2 u' hu'
                          · exact h3.2.2 (by omega)
                        have hB5 := below_next hb4 b5'
                        clear c0 c1 c2 c3 c4 v3 hb4 b5'
                        go_wp2
                        go_roundw
                        case rel => exact ⟨_, m + 1, rfl, by go_num, by omega, hB5, HZ5⟩
                        case measure => simp [intOf]; omega
                      · have hB5 := below_next B3 hb4
                        go_wp2
                        go_roundw
                        case rel => exact ⟨z4, j + 1, rfl, by go_num, by omega, hB5, HEND.out (fun _ => hz4)⟩
                        case measure => simp [intOf]; omega
                    · have hmi : ¬ (m : Int) < (n4 : Int) := by omega
                      have hB5 := below_next B3 hb4
                      go_wp2
                      go_roundw
                      case rel => exact ⟨z4, j + 1, rfl, by go_num, by omega, hB5, HEND.out (fun g => absurd g hml)⟩
                      case measure => simp [intOf]; omega
              · have HE2 : Hid (0 ≤ z2 ∧ z2 ≤ limB (d + 1) ∧ (z2 < 100 → ∀ s ∈ l.take (k + 1), FewT d s)) := by
                  have h1 := HZ2.out
                  exact ⟨h1.1, h1.2.1, fun h => absurd h hz2⟩
                go_wp2
                go_roundw
                case rel => exact ⟨z2, k + 1, rfl, by go_num, by omega, hb, HE2⟩
                case measure => simp [intOf]; omega
            · have hji : ¬ (j : Int) < (N : Int) := by omega
              have HE2 : Hid (0 ≤ z2 ∧ z2 ≤ limB (d + 1) ∧ (z2 < 100 → ∀ s ∈ l.take (k + 1), FewT d s)) := by
                have h1 := HZ2.out
                refine ⟨h1.1, h1.2.1, fun h s' hs' => ?_⟩
                rcases mem_take_more HSK.out hs' with hs' | rfl
                · exact (h1.2.2 h).1 s' hs'
                · have h2 := (h1.2.2 h).2
                  rw [List.take_of_length_le (by rw [HS.out]; omega)] at h2
                  exact ⟨by rw [HS.out]; exact HN60.out, h2⟩
              go_wp2
              go_roundw
              case rel => exact ⟨z2, k + 1, rfl, by go_num, by omega, hb, HE2⟩
              case measure => simp [intOf]; omega
      · have HF : Hid (0 ≤ z ∧ z ≤ limB (d + 1) ∧ (z < 100 → FewD (d + 1) l)) := by
          have h1 := HZ.out
          exact ⟨h1.1, h1.2.1, fun h => absurd h hz⟩
        go_wp2
        go_ret
        first | exact ⟨⟨z, rfl, HF⟩, hb⟩ | exact ⟨z, rfl, HF, hb⟩
    · have hki : ¬ (k : Int) < (l.length : Int) := by omega
      have HF : Hid (0 ≤ z ∧ z ≤ limB (d + 1) ∧ (z < 100 → FewD (d + 1) l)) := by
        have h1 := HZ.out
        rw [List.take_of_length_le (by omega)] at h1
        exact h1
      go_wp2
      go_ret
      first | exact ⟨⟨z, rfl, HF⟩, hb⟩ | exact ⟨z, rfl, HF, hb⟩

theorem dear_all : ∀ d, d ≤ 11 → DearOK d
  | 0, _ => dear_zero
  | d + 1, h => dear_succ d (by omega) (dear_all d (by omega))
set_option maxRecDepth 100000 in
theorem Dear_deep (v : Value) (l : List Sel) (w : World) (hv : SelsR 11 w.heap.size w v l) :
    Calls Tryz.prog 10 #[v] w fun e w' => ∃ t : Bool, e = .returned (.bool t) ∧ Hid (t = false → FewD 11 l) ∧ Below w.heap.size w w' := by
  have h := dear_all 11 (Nat.le_refl _) v l w hv
  rw [show (11 : Int) - ((11 : Nat) : Int) = 0 from rfl] at h
  clear hv
  go_enter Tryz.func10, Tryz.ntmps10
  go_wp2_with fail
  refine h.mono ?_
  clear h
  rintro e w1 ⟨z, rfl, HZ, b1⟩
  have HT : Hid (decide (40 < z) = false → FewD 11 l) := fun h => HZ.out.2.2 (by have := of_decide_eq_false h; omega)
  go_wp2
  go_ret
  first | exact ⟨⟨_, rfl, HT⟩, b1⟩ | exact ⟨_, rfl, HT, b1⟩
theorem Dear_few (v : Value) (l : List Sel) (w : World) (hv : SelsR 11 w.heap.size w v l) :
    Calls Tryz.prog 10 #[v] w fun e w' => ∃ t : Bool, e = .returned (.bool t) ∧ Hid (t = false → FewL l) ∧ Below w.heap.size w w' :=
  Calls.mono (Dear_deep v l w hv) (fun _ _ ⟨t, h1, h2, h3⟩ => ⟨t, h1, fun h => (h2.out h).few, h3⟩)
theorem Dear_any (v : Value) (l : List Sel) (w : World) (hv : SelsR 11 w.heap.size w v l) :
    Calls Tryz.prog 10 #[v] w fun e w' => ∃ t : Bool, e = .returned (.bool t) ∧ Below w.heap.size w w' :=
  Calls.mono (Dear_few v l w hv) (fun _ _ ⟨t, h1, _, h2⟩ => ⟨t, h1, h2⟩)

end Go.Proofs.YtcicppadjipndaaGreat.Wg

/- Selectors and rules that came in as arguments: what the walk is told of them. -/
namespace Go.Proofs.YtcicppadjipndaaGreat.Wg
open Go.Proofs.YtcicppadjipndaaGreat.Tre
open Go Go.RowKit Go.ChangeShapes Go.WideShapes Go.ChangeAt Sl

set_option maxRecDepth 100000 in
theorem weights_all {H : Type} {P : Program} {e : TypeId} : ∀ {ds : List (DataW H)} {d : DataW H}, d ∈ ds → ∀ n ∈ d.weights P e, n ∈ DataW.weightsAll P e ds
  | x :: ds, d, h, n, hn => by
    rw [DataW.weightsAll, List.mem_append]
    rcases List.mem_cons.1 h with rfl | h
    · exact .inl hn
    · exact .inr (weights_all h n hn)
theorem addr_add' (bk off j : Nat) : (⟨bk, off, none⟩ : Addr).add j = ⟨bk, off + j, none⟩ := by
  unfold Addr.add
  split
  · simp_all
  · rfl

set_option maxRecDepth 100000 in
/-- A slice of things, each opened by itself. -/
theorem row_in {H : Type} {enc : TypeId × Value → H} {W : World} {base fuel : Nat} {v : Value} {x : DataW H × List MemPlace} {t e : TypeId} {α : Type} [Inhabited α] (sz : Nat) (hz : 0 < sz) (T : List Value → α → Prop) (Ok : α → Prop)
    (ht : Tryz.prog.underlying t = some (.slice e)) (hcells : Tryz.prog.cellsOf e = sz) (h : DataW.trod enc Tryz.prog W base (fun _ => true) true fuel t [v] = some x) (hw : ∀ n ∈ x.1.weights Tryz.prog t, n ≤ reachBytes)
    (each : ∀ n cs y, DataW.trod enc Tryz.prog W base (fun _ => true) true n e cs = some y → (∀ m ∈ y.1.weights Tryz.prog e, m ≤ reachBytes) → cs.length = sz → ∃ a : α, T cs a ∧ Ok a) :
    ∃ l : List α, RowT sz T W.heap.size W v l ∧ (∀ a ∈ l, Ok a) ∧ l.length * Tryz.prog.bytesOf e ≤ reachBytes := by
  rcases Deep.open_slice ht h with ⟨hcs, _⟩ | ⟨x, len, cap, m, n, D, Pl, hcs, _, hl, hm, hmm, rfl, hel⟩
  · cases hcs
    exact ⟨[], .inl ⟨rfl, _, _, rfl⟩, fun _ h => (by cases h), by simp⟩
  · cases hcs
    simp only [if_true] at hmm
    subst hmm
    rw [hcells] at hel
    simp only [DataW.weights, ht] at hw
    have hD : ∀ i, i < len → ∀ k ∈ (D i).weights Tryz.prog e, k ≤ reachBytes := fun i hi k hk => hw k (List.mem_cons_of_mem _ (List.mem_append_left _ (weights_all (List.mem_map.2 ⟨i, List.mem_range.2 hi, rfl⟩) k hk)))
    have one : ∀ i, i < len → ∃ a : α × List Value, Ok a.1 ∧ T a.2 a.1 ∧ a.2.length = sz ∧ ∀ j u, a.2[j]? = some u → W.cell? ((x.add (i * sz)).add j) = some u := fun i hi => by
      obtain ⟨cs', hcs, htr⟩ := hel i (by omega)
      obtain ⟨_, hcl, hcc⟩ := World.cells?_some hcs
      obtain ⟨a, ha, hg⟩ := each n cs' _ htr (hD i hi) hcl
      refine ⟨(a, cs'), hg, ha, hcl, fun j u hj => ?_⟩
      have hjl : j < sz := by rw [← hcl]; exact (List.getElem?_eq_some_iff.1 hj).1
      rw [hcc j hjl, hj]
    obtain ⟨F, hF⟩ := Deep.choose_lt one
    have hbytes : len * Tryz.prog.bytesOf e ≤ reachBytes := by
      have h1 := hw _ (List.mem_cons_self ..)
      simp only [List.length_map, List.length_range] at h1
      exact Nat.le_trans (Nat.mul_le_mul_right _ (Nat.le_add_right _ _)) h1
    refine ⟨(List.range len).map (fun i => (F i).1), ?_, fun a ha => ?_, by simpa using hbytes⟩
    · by_cases h0 : len = 0
      · subst h0
        exact .inl ⟨rfl, _, _, rfl⟩
      · obtain ⟨b, off, spot⟩ := x
        obtain ⟨_, _, hf0, hF0⟩ := hF 0 (by omega)
        have hex : ∃ u, (F 0).2[0]? = some u := ⟨_, List.getElem?_eq_getElem (by rw [hf0]; exact hz)⟩
        obtain ⟨u0, hu0⟩ := hex
        have hc0 := hF0 0 u0 hu0
        have hspot : spot = none := by simpa [Addr.add] using World.cell?_spot hc0
        subst hspot
        have key : ∀ i j, (((⟨b, off, none⟩ : Addr).add (i * sz)).add j) = ⟨b, off + i * sz + j, none⟩ := fun i j => by rw [addr_add', addr_add']
        refine .inr ⟨b, off, _, by simp, by simpa using hl, hm, World.block_lt_of_cell? W ⟨b, off, none⟩ (by rw [key] at hc0; simpa using hc0), fun j a hj => ?_⟩
        rw [List.getElem?_map] at hj
        obtain ⟨k, hk, rfl⟩ := Option.map_eq_some_iff.1 hj
        obtain ⟨h1, h2⟩ := List.getElem?_eq_some_iff.1 hk
        simp at h1 h2
        subst h2
        obtain ⟨_, g2, g3, g4⟩ := hF j (by omega)
        refine ⟨(F j).2, g3, g2, fun i u hu => ?_⟩
        have := g4 i u hu
        rwa [key] at this
    · obtain ⟨i, hi, rfl⟩ := List.mem_map.1 ha
      exact (hF i (List.mem_range.1 hi)).1

def NsOk (l : List ByteArray) : Prop := ∀ s ∈ l, s.size ≤ 281474976710656
set_option maxRecDepth 100000 in
theorem cells_str : Tryz.prog.cellsOf 9 = 1 := by kernel_rfl
set_option maxRecDepth 100000 in
theorem cells_attr : Tryz.prog.cellsOf 150 = 3 := by kernel_rfl
set_option maxRecDepth 100000 in
theorem cells_ps : Tryz.prog.cellsOf 40 = 4 := by kernel_rfl
set_option maxRecDepth 100000 in
theorem cells_part : Tryz.prog.cellsOf 48 = 6 := by kernel_rfl
set_option maxRecDepth 100000 in
theorem cells_comp : Tryz.prog.cellsOf 45 = 5 := by kernel_rfl
set_option maxRecDepth 100000 in
theorem cells_sel : Tryz.prog.cellsOf 36 = 1 := by kernel_rfl
set_option maxRecDepth 100000 in
theorem short_lit {H : Type} {s : ByteArray} (hw : ∀ m ∈ (DataW.lit (.string s.data.toList) : DataW H).weights Tryz.prog 9, m ≤ reachBytes) : s.size ≤ 281474976710656 := short_string (hw _ (by simp [DataW.weights]))
set_option maxRecDepth 100000 in
theorem names_in {H : Type} {enc : TypeId × Value → H} {W : World} {base fuel : Nat} {v : Value} {x : DataW H × List MemPlace} (h : DataW.trod enc Tryz.prog W base (fun _ => true) true fuel 42 [v] = some x) (hw : ∀ n ∈ x.1.weights Tryz.prog 42, n ≤ reachBytes) :
    ∃ l : List ByteArray, RowT 1 StrC W.heap.size W v l ∧ NsOk l := by
  have : Inhabited ByteArray := ⟨⟨#[]⟩⟩
  obtain ⟨l, h1, h2, _⟩ := row_in 1 (by decide) StrC (fun s => s.size ≤ 281474976710656) Tryz.underlying42 cells_str h hw (fun n cs y hy hwy hl => by
    obtain ⟨s, rfl, hys, _⟩ := DataW.trod_string Tryz.underlying9 hy
    rw [hys] at hwy
    exact ⟨s, rfl, short_lit hwy⟩)
  exact ⟨l, h1, h2⟩
set_option maxRecDepth 100000 in
theorem attrs_in {H : Type} {enc : TypeId × Value → H} {W : World} {base fuel : Nat} {v : Value} {x : DataW H × List MemPlace} (h : DataW.trod enc Tryz.prog W base (fun _ => true) true fuel 43 [v] = some x) (hw : ∀ n ∈ x.1.weights Tryz.prog 43, n ≤ reachBytes) :
    ∃ l : List At, RowT 3 AtC W.heap.size W v l ∧ ∀ a ∈ l, a.name.size ≤ 281474976710656 ∧ a.text.size ≤ 281474976710656 ∧ (Lit.int .i64 a.op).wf = true := by
  have : Inhabited At := ⟨⟨⟨#[]⟩, 0, ⟨#[]⟩⟩⟩
  obtain ⟨l, h1, h2, _⟩ := row_in 3 (by decide) AtC (fun a : At => a.name.size ≤ 281474976710656 ∧ a.text.size ≤ 281474976710656 ∧ (Lit.int .i64 a.op).wf = true) Tryz.underlying43 cells_attr h hw (fun n cs y hy hwy hl => by
    obtain ⟨xs, n', _, rfl, _, hxl, hf⟩ := DataW.trod_struct Tryz.underlying150 hy
    match cs, hl with
    | [c0, c1, c2], _ =>
      match xs, hxl with
      | [y0, y1, y2], _ =>
        have f0 := hf 0 _ rfl
        have f1 := hf 1 _ rfl
        have f2 := hf 2 _ rfl
        simp only [List.getElem?_cons_zero, List.getElem?_cons_succ] at f0 f1 f2
        obtain ⟨k0, g0, e0, _⟩ := DataW.trod_string Tryz.underlying9 f0
        obtain ⟨k1, g1, e1, w1⟩ := DataW.trod_int Tryz.underlying3 f1
        obtain ⟨k2, g2, e2, _⟩ := DataW.trod_string Tryz.underlying9 f2
        cases g0
        cases g1
        cases g2
        simp only [DataW.weights, Tryz.underlying150] at hwy
        refine ⟨⟨k0, k1, k2⟩, rfl, short_lit (H := H) (fun m hm => hwy m (DataW.weights_mem_each (j := 0) rfl rfl m ?_)), short_lit (H := H) (fun m hm => hwy m (DataW.weights_mem_each (j := 2) rfl rfl m ?_)), w1⟩
        · rw [e0]; exact hm
        · rw [e2]; exact hm)
  exact ⟨l, h1, h2⟩
/-- A compound's names are in reach. -/
def CpOk (c : Cp) : Prop := c.tag.size ≤ 281474976710656 ∧ NsOk c.ids ∧ NsOk c.classes ∧ ∀ a ∈ c.attrs, a.name.size ≤ 281474976710656 ∧ a.text.size ≤ 281474976710656 ∧ (Lit.int .i64 a.op).wf = true
def SlOk (s : Sel) : Prop := ∀ p ∈ s, CpOk p.2
def SelsIn (d : Nat) : Prop := ∀ {H : Type} {enc : TypeId × Value → H} {W : World} {base fuel : Nat} {v : Value} {x : DataW H × List MemPlace}, DataW.trod enc Tryz.prog W base (fun _ => true) true fuel 28 [v] = some x → (∀ n ∈ x.1.weights Tryz.prog 28, n ≤ reachBytes) →
    ∃ l : List Sel, SelsR d W.heap.size W v l ∧ ∀ s ∈ l, SlOk s
set_option maxRecDepth 100000 in
theorem comp_in (d : Nat) (HS : SelsIn d) {H : Type} {enc : TypeId × Value → H} {W : World} {base n : Nat} {cs : List Value} {y : DataW H × List MemPlace} (hy : DataW.trod enc Tryz.prog W base (fun _ => true) true n 45 cs = some y) (hwy : ∀ m ∈ y.1.weights Tryz.prog 45, m ≤ reachBytes) :
    ∃ c : Cp, CpC (SelsR d W.heap.size W) W.heap.size W cs c ∧ CpOk c := by
  have : Inhabited Ps := ⟨.mk 0 0 0 []⟩
  obtain ⟨xs, n', _, rfl, hl, hxl, hf⟩ := DataW.trod_struct Tryz.underlying45 hy
  rw [cells_comp] at hl
  match cs, hl with
  | [c0, c1, c2, c3, c4], _ =>
    match xs, hxl with
    | [y0, y1, y2, y3, y4], _ =>
      have f0 := hf 0 _ rfl
      have f1 := hf 1 _ rfl
      have f2 := hf 2 _ rfl
      have f3 := hf 3 _ rfl
      have f4 := hf 4 _ rfl
      simp only [List.getElem?_cons_zero, List.getElem?_cons_succ] at f0 f1 f2 f3 f4
      obtain ⟨k0, g0, e0, _⟩ := DataW.trod_string Tryz.underlying9 f0
      simp only [DataW.weights, Tryz.underlying45] at hwy
      have f1' : DataW.trod enc Tryz.prog W base (fun _ => true) true n' 42 [c1] = some y1 := f1
      have f2' : DataW.trod enc Tryz.prog W base (fun _ => true) true n' 42 [c2] = some y2 := f2
      have f3' : DataW.trod enc Tryz.prog W base (fun _ => true) true n' 43 [c3] = some y3 := f3
      have f4' : DataW.trod enc Tryz.prog W base (fun _ => true) true n' 41 [c4] = some y4 := f4
      obtain ⟨l1, a1, b1⟩ := names_in f1' (fun m hm => hwy m (DataW.weights_mem_each (j := 1) rfl rfl m hm))
      obtain ⟨l2, a2, b2⟩ := names_in f2' (fun m hm => hwy m (DataW.weights_mem_each (j := 2) rfl rfl m hm))
      obtain ⟨l3, a3, b3⟩ := attrs_in f3' (fun m hm => hwy m (DataW.weights_mem_each (j := 3) rfl rfl m hm))
      obtain ⟨l4, a4, _, _⟩ := row_in 4 (by decide) (PsC (SelsR d W.heap.size W)) (fun _ => True) Tryz.underlying41 cells_ps f4' (fun m hm => hwy m (DataW.weights_mem_each (j := 4) rfl rfl m hm)) (fun n cs y hy hwy hl => by
        obtain ⟨xs, n', _, rfl, _, hxl, hf⟩ := DataW.trod_struct Tryz.underlying40 hy
        match cs, hl with
        | [p0, p1, p2, p3], _ =>
          match xs, hxl with
          | [z0, z1, z2, z3], _ =>
            have f0 := hf 0 _ rfl
            have f1 := hf 1 _ rfl
            have f2 := hf 2 _ rfl
            have f3 := hf 3 _ rfl
            simp only [List.getElem?_cons_zero, List.getElem?_cons_succ] at f0 f1 f2 f3
            obtain ⟨k0, g0, _, _⟩ := DataW.trod_int Tryz.underlying3 f0
            obtain ⟨k1, g1, _, _⟩ := DataW.trod_int Tryz.underlying3 f1
            obtain ⟨k2, g2, _, _⟩ := DataW.trod_int Tryz.underlying3 f2
            have f3' : DataW.trod enc Tryz.prog W base (fun _ => true) true n' 28 [p3] = some z3 := f3
            simp only [DataW.weights, Tryz.underlying40] at hwy
            obtain ⟨ls, h1, _⟩ := HS f3' (fun m hm => hwy m (DataW.weights_mem_each (j := 3) rfl rfl m hm))
            cases g0
            cases g1
            cases g2
            exact ⟨.mk k0 k1 k2 ls, ⟨p3, rfl, h1⟩, trivial⟩)
      cases g0
      refine ⟨.mk k0 l1 l2 l3 l4, ⟨c1, c2, c3, c4, rfl, a1, a2, a3, a4⟩, short_lit (H := H) (fun m hm => hwy m (DataW.weights_mem_each (j := 0) rfl rfl m ?_)), b1, b2, b3⟩
      rw [e0]; exact hm
set_option maxRecDepth 100000 in
theorem sels_in (d : Nat) : SelsIn d := by
  induction d with
  | zero =>
    intro H enc W base fuel v x h hw
    rcases Deep.open_slice Tryz.underlying28 h with ⟨hcs, _⟩ | ⟨x, len, cap, m, n, D, Pl, hcs, _⟩
    · cases hcs
      exact ⟨[], ⟨rfl, _, _, _, rfl⟩, fun _ h => by cases h⟩
    · cases hcs
      exact ⟨[], ⟨rfl, _, _, _, rfl⟩, fun _ h => by cases h⟩
  | succ d ih =>
    intro H enc W base fuel v x h hw
    have : Inhabited Sel := ⟨[]⟩
    have : Inhabited Pt := ⟨(0, .mk ⟨#[]⟩ [] [] [] [])⟩
    obtain ⟨l, h1, h2, _⟩ := row_in 1 (by decide) (fun c s => ∃ x, c = [x] ∧ PtsR (SelsR d W.heap.size W) W.heap.size W x s) SlOk Tryz.underlying28 cells_sel h hw (fun n cs y hy hwy hl => by
      obtain ⟨xs, n', _, rfl, _, hxl, hf⟩ := DataW.trod_struct Tryz.underlying36 hy
      match cs, hl with
      | [c0], _ =>
        match xs, hxl with
        | [y0], _ =>
          have f0 := hf 0 _ rfl
          simp only [List.getElem?_cons_zero] at f0
          have f0' : DataW.trod enc Tryz.prog W base (fun _ => true) true n' 34 [c0] = some y0 := f0
          simp only [DataW.weights, Tryz.underlying36] at hwy
          obtain ⟨ps, g1, g2, _⟩ := row_in 6 (by decide) (PtC (SelsR d W.heap.size W) W.heap.size W) (fun p : Pt => CpOk p.2) Tryz.underlying34 cells_part f0' (fun m hm => hwy m (DataW.weights_mem_each (j := 0) rfl rfl m hm)) (fun n cs y hy hwy hl => by
            obtain ⟨xs, n', _, rfl, _, hxl, hf⟩ := DataW.trod_struct Tryz.underlying48 hy
            match cs, hl with
            | [c0, c1, c2, c3, c4, c5], _ =>
              match xs, hxl with
              | [y0, y1], _ =>
                have f0 := hf 0 _ rfl
                have f1 := hf 1 _ rfl
                simp only [List.getElem?_cons_zero, List.getElem?_cons_succ] at f0 f1
                obtain ⟨k0, g0, _, _⟩ := DataW.trod_int Tryz.underlying3 f0
                have f1' : DataW.trod enc Tryz.prog W base (fun _ => true) true n' 45 [c1, c2, c3, c4, c5] = some y1 := f1
                simp only [DataW.weights, Tryz.underlying48] at hwy
                obtain ⟨c, h1, h2⟩ := comp_in d ih f1' (fun m hm => hwy m (DataW.weights_mem_each (j := 1) rfl rfl m hm))
                cases g0
                exact ⟨(k0, c), ⟨_, rfl, h1⟩, h2⟩)
          exact ⟨ps, ⟨c0, rfl, g1⟩, g2⟩)
    exact ⟨l, h1, h2⟩

/-- One selector as a value: its parts, ten lists deep. -/
def SelAt (s : Sel) (W : World) (v : Value) : Prop := ∃ x, v = .agg #[x] ∧ PartsR 10 W.heap.size W x s
set_option maxRecDepth 100000 in
theorem sel_in {H : Type} {enc : TypeId × Value → H} {W : World} {fuel : Nat} {cs : Array Value} {y : DataW H × List MemPlace}
    (hy : DataW.trod enc Tryz.prog W 0 (fun _ => true) true fuel 36 cs.toList = some y) (hw : ∀ n ∈ y.1.weights Tryz.prog 36, n ≤ reachBytes) :
    ∃ s : Sel, SelAt s W (.agg cs) ∧ SlOk s := by
  have : Inhabited Pt := ⟨(0, .mk ⟨#[]⟩ [] [] [] [])⟩
  obtain ⟨xs, n', _, rfl, hl, hxl, hf⟩ := DataW.trod_struct Tryz.underlying36 hy
  rw [cells_sel] at hl
  have hcs : ∃ c0, cs = #[c0] := by
    obtain ⟨l⟩ := cs
    match l, hl with
    | [c0], _ => exact ⟨_, rfl⟩
  obtain ⟨c0, rfl⟩ := hcs
  match xs, hxl with
  | [y0], _ =>
    have f0 := hf 0 _ rfl
    simp only [List.getElem?_cons_zero] at f0
    have f0' : DataW.trod enc Tryz.prog W 0 (fun _ => true) true n' 34 [c0] = some y0 := f0
    simp only [DataW.weights, Tryz.underlying36] at hw
    obtain ⟨ps, g1, g2, _⟩ := row_in 6 (by decide) (PtC (SelsR 10 W.heap.size W) W.heap.size W) (fun p : Pt => CpOk p.2) Tryz.underlying34 cells_part f0' (fun m hm => hw m (DataW.weights_mem_each (j := 0) rfl rfl m hm)) (fun n cs y hy hwy hl => by
      obtain ⟨xs, n', _, rfl, _, hxl, hf⟩ := DataW.trod_struct Tryz.underlying48 hy
      match cs, hl with
      | [c0, c1, c2, c3, c4, c5], _ =>
        match xs, hxl with
        | [y0, y1], _ =>
          have f0 := hf 0 _ rfl
          have f1 := hf 1 _ rfl
          simp only [List.getElem?_cons_zero, List.getElem?_cons_succ] at f0 f1
          obtain ⟨k0, g0, _, _⟩ := DataW.trod_int Tryz.underlying3 f0
          have f1' : DataW.trod enc Tryz.prog W 0 (fun _ => true) true n' 45 [c1, c2, c3, c4, c5] = some y1 := f1
          simp only [DataW.weights, Tryz.underlying48] at hwy
          obtain ⟨c, h1, h2⟩ := comp_in 10 (sels_in 10) f1' (fun m hm => hwy m (DataW.weights_mem_each (j := 1) rfl rfl m hm))
          cases g0
          exact ⟨(k0, c), ⟨_, rfl, h1⟩, h2⟩)
    exact ⟨ps, ⟨c0, rfl, g1⟩, g2⟩
set_option maxRecDepth 100000 in
theorem selAt_of_reads {H : Type} {enc : TypeId × Value → H} {W : World} {base : Nat} {v : Value} {d : DataW H} {p : List MemPlace}
    (h : DataW.Trod enc Tryz.prog W 0 (fun _ => true) true 36 v d p) (hv : Value.okWide Tryz.prog W .any base 36 v) (hw : ∀ n ∈ d.weights Tryz.prog 36, n ≤ reachBytes) :
    ∃ s : Sel, SelAt s W v ∧ SlOk s := by
  obtain ⟨cs, rfl, _⟩ := okWide_struct Tryz.underlying36 hv
  obtain ⟨fuel, hf⟩ := h
  exact sel_in (y := (d, p)) hf hw

end Go.Proofs.YtcicppadjipndaaGreat.Wg
namespace Go.Proofs.YtcicppadjipndaaGreat
open Go.Proofs.YtcicppadjipndaaGreat.Tre
open Go Go.RowKit Go.ChangeShapes Go.WideShapes Go.ChangeAt Sl Wg
theorem selsAt_of_reads {H : Type} {enc : TypeId × Value → H} {W : World} {a : Option Addr} {len cap : Nat} {d : DataW H} {p : List MemPlace}
    (h : DataW.Trod enc Tryz.prog W 0 (fun _ => true) true 28 (.slice a len cap) d p) (hw : ∀ n ∈ d.weights Tryz.prog 28, n ≤ reachBytes) :
    ∃ l : List Sel, SelsR 11 W.heap.size W (.slice a len cap) l ∧ ∀ s ∈ l, SlOk s := by
  obtain ⟨fuel, hf⟩ := h
  obtain ⟨l, h1, h2⟩ := sels_in 11 (x := (d, p)) hf hw
  exact ⟨l, h1, h2⟩
end Go.Proofs.YtcicppadjipndaaGreat
