/- For every slice of nodes and every number of an element: the law tapestrierlaw9.DomKeeps returns true and leaves its arguments as they were; no condition. -/
import Derived.Test.YtopmahiapejkgaaDmKeep
import Derived.Test.YtopmahiapejkgaaDmBig
import Derived.Test.YtopmahiapejkgaaDmRefN
import Derived.Test.YtopmahiapejkgaaDmGb
import Derived.Test.YtopmahiapejkgaaDmAll
import Derived.Test.YtopmahiapejkgaaDmSame
import Derived.Test.YtopmahiapejkgaaDmRefL
import Derived.Test.YtopmahiapejkgaaDmRefC
import Derived.Test.YtopmahiapejkgaaDmArgs
import Derived.Test.YtopmahiapejkgaaRgn
import Derived.Test.YtopmahiapejkgaaRows
namespace Go.Proofs.Ytopmahiapejkgaa
open Go Go.ChangeShapes Go.WideShapes Go.ChangeAt Go.RowKit Dm
open Go.ChangeMaps (open_string shut_string)

theorem low_ok {n : Nd} (h : NdOk n) : NdOk (lowN n) := by
  refine ⟨by show (lowS n.tag).size ≤ _; rw [lowS_size]; exact h.tag, h.id, h.cls, fun a ha => ?_, h.ncls, by show (n.ats.map lowA).length * 32 ≤ _; rw [List.length_map]; exact h.nats⟩
  obtain ⟨b, hb, rfl⟩ := List.mem_map.1 (show a ∈ n.ats.map lowA from ha)
  have := h.ats b hb
  exact ⟨by show (lowS b.1).size ≤ _; rw [lowS_size]; exact this.1, this.2⟩
theorem addV_nds {es es' : List El} {n : Nd} (h : addV es n = .ok es') (he : ∀ e ∈ es, NdOk e.nd) (hn : NdOk n) : ∀ e ∈ es', NdOk e.nd := by
  unfold addV at h
  split at h
  · split at h
    · cases h
      intro e hm
      obtain rfl := List.mem_singleton.1 hm
      exact low_ok hn
    · cases h
  · split at h
    · rename_i hp
      split at h
      · cases h
      · cases h
        intro e hm
        rcases List.mem_append.1 hm with hm | hm
        · unfold growV at hm
          rcases List.mem_or_eq_of_mem_set hm with hm | rfl
          · exact he e hm
          · show NdOk (es.getD n.parent.toNat zeroEl).nd
            have hlt : n.parent.toNat < es.length := by omega
            rw [show es.getD n.parent.toNat zeroEl = es[n.parent.toNat] by simp [List.getD, hlt]]
            exact he _ (List.getElem_mem hlt)
        · obtain rfl := List.mem_singleton.1 hm
          exact low_ok hn
    · cases h
theorem newF_nds : ∀ (l : List Nd) (es es' : List El), newF es l = .ok es' → (∀ e ∈ es, NdOk e.nd) → (∀ n ∈ l, NdOk n) → ∀ e ∈ es', NdOk e.nd
  | [], es, es', h, he, _ => by cases h; exact he
  | n :: l, es, es', h, he, hl => by
    unfold newF at h
    cases ha : addV es n with
    | error x => rw [ha] at h; cases h
    | ok e2 =>
      rw [ha] at h
      exact newF_nds l e2 es' h (addV_nds ha he (hl n (List.mem_cons_self ..))) (fun m hm => hl m (List.mem_cons_of_mem _ hm))
theorem newV_nds {l : List Nd} {es : List El} (h : newV l = .ok es) (hl : ∀ n ∈ l, NdOk n) : ∀ e ∈ es, NdOk e.nd := by
  unfold newV at h
  split at h
  · cases h
  · exact newF_nds l [] es h (fun _ h => by cases h) hl
theorem nds_ok {l m : List Nv} (h : m.map Nv.nd = l.map Nv.nd) (hN : ∀ n ∈ l, NdOk n.nd) : ∀ n ∈ m, NdOk n.nd := fun n hn => by
  have h1 : n.nd ∈ m.map Nv.nd := List.mem_map_of_mem hn
  rw [h] at h1
  obtain ⟨x, hx, e⟩ := List.mem_map.1 h1
  rw [← e]
  exact hN x hx

set_option maxRecDepth 100000 in
set_option maxHeartbeats 16000000 in
theorem domKeeps_walk (w : World) (v : Value) (l : List Nv) (hv : NodesAt w.heap.size w v l) (hN : ∀ n ∈ l, NdOk n.nd) (_hl : l.length * 88 ≤ 140737488351232) (e : Int) (_he : (Lit.int .i64 e).wf = true) :
    Calls Try.prog 3 #[v, .int .i64 e] w fun x w' => x = .returned (.bool true) ∧ Below w.heap.size w w' := by
  have h0 := alive_any w
  obtain ⟨i0, hi, hz0, hz1, hz2⟩ := info_parts infoStr
  obtain ⟨j0, hj, hx0, hx1, hx2⟩ := info_parts infoPair
  obtain ⟨n0, hn, hy0, hy1, hy2⟩ := info_parts infoNode
  obtain ⟨p, cap, rfl⟩ := hv.row.len
  have HV : Hid (NodesAt w.heap.size w (.slice p l.length cap) l) := hv
  have HN : Hid (∀ n ∈ l, NdOk n.nd) := hN
  clear hv hN
  go_enter Try.func3, Try.ntmps3
  go_wp2_with fail
  refine h0.mono ?_
  clear h0
  rintro r w1 ⟨rfl, b1⟩
  have h1 := big_any _ l w1 (HV.out.next b1)
  go_wp2_with fail
  refine h1.mono ?_
  clear h1
  rintro r w1' ⟨big, rfl, rfl, hbig⟩
  have h2 := refNew_any _ l w1' (HV.out.next b1) HN.out
  go_wp2_with fail
  refine h2.mono ?_
  clear h2
  rintro r w2 ⟨hm, b2⟩
  have bb2 := below_next b1 b2
  cases big with
  | true =>
    rcases hm with ⟨tb, nv, dv, ns, ds, es, _, rfl, _⟩ | ⟨x, _, rfl⟩
    · clear hbig
      go_wp2
      go_ret
      exact ⟨rfl, bb2⟩
    · clear hbig
      go_wp2
      go_ret
      exact ⟨rfl, bb2⟩
  | false =>
  rcases hm with ⟨tb, nv, dv, ns, ds, es, hV, rfl, _, _⟩ | ⟨x, hV, rfl⟩
  rotate_left
  · have hx0 : (x != 0) = true := by
      rcases newV_err hV with rfl | rfl | rfl <;> rfl
    clear hbig
    go_wp2
    go_ret
    exact ⟨rfl, bb2⟩
  have HVV : Hid (newV (l.map Nv.nd) = .ok es) := hV
  clear hbig hV b1 b2
  by_cases he0 : e < 0
  · go_wp2
    go_ret
    exact ⟨rfl, bb2⟩
  have he0d : decide (e < 0) = false := decide_eq_false he0
  by_cases he1 : (l.length : Int) ≤ e
  · go_wp2
    go_ret
    exact ⟨rfl, bb2⟩
  have he1d : decide ((l.length : Int) ≤ e) = false := decide_eq_false he1
  obtain ⟨b, hb⟩ : ∃ b, w2.heap.size = b := ⟨_, rfl⟩
  have HB2 : Hid (Below w.heap.size w w2 ∧ w2.heap.size = b ∧ w.heap.size ≤ b) := ⟨bb2, hb, by rw [← hb]; exact bb2.size⟩
  have START : Hid (OwnN b w2 (.slice none 0 0) [] ∧ ([] : List Nv).map Nv.nd = (l.take 0).map Nv.nd ∧ Below b w2 w2) := ⟨⟨World.ownsRow_nil _ _ _ _, fun _ h => (by cases h), fun _ h => (by cases h)⟩, rfl, Below.refl _ _⟩
  clear bb2 hb
  go_wp2
  go_loopw [9, 10] (fun x9 x10 wr => ∃ (i : Nat) (ov : Value) (ol : List Nv), x9 = ov ∧ x10 = .int .i64 i ∧ i ≤ l.length ∧ Hid (OwnN b wr ov ol ∧ ol.map Nv.nd = (l.take i).map Nv.nd ∧ Below b w2 wr)) (fun _ x10 _ => l.length - (intOf x10).toNat)
  case atStart => exact ⟨0, _, [], rfl, rfl, Nat.zero_le _, START⟩
  case round =>
    clear START
    obtain ⟨i, ov, ol, rfl, rfl, hil, HO⟩ := hrel
    by_cases hlt : i < l.length
    · have hii : (i : Int) < (l.length : Int) := by omega
      obtain ⟨n, hn1⟩ : ∃ n, l[i]? = some n := ⟨_, List.getElem?_eq_getElem hlt⟩
      have hmem := List.mem_of_getElem? hn1
      have bwr : Below w.heap.size w wr := HB2.out.1.trans (HO.out.2.2.mono HB2.out.2.2)
      have hvr := HV.out.below bwr
      obtain ⟨⟨parent, tag, id, cls, ats⟩, cv, av⟩ := n
      obtain ⟨n1, n2, n3, n4, n5, n6⟩ := HN.out _ hmem
      have hc := hvr.cls _ hmem
      have ha := hvr.ats _ hmem
      simp only at hc ha n1 n2 n3 n4 n5 n6
      obtain ⟨bk, off, rfl, hbk, hcap, hmx, hcell⟩ := hvr.row.get hn1
      have x0 := hcell 0 _ rfl
      have x1 := hcell 1 _ rfl
      have x2 := hcell 2 _ rfl
      have x3 := hcell 3 _ rfl
      have x4 := hcell 4 _ rfl
      simp only [Nat.add_zero] at x0
      unfold maxLen at hmx
      obtain ⟨pc, cc, rfl⟩ := hc.len
      obtain ⟨pa, ca, rfl⟩ := ha.len
      simp only at x0 x1 x2 x3 x4
      obtain ⟨A1, hA1⟩ : ∃ A, wr.alloc (.cells #[.int .i64 parent, .string tag, .string id, .slice pc cls.length cc, .slice pa ats.length ca] 31) = A := ⟨_, rfl⟩
      have k1 : Blk A1 wr.heap.size 31 [.int .i64 parent, .string tag, .string id, .slice pc cls.length cc, .slice pa ats.length ca] := by rw [← hA1]; exact Blk.new wr _ _
      have bA : Below wr.heap.size wr A1 := by rw [← hA1]; exact (Below.refl _ _).alloc (Nat.le_refl _) _
      have hbr : bk < wr.heap.size := Nat.lt_of_lt_of_le hbk bwr.size
      have bwA : Below w.heap.size w A1 := below_next bwr bA
      have hcA := hc.below (bA.mono bwr.size)
      have haA := ha.below (bA.mono bwr.size)
      have x3A := (bA.cell (p := ⟨bk, off + i * 5 + 3, none⟩) hbr).trans x3
      have HX4 : Hid (wr.cell? ⟨bk, off + i * 5 + 4, none⟩ = some (.slice pa ats.length ca)) := x4
      have HAT : Hid (PairsAt w.heap.size wr (.slice pa ats.length ca) ats) := ha
      have HSZ : Hid (w.heap.size ≤ wr.heap.size ∧ bk < wr.heap.size ∧ b ≤ wr.heap.size) := ⟨bwr.size, hbr, by have := HO.out.2.2.size; have := HB2.out.2.1; omega⟩
      have HN1 : Hid (l[i]? = some ⟨⟨parent, tag, id, cls, ats⟩, .slice pc cls.length cc, .slice pa ats.length ca⟩) := hn1
      clear hvr hc ha hcell hn1 hmem
      go_upto_region 11 with fail
      clear hA1 x0 x1 x2 x3 x4
      have f3 := (blk5 k1).2.2.2.2.1
      have y3 := (blk5 k1).1.2.2.2.1
      have hsrc := SlAt.src (sz := 1) (f := stCells) (by decide) (fun _ => rfl) hcA
      rw [flat_st] at hsrc
      have H1 : ∀ u ∈ cls.map Value.string, u.oneCell' = true := fun u hu => by obtain ⟨x, _, rfl⟩ := List.mem_map.1 hu; rfl
      have m1 : 0 + cls.length ≤ maxLen := by unfold maxLen; omega
      have m2 : (0 + cls.length) * 16 ≤ 140737488355328 := by omega
      have hl1 : (cls.map Value.string).length = cls.length * 1 := by simp
      obtain ⟨PX, hPX⟩ : ∃ PX, wr.heap.size = PX := ⟨_, rfl⟩
      rw [hPX] at k1 f3 y3 bA HSZ ⊢
      go_upto_region 12 with (at_builtin; refine Rg.wpList_append_src _ rfl _ _ 28 rfl A1.heap.size 9 i0 (.string ⟨#[]⟩) 1 16 Try.underlying28 hi hz0 hz1 hz2 rfl (by decide) _ 0 [] rfl (World.ownsRow_nil _ _ _ _) _ cls.length (cls.map Value.string) rfl hl1 hsrc H1 m1 m2 (Nat.le_refl _) ?_; intro cv' w4 hownC hgrowC; obtain ⟨qc, cq, rfl⟩ := owns_form hownC; have b4 : Below A1.heap.size A1 w4 := (Below.refl _ _).grown hgrowC (Nat.le_refl _) (fun r e => (by cases e)); have k14 := k1.next b4; have f3' := (blk5 k14).2.2.2.2.1; have y3' := (blk5 k14).1.2.2.2.1)
      have k2 := blk_put k14 3 (.slice qc cls.length cq)
      simp only [List.set_cons_succ, List.set_cons_zero] at k2
      have g2 := grown_set w4 PX 3 (.slice qc cls.length cq)
      have hC2 : StrRow A1.heap.size (w4.setCell ⟨PX, 3, none⟩ (.slice qc cls.length cq)) (.slice qc cls.length cq) cls := by
        have h0 : w4.ownsRow A1.heap.size 9 1 (.slice qc cls.length cq) cls.length (cls.map Value.string) := by simpa using hownC
        exact h0.kept g2 (.inr (row_blk (e := 9) (t := 31) (by decide) h0 k14))
      have hP1 := k1.lt
      have b14 : Below PX wr w4 := bA.trans (b4.mono (Nat.le_of_lt hP1))
      have bA2 : Below PX wr (w4.setCell ⟨PX, 3, none⟩ (.slice qc cls.length cq)) := below_grown b14 g2 (by rw [← hPX]; exact b14.size) (Nat.le_refl _)
      have hP2 : PX < (w4.setCell ⟨PX, 3, none⟩ (.slice qc cls.length cq)).heap.size := k2.lt
      have hA12 : A1.heap.size ≤ (w4.setCell ⟨PX, 3, none⟩ (.slice qc cls.length cq)).heap.size := Nat.le_trans b4.size g2.size
      generalize w4.setCell ⟨PX, 3, none⟩ (.slice qc cls.length cq) = A2 at k2 hC2 bA2 hP2 hA12 ⊢
      have HC2 : Hid (StrRow A1.heap.size A2 (.slice qc cls.length cq) cls ∧ PX < A1.heap.size) := ⟨hC2, hP1⟩
      clear k1 f3 y3 hsrc H1 m1 m2 hl1 bA hcA haA x3A bwA k14 f3' y3' b4 hownC hgrowC g2 hC2 hP1 b14
      have haA := HAT.out.below (bA2.mono HSZ.out.1)
      have x4A := (bA2.cell (p := ⟨bk, off + i * 5 + 4, none⟩) HSZ.out.2.1).trans HX4.out
      have f4 := (blk5 k2).2.2.2.2.2
      have y4 := (blk5 k2).1.2.2.2.2
      have hsrc := SlAt.src (sz := 2) (f := paCells) (by decide) (fun _ => rfl) haA
      have H1 : ∀ u ∈ ats.flatMap paCells, u.oneCell' = true := fun u hu => by
        obtain ⟨x, _, hx⟩ := List.mem_flatMap.1 hu
        simp only [paCells, List.mem_cons, List.not_mem_nil, or_false] at hx
        rcases hx with rfl | rfl <;> rfl
      have m1 : 0 + ats.length ≤ maxLen := by unfold maxLen; omega
      have m2 : (0 + ats.length) * 32 ≤ 140737488355328 := by omega
      have hl1 : (ats.flatMap paCells).length = ats.length * 2 := flat_length paCells_len ats
      go_upto_region 13 with (at_builtin; refine Rg.wpList_append_src _ rfl _ _ 29 rfl A2.heap.size 40 j0 (.agg #[.string ⟨#[]⟩, .string ⟨#[]⟩]) 2 32 Try.underlying29 hj hx0 hx1 hx2 rfl (by decide) _ 0 [] rfl (World.ownsRow_nil _ _ _ _) _ ats.length (ats.flatMap paCells) rfl hl1 hsrc H1 m1 m2 (Nat.le_refl _) ?_; intro av' w6 hownA hgrowA; obtain ⟨qa, cqa, rfl⟩ := owns_form hownA; have b6 : Below A2.heap.size A2 w6 := (Below.refl _ _).grown hgrowA (Nat.le_refl _) (fun r e => (by cases e)); have k26 := k2.next b6; have f4' := (blk5 k26).2.2.2.2.2; have y4' := (blk5 k26).1.2.2.2.2)
      have k3 := blk_put k26 4 (.slice qa ats.length cqa)
      simp only [List.set_cons_succ, List.set_cons_zero] at k3
      have g3 := grown_set w6 PX 4 (.slice qa ats.length cqa)
      have hA3 : PairRow A2.heap.size (w6.setCell ⟨PX, 4, none⟩ (.slice qa ats.length cqa)) (.slice qa ats.length cqa) ats := by
        have h0 : w6.ownsRow A2.heap.size 40 2 (.slice qa ats.length cqa) ats.length (ats.flatMap paCells) := by simpa using hownA
        exact h0.kept g3 (.inr (row_blk (e := 40) (t := 31) (by decide) h0 k26))
      have hC3 : StrRow A1.heap.size (w6.setCell ⟨PX, 4, none⟩ (.slice qa ats.length cqa)) (.slice qc cls.length cq) cls := by
        have h0 := HC2.out.1.next b6
        exact World.ownsRow.kept h0 g3 (.inr (row_blk (e := 9) (t := 31) (by decide) h0 k26))
      have b26 : Below PX wr w6 := bA2.trans (b6.mono (Nat.le_of_lt hP2))
      have bA3 : Below PX wr (w6.setCell ⟨PX, 4, none⟩ (.slice qa ats.length cqa)) := below_grown b26 g3 (by rw [← hPX]; exact b26.size) (Nat.le_refl _)
      generalize w6.setCell ⟨PX, 4, none⟩ (.slice qa ats.length cqa) = A3 at k3 hA3 hC3 bA3 ⊢
      have HR3 : Hid (StrRow PX A3 (.slice qc cls.length cq) cls ∧ PairRow PX A3 (.slice qa ats.length cqa) ats ∧ Below PX wr A3 ∧ wr.heap.size = PX) := ⟨owns_base hC3 (Nat.le_of_lt HC2.out.2), owns_base hA3 (Nat.le_of_lt hP2), bA3, hPX⟩
      clear k2 f4 y4 hsrc H1 m1 m2 hl1 haA x4A k26 f4' y4' b6 hownA hgrowA g3 hA3 hC3 b26 bA2 hP2 hA12
      obtain ⟨⟨c0, c1, c2, c3, c4⟩, _⟩ := blk5 k3
      have hol : ol.length = i := by
        have h := congrArg List.length HO.out.2.1
        rw [List.length_map, List.length_map, List.length_take] at h
        omega
      obtain ⟨qo, co, rfl⟩ := owns_form HO.out.1.row
      have hbA : Below wr.heap.size wr A3 := by rw [hPX]; exact bA3
      have hNA := HO.out.1.next hbA
      have rA := hNA.row.alloc (.cells #[.int .i64 parent, .string tag, .string id, .slice qc cls.length cq, .slice qa ats.length cqa] 31)
      have bA4 : Below wr.heap.size wr (A3.alloc (.cells #[.int .i64 parent, .string tag, .string id, .slice qc cls.length cq, .slice qa ats.length cqa] 31)) := hbA.alloc hbA.size _
      have HNV : Hid (∀ u ∈ nvCells ⟨⟨parent, tag, id, cls, ats⟩, .slice qc cls.length cq, .slice qa ats.length cqa⟩, u.oneCell' = true) := fun u hu => by
        simp only [nvCells, List.mem_cons, List.not_mem_nil, or_false] at hu
        rcases hu with rfl | rfl | rfl | rfl | rfl <;> rfl
      have hsA : b ≤ (A3.alloc (.cells #[.int .i64 parent, .string tag, .string id, .slice qc cls.length cq, .slice qa ats.length cqa] 31)).heap.size := by
        have h1 := HSZ.out.2.2
        have h2 := bA4.size
        omega
      have hlen1 : ol.length + 1 ≤ maxLen := by unfold maxLen; omega
      have hlen2 : (ol.length + 1) * 88 ≤ 140737488355328 := by omega
      clear bA3 hbA k3
      go_wp2_with (at_builtin; refine wpList_append_own _ rfl _ _ 22 rfl b 31 n0 (.agg #[.int .i64 0, .string ⟨#[]⟩, .string ⟨#[]⟩, .slice none 0 0, .slice none 0 0]) 5 88 Try.underlying22 hn hy0 hy1 hy2 rfl (by decide) (.slice qo ol.length co) _ _ rfl rA ⟨A3.heap.size, 0, none⟩ 1 1 (nvCells ⟨⟨parent, tag, id, cls, ats⟩, .slice qc cls.length cq, .slice qa ats.length cqa⟩) rfl rfl (cells_plain A3 (nvCells ⟨⟨parent, tag, id, cls, ats⟩, .slice qc cls.length cq, .slice qa ats.length cqa⟩) _) HNV.out hlen1 hlen2 hsA ?_; intro v7 w7 hown7 hgrow7 hnil7)
      have hFIN : OwnN b w7 v7 (ol ++ [⟨⟨parent, tag, id, cls, ats⟩, .slice qc cls.length cq, .slice qa ats.length cqa⟩]) := by
        have b34 : Below A3.heap.size A3 (A3.alloc (.cells #[.int .i64 parent, .string tag, .string id, .slice qc cls.length cq, .slice qa ats.length cqa] 31)) := (Below.refl _ _).alloc (Nat.le_refl _) _
        refine HO.out.1.push bA4 (by rw [HR3.out.2.2.2]; exact HSZ.out.2.2) ?_ ?_ hown7 hgrow7
        · rw [HR3.out.2.2.2]
          exact HR3.out.1.next b34
        · rw [HR3.out.2.2.2]
          exact HR3.out.2.1.next b34
      have hMAP : (ol ++ [(⟨⟨parent, tag, id, cls, ats⟩, .slice qc cls.length cq, .slice qa ats.length cqa⟩ : Nv)]).map Nv.nd = (l.take (i + 1)).map Nv.nd := by
        rw [List.map_append, HO.out.2.1, List.take_add_one, HN1.out, List.map_append]
        rfl
      have hBEL : Below b w2 w7 := (HO.out.2.2.trans (bA4.mono (by rw [HR3.out.2.2.2]; exact HSZ.out.2.2))).grown hgrow7 hsA (fun r e => (owns_lt rA e).1)
      exact ⟨⟨i + 1, v7, _, rfl, by go_num, by omega, hFIN, hMAP, hBEL⟩, by simp [intOf]; omega⟩
    · have hii : ¬ (i : Int) < (l.length : Int) := by omega
      obtain rfl : i = l.length := by omega
      have hmap : ol.map Nv.nd = l.map Nv.nd := by
        have h := HO.out.2.1
        rwa [List.take_length] at h
      have hol : ol.length = l.length := by
        have h := congrArg List.length hmap
        rwa [List.length_map, List.length_map] at h
      have hll : 0 < ol.length := by omega
      have hNol := nds_ok hmap HN.out
      obtain ⟨qo, co, rfl⟩ := owns_form HO.out.1.row
      have hnew := new_any _ ol wr HO.out.1.nodes hNol
      unfold Made at hnew
      rw [hmap, HVV.out] at hnew
      have HMP : Hid (ol.length = l.length ∧ 0 < ol.length) := ⟨hol, hll⟩
      obtain ⟨B, hB⟩ : ∃ B, wr.heap.size = B := ⟨_, rfl⟩
      have HBB : Hid (wr.heap.size = B ∧ b ≤ B ∧ w.heap.size ≤ b) := ⟨hB, by rw [← hB]; have := HO.out.2.2.size; have := HB2.out.2.1; omega, HB2.out.2.2⟩
      have bwr : Below w.heap.size w wr := HB2.out.1.trans (HO.out.2.2.mono HB2.out.2.2)
      clear hmap hol hll hNol hi hz0 hz1 hz2 hj hx0 hx1 hx2 hn hy0 hy1 hy2 hB
      go_wp2_with fail
      refine hnew.mono ?_
      clear hnew
      rintro r w5 ⟨hm5, b5⟩
      rcases hm5 with ⟨tb5, g5, cap5, qs, hV5, rfl, hT⟩ | ⟨x, hV5, _⟩
      rotate_left
      · cases hV5
      obtain rfl : es = qs.map Em.e := Except.ok.inj hV5
      obtain ⟨hO, hel, hl4⟩ := newV_ok HVV.out
      have hnd := newV_nds HVV.out (fun n hn => by obtain ⟨x, hx, rfl⟩ := List.mem_map.1 hn; exact HN.out x hx)
      have HQ : Hid (TreeOk (qs.map Em.e) ∧ qs.length ≤ 4096 ∧ ∀ q ∈ qs, NdOk q.e.nd) := ⟨hO, by simp only [List.length_map] at hel hl4; omega, fun q hq => hnd q.e (List.mem_map_of_mem hq)⟩
      have hnode := node_any _ tb5 g5 cap5 qs e w5 hT HQ.out.2.2
      unfold Noded ndVal at hnode
      obtain ⟨nn, hnn⟩ : ∃ nn, nodeV (qs.map Em.e) e = nn := ⟨_, rfl⟩
      have HNN : Hid (nodeV (qs.map Em.e) e = nn) := hnn
      rw [hnn] at hnode
      have HT5 : Hid (Tr B w5 tb5 g5 cap5 qs ∧ Below w.heap.size w w5 ∧ B ≤ w5.heap.size ∧ OwnN b wr (.slice qo ol.length co) ol ∧ Below wr.heap.size wr w5) := ⟨by rw [← HBB.out.1]; exact hT, below_next bwr b5, by rw [← HBB.out.1]; exact b5.size, HO.out.1, b5⟩
      clear hT b5 bwr hO hel hl4 hnd hnn hV5
      go_wp2_with fail
      refine hnode.mono ?_
      clear hnode
      rintro r w6 ⟨cvw, avw, rfl, hcw, haw, b6⟩
      obtain ⟨qc, cq, rfl⟩ := owns_form hcw
      obtain ⟨qa, cqa, rfl⟩ := owns_form haw
      obtain ⟨W7, hW7⟩ : ∃ W, w6.alloc (.cells #[.int .i64 nn.parent, .string nn.tag, .string nn.id, .slice qc nn.cls.length cq, .slice qa nn.ats.length cqa] 31) = W := ⟨_, rfl⟩
      have k7 : Blk W7 w6.heap.size 31 [.int .i64 nn.parent, .string nn.tag, .string nn.id, .slice qc nn.cls.length cq, .slice qa nn.ats.length cqa] := by rw [← hW7]; exact Blk.new w6 _ _
      have b7 : Below w6.heap.size w6 W7 := by rw [← hW7]; exact (Below.refl _ _).alloc (Nat.le_refl _) _
      have hall := all_any B tb5 g5 cap5 qs W7 ((HT5.out.1.next b6).next b7) HQ.out.1 HQ.out.2.1
      obtain ⟨L, hL⟩ : ∃ L, allV (qs.map Em.e) = L := ⟨_, rfl⟩
      have HL : Hid (allV (qs.map Em.e) = L) := hL
      rw [hL] at hall
      have HR7 : Hid (Blk W7 w6.heap.size 31 [.int .i64 nn.parent, .string nn.tag, .string nn.id, .slice qc nn.cls.length cq, .slice qa nn.ats.length cqa] ∧ StrRow B W7 (.slice qc nn.cls.length cq) nn.cls ∧ PairRow B W7 (.slice qa nn.ats.length cqa) nn.ats ∧ Below w5.heap.size w5 W7 ∧ w5.heap.size ≤ w6.heap.size) :=
        ⟨k7, (owns_base hcw HT5.out.2.2.1 |> fun h => StrRow.next h b7), (owns_base haw HT5.out.2.2.1 |> fun h => PairRow.next h b7), below_next b6 b7, b6.size⟩
      clear hcw haw k7 b6 b7 hL
      go_wp2_with fail
      refine hall.mono ?_
      clear hall hW7
      rintro r w8 ⟨v15, rfl, hr15, b8⟩
      obtain ⟨PW, hPW⟩ : ∃ PW, w6.heap.size = PW := ⟨_, rfl⟩
      have hsh := HT5.out.2.2.2.1.shape (below_next HT5.out.2.2.2.2 (below_next HR7.out.2.2.2.1 b8)) HMP.out.2
      rw [HBB.out.1] at hsh
      obtain ⟨go, co', hoe, hsh⟩ := hsh
      cases hoe
      have HS8 : Hid (KpR w B tb5 g5 cap5 qs PW nn (.slice qc nn.cls.length cq) (.slice qa nn.ats.length cqa) v15 L w8 ∧ OwnS b B w8 go co ol) := by
        have hb58 := below_next HR7.out.2.2.2.1 b8
        have h1 := HT5.out
        have h2 := HR7.out
        rw [hPW] at h2
        exact ⟨⟨h1.1.next hb58, h2.1.next b8, by have := h1.2.2.1; have := h2.2.2.2.2; omega, h2.2.1.next b8, h2.2.2.1.next b8, owns_base hr15 (by have := h1.2.2.1; have := h2.2.2.2.1.size; omega), below_next h1.2.1 hb58⟩, hsh⟩
      obtain ⟨q15, c15, rfl⟩ := owns_form hr15
      rw [hPW]
      clear hr15 b8 hsh hPW HT5 HR7
      go_wp2
      go_loopw [16] (fun y wz => ∃ j : Nat, y = .int .i64 j ∧ j ≤ ol.length ∧ Hid (OwnS b B wz go co ol ∧ Keeps b B w8 wz)) (fun y _ => ol.length - (intOf y).toNat)
      case atStart => exact ⟨0, rfl, Nat.zero_le _, HS8.out.2, Kept.refl _ _⟩
      case round =>
        rename World => wz
        obtain ⟨j, rfl, hj, HW⟩ := hrel
        by_cases hjl : j < ol.length
        · have hji : (j : Int) < (ol.length : Int) := by omega
          obtain ⟨x, hx⟩ : ∃ x, ol[j]? = some x := ⟨_, List.getElem?_eq_getElem hjl⟩
          have hbl := HW.out.1.row.get HMP.out.2
          obtain ⟨_, hoc, hom, g', e1, hg1, hg2, _, hcs⟩ := hbl
          cases e1
          unfold maxLen at hom
          obtain ⟨⟨u0, t0⟩, f0⟩ := hcs (j * 5) (by omega)
          clear hcs
          go_upto_region 21 with fail
          have HW1 : Hid (OwnS b B (wz.setCell ⟨go, j * 5, none⟩ (.int .i64 7)) go co ol ∧ Keeps b B w8 (wz.setCell ⟨go, j * 5, none⟩ (.int .i64 7))) :=
            ⟨HW.out.1.setRow j 0 (by omega) (.int .i64 7), HW.out.2.set go (j * 5) (.int .i64 7) hg1 hg2⟩
          generalize wz.setCell ⟨go, j * 5, none⟩ (.int .i64 7) = Z1 at HW1 ⊢
          clear t0 f0 HW
          obtain ⟨_, _, _, g', e1, _, _, _, hcs⟩ := HW1.out.1.row.get HMP.out.2
          cases e1
          obtain ⟨⟨u1, t1⟩, f1⟩ := hcs (j * 5 + 1) (by omega)
          clear hcs
          go_upto_region 22 with fail
          have HW2 : Hid (OwnS b B (Z1.setCell ⟨go, j * 5 + 1, none⟩ (.string ⟨#[99, 104, 97, 110, 103, 101, 100]⟩)) go co ol ∧ Keeps b B w8 (Z1.setCell ⟨go, j * 5 + 1, none⟩ (.string ⟨#[99, 104, 97, 110, 103, 101, 100]⟩))) :=
            ⟨HW1.out.1.setRow j 1 (by omega) (.string ⟨#[99, 104, 97, 110, 103, 101, 100]⟩), HW1.out.2.set go (j * 5 + 1) (.string ⟨#[99, 104, 97, 110, 103, 101, 100]⟩) hg1 hg2⟩
          generalize Z1.setCell ⟨go, j * 5 + 1, none⟩ (.string ⟨#[99, 104, 97, 110, 103, 101, 100]⟩) = Z2 at HW2 ⊢
          clear t1 f1 HW1
          obtain ⟨pc, cc, hcv⟩ := (HW2.out.1.hd j x hx).2.2.1.form
          obtain ⟨pa, ca, hav⟩ := (HW2.out.1.hd j x hx).2.2.2.form
          have HCV : Hid (x.cv = .slice pc x.nd.cls.length cc ∧ x.av = .slice pa x.nd.ats.length ca ∧ ol[j]? = some x) := ⟨hcv, hav, hx⟩
          obtain ⟨nc, hnc⟩ : ∃ n, x.nd.cls.length = n := ⟨_, rfl⟩
          obtain ⟨na, hna⟩ : ∃ n, x.nd.ats.length = n := ⟨_, rfl⟩
          have HHD : Hid (∀ X, OwnS b B X go co ol → X.cell? ⟨go, j * 5 + 3, none⟩ = some (.slice pc nc cc) ∧ X.cell? ⟨go, j * 5 + 4, none⟩ = some (.slice pa na ca) ∧ Shp b B 9 1 X (.slice pc nc cc) nc ∧ Shp b B 40 2 X (.slice pa na ca) na) := fun X hX => by
            have h := hX.hd j x HCV.out.2.2
            rw [HCV.out.1, HCV.out.2.1, hnc, hna] at h
            exact h
          clear hcv hav hx hnc hna HCV
          go_wp2
          go_loopw [17] (fun y wy => ∃ k : Nat, y = .int .i64 k ∧ k ≤ nc ∧ Hid (OwnS b B wy go co ol ∧ Keeps b B w8 wy)) (fun y _ => nc - (intOf y).toNat)
          case atStart => exact ⟨0, rfl, Nat.zero_le _, HW2⟩
          case round =>
            clear HW2
            rename World => wy
            obtain ⟨k, rfl, hk, HY⟩ := hrel
            obtain ⟨t3, t4, hs3, _⟩ := HHD.out wy HY.out.1
            by_cases hkl : k < nc
            · have hki : (k : Int) < (nc : Int) := by omega
              obtain ⟨_, hcc, hcm, gc, e1, c1, c2, c3, hcs⟩ := hs3.get (by omega)
              subst e1
              unfold maxLen at hcm
              obtain ⟨⟨u5, t5⟩, f5⟩ := hcs k (by omega)
              have hap : go ≠ gc := type_apart (t := 31) (t' := 9) (by decide) (by obtain ⟨_, _, _, g', e1, _, _, h, _⟩ := HY.out.1.row.get HMP.out.2; cases e1; exact h) c3
              have FIN : Hid (OwnS b B (wy.setCell ⟨gc, k, none⟩ (.string ⟨#[99, 104, 97, 110, 103, 101, 100]⟩)) go co ol ∧ Keeps b B w8 (wy.setCell ⟨gc, k, none⟩ (.string ⟨#[99, 104, 97, 110, 103, 101, 100]⟩))) := ⟨HY.out.1.setOther gc k hap (.string ⟨#[99, 104, 97, 110, 103, 101, 100]⟩), HY.out.2.set gc k (.string ⟨#[99, 104, 97, 110, 103, 101, 100]⟩) c1 c2⟩
              clear hs3 hcs c3 hap t4
              go_wp2
              go_roundw
              case rel => exact ⟨k + 1, by go_num, by omega, FIN⟩
              case measure => simp [intOf]; omega
            · have hki : ¬ (k : Int) < (nc : Int) := by omega
              clear hs3 t4
              go_wp2
              go_loopw [18] (fun y wx => ∃ k : Nat, y = .int .i64 k ∧ k ≤ na ∧ Hid (OwnS b B wx go co ol ∧ Keeps b B w8 wx)) (fun y _ => na - (intOf y).toNat)
              case atStart => exact ⟨0, rfl, Nat.zero_le _, HY⟩
              case round =>
                clear t3
                rename World => wx
                obtain ⟨k, rfl, hk, HX⟩ := hrel
                obtain ⟨t3, t4, _, hs4⟩ := HHD.out wx HX.out.1
                by_cases hkl : k < na
                · have hki : (k : Int) < (na : Int) := by omega
                  obtain ⟨_, hcc, hcm, ga, e1, c1, c2, c3, hcs⟩ := hs4.get (by omega)
                  subst e1
                  unfold maxLen at hcm
                  obtain ⟨⟨u5, t5⟩, f5⟩ := hcs (k * 2 + 1) (by omega)
                  have hap : go ≠ ga := type_apart (t := 31) (t' := 40) (by decide) (by obtain ⟨_, _, _, g', e1, _, _, h, _⟩ := HX.out.1.row.get HMP.out.2; cases e1; exact h) c3
                  have FIN : Hid (OwnS b B (wx.setCell ⟨ga, k * 2 + 1, none⟩ (.string ⟨#[99, 104, 97, 110, 103, 101, 100]⟩)) go co ol ∧ Keeps b B w8 (wx.setCell ⟨ga, k * 2 + 1, none⟩ (.string ⟨#[99, 104, 97, 110, 103, 101, 100]⟩))) := ⟨HX.out.1.setOther ga (k * 2 + 1) hap (.string ⟨#[99, 104, 97, 110, 103, 101, 100]⟩), HX.out.2.set ga (k * 2 + 1) (.string ⟨#[99, 104, 97, 110, 103, 101, 100]⟩) c1 c2⟩
                  clear hs4 hcs c3 hap t3
                  go_wp2
                  go_roundw
                  case rel => exact ⟨k + 1, by go_num, by omega, FIN⟩
                  case measure => simp [intOf]; omega
                · have hki : ¬ (k : Int) < (na : Int) := by omega
                  clear hs4 t3
                  go_wp2
                  go_roundw
                  case rel => exact ⟨j + 1, by go_num, by omega, HX⟩
                  case measure => simp [intOf]; omega
        · have hji : ¬ (j : Int) < (ol.length : Int) := by omega
          have HR : Hid (KpR w B tb5 g5 cap5 qs PW nn (.slice qc nn.cls.length cq) (.slice qa nn.ats.length cqa) (.slice q15 (chI L).length c15) L wz) := HS8.out.1.keeps HW.out.2 HBB.out.2.2
          clear HW HS8 HMP
          have hnode := node_any B tb5 g5 cap5 qs e wz HR.out.tr HQ.out.2.2
          unfold Noded ndVal at hnode
          rw [HNN.out] at hnode
          go_wp2_with fail
          refine hnode.mono ?_
          clear hnode
          rintro r w9 ⟨cvx, avx, rfl, hcx, hax, b9⟩
          obtain ⟨qx, cx, rfl⟩ := owns_form hcx
          obtain ⟨qy, cy, rfl⟩ := owns_form hax
          obtain ⟨W10, hW10⟩ : ∃ W, w9.alloc (.cells #[.int .i64 nn.parent, .string nn.tag, .string nn.id, .slice qx nn.cls.length cx, .slice qy nn.ats.length cy] 31) = W := ⟨_, rfl⟩
          have k10 : Blk W10 w9.heap.size 31 [.int .i64 nn.parent, .string nn.tag, .string nn.id, .slice qx nn.cls.length cx, .slice qy nn.ats.length cy] := by rw [← hW10]; exact Blk.new w9 _ _
          have b10 : Below w9.heap.size w9 W10 := by rw [← hW10]; exact (Below.refl _ _).alloc (Nat.le_refl _) _
          have b910 := below_next b9 b10
          have hR10 := HR.out.next b910
          have hsm := sameNode_yes nn (.slice qx nn.cls.length cx) (.slice qy nn.ats.length cy) (.slice qc nn.cls.length cq) (.slice qa nn.ats.length cqa) W10 (StrRow.next hcx b10).at (PairRow.next hax b10).at hR10.cls.at hR10.ats.at
          unfold ndVal at hsm
          obtain ⟨⟨m0, m1, m2, m3, m4⟩, _⟩ := blk5 k10
          obtain ⟨⟨r0, r1, r2, r3, r4⟩, _⟩ := blk5 hR10.blk
          have HX10 : Hid (KpR w B tb5 g5 cap5 qs PW nn (.slice qc nn.cls.length cq) (.slice qa nn.ats.length cqa) (.slice q15 (chI L).length c15) L W10 ∧ Blk W10 w9.heap.size 31 [.int .i64 nn.parent, .string nn.tag, .string nn.id, .slice qx nn.cls.length cx, .slice qy nn.ats.length cy] ∧ Shp wz.heap.size W10.heap.size 9 1 W10 (.slice qx nn.cls.length cx) nn.cls.length ∧ Below wz.heap.size wz W10) :=
            ⟨hR10, k10, (Shp.of_owns (StrRow.next hcx b10) (Nat.le_refl _)), b910⟩
          clear hcx hax b9 k10 b10 b910 hR10
          go_wp2_with fail
          refine hsm.mono ?_
          clear hsm m0 m1 m2 m3 m4 r0 r1 r2 r3 r4 hW10
          rintro r w11 ⟨rfl, b11⟩
          obtain ⟨P9, hP9⟩ : ∃ P9, w9.heap.size = P9 := ⟨_, rfl⟩
          obtain ⟨B10, hB10⟩ : ∃ B10, W10.heap.size = B10 := ⟨_, rfl⟩
          have HX11 : Hid (Blk w11 P9 31 [.int .i64 nn.parent, .string nn.tag, .string nn.id, .slice qx nn.cls.length cx, .slice qy nn.ats.length cy] ∧ Shp wz.heap.size B10 9 1 w11 (.slice qx nn.cls.length cx) nn.cls.length ∧ Below wz.heap.size wz w11) := by
            have h := HX10.out
            rw [hP9, hB10] at h
            exact ⟨h.2.1.next b11, h.2.2.1.next b11, below_next h.2.2.2 b11⟩
          rw [hP9]
          obtain ⟨nc, hnc⟩ : ∃ n, nn.cls.length = n := ⟨_, rfl⟩
          rw [hnc] at HX11
          clear HX10 b11 hP9 hB10 hnc
          go_wp2
          go_loopw [21] (fun y wx => ∃ k : Nat, y = .int .i64 k ∧ k ≤ nc ∧ Hid (Blk wx P9 31 [.int .i64 nn.parent, .string nn.tag, .string nn.id, .slice qx nc cx, .slice qy nn.ats.length cy] ∧ Shp wz.heap.size B10 9 1 wx (.slice qx nc cx) nc ∧ Below wz.heap.size wz wx)) (fun y _ => nc - (intOf y).toNat)
          case atStart => exact ⟨0, rfl, Nat.zero_le _, HX11⟩
          case round =>
            clear HX11
            rename World => wx
            obtain ⟨k, rfl, hk, HX⟩ := hrel
            have t3 := (blk5 HX.out.1).1.2.2.2.1
            by_cases hkl : k < nc
            · have hki : (k : Int) < (nc : Int) := by omega
              obtain ⟨_, hcc, hcm, gx, e1, c1, c2, c3, hcs⟩ := HX.out.2.1.get (by omega)
              subst e1
              unfold maxLen at hcm
              obtain ⟨⟨u5, t5⟩, f5⟩ := hcs k (by omega)
              have hap : P9 ≠ gx := type_apart (t := 31) (t' := 9) (by decide) ⟨_, HX.out.1⟩ c3
              have FIN : Hid (Blk (wx.setCell ⟨gx, k, none⟩ (.string ⟨#[45]⟩)) P9 31 [.int .i64 nn.parent, .string nn.tag, .string nn.id, .slice (some ⟨gx, 0, none⟩) nc cx, .slice qy nn.ats.length cy] ∧ Shp wz.heap.size B10 9 1 (wx.setCell ⟨gx, k, none⟩ (.string ⟨#[45]⟩)) (.slice (some ⟨gx, 0, none⟩) nc cx) nc ∧ Below wz.heap.size wz (wx.setCell ⟨gx, k, none⟩ (.string ⟨#[45]⟩))) :=
                ⟨HX.out.1.kept (grown_set wx gx k _) (fun e => hap (Option.some.inj e)), HX.out.2.1.set gx k _, below_grown HX.out.2.2 (grown_set wx gx k _) HX.out.2.2.size c1⟩
              clear hcs c3 hap
              go_wp2
              go_roundw
              case rel => exact ⟨k + 1, by go_num, by omega, FIN⟩
              case measure => simp [intOf]; omega
            · have hki : ¬ (k : Int) < (nc : Int) := by omega
              have hR := HR.out.next HX.out.2.2
              have hch := children_any B tb5 g5 cap5 qs e wx hR.tr HQ.out.1 HQ.out.2.1
              have HBX : Hid (Below wz.heap.size wz wx) := HX.out.2.2
              clear hR HX
              go_wp2_with fail
              refine hch.mono ?_
              clear hch t3
              rintro r w12 ⟨v22, rfl, hr22, b12⟩
              obtain ⟨CH, hCH⟩ : ∃ CH, childrenV (qs.map Em.e) e = CH := ⟨_, rfl⟩
              have HCH : Hid (childrenV (qs.map Em.e) e = CH) := hCH
              rw [hCH] at hr22
              obtain ⟨q22, c22, rfl⟩ := owns_form hr22
              obtain ⟨n22, hn22⟩ : ∃ n, (chI CH).length = n := ⟨_, rfl⟩
              obtain ⟨b22, hb22⟩ : ∃ b, wx.heap.size = b := ⟨_, rfl⟩
              obtain ⟨B22, hB22⟩ : ∃ b, w12.heap.size = b := ⟨_, rfl⟩
              have HS22 : Hid (Shp b22 B22 3 1 w12 (.slice q22 n22 c22) n22 ∧ Below wz.heap.size wz w12 ∧ wz.heap.size ≤ b22) := by
                have h := Shp.of_owns hr22 (Nat.le_refl _)
                rw [hn22, hb22, hB22] at h
                exact ⟨h, below_next HBX.out b12, by rw [← hb22]; exact HBX.out.size⟩
              rw [hn22]
              clear hr22 b12 hCH hn22 hb22 hB22 HBX
              go_wp2
              go_loopw [23] (fun y wy => ∃ k : Nat, y = .int .i64 k ∧ k ≤ n22 ∧ Hid (Shp b22 B22 3 1 wy (.slice q22 n22 c22) n22 ∧ Below wz.heap.size wz wy)) (fun y _ => n22 - (intOf y).toNat)
              case atStart => exact ⟨0, rfl, Nat.zero_le _, HS22.out.1, HS22.out.2.1⟩
              case round =>
                have HB22 : Hid (wz.heap.size ≤ b22) := HS22.out.2.2
                clear HS22
                rename World => wy
                obtain ⟨k, rfl, hk, HY⟩ := hrel
                by_cases hkl : k < n22
                · have hki : (k : Int) < (n22 : Int) := by omega
                  obtain ⟨_, hcc, hcm, gx, e1, c1, c2, c3, hcs⟩ := HY.out.1.get (by omega)
                  subst e1
                  unfold maxLen at hcm
                  obtain ⟨⟨u5, t5⟩, f5⟩ := hcs k (by omega)
                  have FIN : Hid (Shp b22 B22 3 1 (wy.setCell ⟨gx, k, none⟩ (.int .i64 (-9))) (.slice (some ⟨gx, 0, none⟩) n22 c22) n22 ∧ Below wz.heap.size wz (wy.setCell ⟨gx, k, none⟩ (.int .i64 (-9)))) :=
                    ⟨HY.out.1.set gx k _, below_grown HY.out.2 (grown_set wy gx k _) HY.out.2.size (by have := HB22.out; omega)⟩
                  clear hcs c3
                  go_wp2
                  go_roundw
                  case rel => exact ⟨k + 1, by go_num, by omega, FIN⟩
                  case measure => simp [intOf]; omega
                · have hki : ¬ (k : Int) < (n22 : Int) := by omega
                  have hRY := HR.out.next HY.out.2
                  have hnew := refNew_any _ l wy (HV.out.next hRY.low) HN.out
                  have HY2 : Hid (Below wz.heap.size wz wy) := HY.out.2
                  unfold RMade at hnew
                  rw [HVV.out] at hnew
                  clear hRY HY
                  go_wp2_with fail
                  refine hnew.mono ?_
                  clear hnew
                  rintro r w13 ⟨hm, b13⟩
                  rcases hm with ⟨tb', nv', dv', ns', ds', es', hV', rfl, hR', hE'⟩ | ⟨x, hV', _⟩
                  rotate_left
                  · cases hV'
                  obtain rfl : qs.map Em.e = es' := Except.ok.inj hV'
                  have HRR : Hid (∀ X, Below w13.heap.size w13 X → RTr wy.heap.size X tb' nv' dv' ns' ds' ∧ Tells (qs.map Em.e) ns' ds') := fun X hX => ⟨hR'.next hX, hE'⟩
                  have HB13 : Hid (Below wz.heap.size wz w13) := below_next HY2.out b13
                  have HLEN : Hid ((qs.map Em.e).length ≤ 4096) := by rw [List.length_map]; exact HQ.out.2.1
                  clear hR' hE' hV' b13 HY2
                  have q1 := node_any B tb5 g5 cap5 qs e w13 (HR.out.next HB13.out).tr HQ.out.2.2
                  unfold Noded ndVal at q1
                  rw [HNN.out] at q1
                  go_wp2_with fail
                  refine q1.mono ?_
                  clear q1
                  rintro r w14 ⟨cv1, av1, rfl, hc1, ha1, b14⟩
                  obtain ⟨e1, f1, rfl⟩ := owns_form hc1
                  obtain ⟨e2, f2, rfl⟩ := owns_form ha1
                  have q2 := refNode_any wy.heap.size tb' nv' dv' ns' ds' (qs.map Em.e) e w14 (HRR.out w14 b14).1 (HRR.out w14 b14).2
                  unfold RNoded ndVal at q2
                  rw [HNN.out] at q2
                  go_wp2_with fail
                  refine q2.mono ?_
                  clear q2
                  rintro r w15 ⟨cv2, av2, rfl, hc2, ha2, b15⟩
                  obtain ⟨e3, f3, rfl⟩ := hc2.len
                  obtain ⟨e4, f4, rfl⟩ := ha2.len
                  have q3 := sameNode_yes nn _ _ _ _ w15 (StrRow.next hc1 b15).at (PairRow.next ha1 b15).at hc2 ha2
                  unfold ndVal at q3
                  have B15 := below_next b14 b15
                  clear hc1 ha1 hc2 ha2 b14 b15
                  go_wp2_with fail
                  refine q3.mono ?_
                  clear q3
                  rintro r w16 ⟨rfl, b16⟩
                  have B16 := below_next B15 b16
                  clear b16 B15
                  have q4 := children_any B tb5 g5 cap5 qs e w16 (HR.out.next (below_next HB13.out B16)).tr HQ.out.1 HQ.out.2.1
                  rw [HCH.out] at q4
                  go_wp2_with fail
                  refine q4.mono ?_
                  clear q4
                  rintro r w17 ⟨v17, rfl, h17, b17⟩
                  have B17 := below_next B16 b17
                  obtain ⟨e5, f5, rfl⟩ := owns_form h17
                  have q5 := refChildren_any wy.heap.size tb' nv' dv' ns' ds' (qs.map Em.e) e w17 (HRR.out w17 B17).1 (HRR.out w17 B17).2 HQ.out.1 HLEN.out
                  rw [HCH.out] at q5
                  clear b17 B16
                  go_wp2_with fail
                  refine q5.mono ?_
                  clear q5
                  rintro r w18 ⟨v18, rfl, h18, b18⟩
                  have B18 := below_next B17 b18
                  obtain ⟨e6, f6, rfl⟩ := owns_form h18
                  have q6 := sameInts_yes _ _ (chI CH) w18 (IntRow.next h17 b18).at (IntRow.at h18)
                  clear h17 h18 b18 B17
                  go_wp2_with fail
                  refine q6.mono ?_
                  clear q6
                  rintro r w19 ⟨rfl, dn, rfl⟩
                  have B19 : Below w13.heap.size w13 (w18.drewN dn) := below_drewN' B18 dn
                  have q7 := all_any B tb5 g5 cap5 qs (w18.drewN dn) (HR.out.next (below_next HB13.out B19)).tr HQ.out.1 HQ.out.2.1
                  rw [HL.out] at q7
                  generalize w18.drewN dn = w20 at q7 B19 ⊢
                  clear B18
                  go_wp2_with fail
                  refine q7.mono ?_
                  clear q7
                  rintro r w21 ⟨v21, rfl, h21, b21⟩
                  have B21 := below_next B19 b21
                  obtain ⟨e7, f7, rfl⟩ := owns_form h21
                  have q8 := sameInts_yes _ _ (chI L) w21 (IntRow.at h21) (IntRow.at (HR.out.next (below_next HB13.out B21)).all)
                  clear h21 b21 B19
                  go_wp2_with fail
                  refine q8.mono ?_
                  clear q8
                  rintro r w22 ⟨rfl, dm, rfl⟩
                  have bEND : Below w.heap.size w (w21.drewN dm) := below_drewN' (HR.out.next (below_next HB13.out B21)).low dm
                  generalize w21.drewN dm = w23 at bEND ⊢
                  clear B21
                  go_wp2
                  go_ret
                  exact ⟨rfl, bEND⟩


set_option maxRecDepth 100000 in
theorem domKeeps_lifted (os : Os) (started : os.Started) (H : Type) (enc : TypeId × Value → H) :
    ReturnsInHanded {} Try.checked os 3 .any (Rows.domKeepsSpec.pre6 enc Try.prog Try.f3 Rows.domKeepsRow.domain false) (Rows.domKeepsSpec.post enc Try.prog Try.f3 false true false false) := by
  refine returnsInHanded_of_change_sized (C := Try.checked) ownNone started (by kernel_rfl) Try.func3
    (ChangeSpec.witness6 (enc := enc) (C := Try.checked) false ⟨#[], #[.slice none 0 0, .int .i64 0], []⟩ 8 (by kernel_rfl) (by kernel_rfl) (by kernel_rfl) (by kernel_rfl)) ?_
  intro W base args ds gs before hval hW _ hsz0 _
  have hW' := hW
  obtain ⟨p, q, hA0, hV, rfl, hfz, hnd⟩ := hW
  have hA : DataW.TrodAll enc Try.prog W 0 (fun _ => true) true Try.f3.params.toList args.toList ds p := hA0
  rw [Try.params3] at hA hval hsz0
  obtain ⟨v0, vs0, d0, ds0, p0, q0, hargs, rfl, rfl, h0, r0⟩ := trodAll_cons hA
  obtain ⟨v1, vs1, d1, ds1, p1, q1, rfl, rfl, rfl, h1, r1⟩ := trodAll_cons r0
  obtain ⟨rfl, rfl, rfl⟩ := trodAll_nil r1
  obtain rfl : args = #[v0, v1] := by cases args; simp_all
  obtain ⟨rfl, rfl⟩ := trodVars_none hV
  have hsz := List.all_eq_true.1 hsz0
  obtain ⟨a0, len0, cap0, rfl⟩ := okWide_slice Try.underlying22 (hval 0 22 v0 rfl rfl)
  have k0 := h0
  have lt0 : ∀ x ∈ p0, x.block < W.heap.size := by obtain ⟨m, hm⟩ := k0; exact DataW.trod_lt m _ _ _ hm
  obtain ⟨z0, w0, y0, u0⟩ := Dm.nodesAt_of_reads k0 (fun n hn => by simpa using hsz n (DataW.weights_mem_each (j := 0) rfl rfl n hn))
  obtain ⟨a1, rfl, rfl, rfl, w1⟩ := open_int Try.underlying3 (hval 1 3 v1 rfl rfl) h1
  clear hA0
  refine (domKeeps_walk W _ z0 w0 y0 u0 a1 w1).mono fun e W' ⟨he, bel⟩ => ?_
  subst he
  exact ⟨_, rfl, _, _, _, [], _, [], hW', trodAll_mk1 (shut_bool Try.underlying4 _), (trodAll_cons_mk (Below.trod laidOut (by kernel_rfl) (of_decide_eq_true (by kernel_rfl)) k0 bel lt0) (trodAll_cons_mk (shut_int Try.underlying3 w1) trodAll_mk0)), rfl, bel.frame _, fun h => by cases h⟩

theorem domKeeps_said : Rows.DomKeepsSaid :=
  OpenClaim.holds_of_wide 3 Try.f3 rfl rfl rfl rfl rfl rfl rfl ⟨rfl, rfl, rfl, rfl, rfl⟩ rfl rfl rfl rfl rfl (by kernel_rfl) Try.func3 (by kernel_rfl)
    (of_decide_eq_true (by kernel_rfl)) (by unfold Func.isWrapper; first | (rw [if_pos (by decide +kernel)]; kernel_rfl) | (rw [if_neg (by decide +kernel)]; exact ⟨rfl, rfl⟩))
    (fun os started H enc _ => domKeeps_lifted os started H enc)
#print axioms domKeeps_said


end Go.Proofs.Ytopmahiapejkgaa
