/- For all nodes and every two compounds: the law tapestrierlaw10.MatchBoth returns true; no condition. -/
import Derived.Test.YtchfnnoabejlpaaMtBoth
import Derived.Test.YtchfnnoabejlpaaDmArgs
import Derived.Test.YtchfnnoabejlpaaRows
import Derived.HandedShaped
namespace Go.Proofs.Ytchfnnoabejlpaa
open Go.Proofs.Ytchfnnoabejlpaa.Tre
open Go Go.ChangeShapes Go.WideShapes Go.ChangeAt Go.RowKit Dm Mt Wg
open Go.ChangeMaps (open_string shut_string)

set_option maxRecDepth 100000 in
set_option maxHeartbeats 16000000 in
theorem matchBoth_walk (w : World) (hM : Mt.ML w) (v0 : Value) (l : List Nv) (hl : NodesAt w.heap.size w v0 l) (hN : ∀ n ∈ l, NdOk n.nd) (_h88 : l.length * 88 ≤ 140737488351232) (v1 : Value) (a : Cp) (hsa : CmpAt a w v1) (ga : CW 10 a) (v2 : Value) (b : Cp) (hsb : CmpAt b w v2) (gb : CW 10 b) :
    Calls Try.prog 8 #[v0, v1, v2] w fun e w' => e = .returned (.bool true) ∧ Below w.heap.size w w' := by
  obtain ⟨p, cap, rfl⟩ := hl.row.len
  obtain ⟨z1, z2, z3, z4, rfl, hxa⟩ := hsa
  obtain ⟨u1, u2, u3, u4, rfl, hxb⟩ := hsb
  have hx0 := hxa
  obtain ⟨y1, y2, y3, y4, e', r1, r2, r3, r4⟩ := hx0
  simp only [List.cons.injEq, and_true, true_and] at e'
  obtain ⟨rfl, rfl, rfl, rfl⟩ := e'
  obtain ⟨p1, m1, rfl⟩ := r1.len
  obtain ⟨p2, m2, rfl⟩ := r2.len
  obtain ⟨p3, m3, rfl⟩ := r3.len
  obtain ⟨p4, m4, rfl⟩ := r4.len
  clear r1 r2 r3 r4
  have hx0 := hxb
  obtain ⟨y1, y2, y3, y4, e', r1, r2, r3, r4⟩ := hx0
  simp only [List.cons.injEq, and_true, true_and] at e'
  obtain ⟨rfl, rfl, rfl, rfl⟩ := e'
  obtain ⟨q1, n1, rfl⟩ := r1.len
  obtain ⟨q2, n2, rfl⟩ := r2.len
  obtain ⟨q3, n3, rfl⟩ := r3.len
  obtain ⟨q4, n4, rfl⟩ := r4.len
  clear r1 r2 r3 r4
  obtain ⟨Wa, hWa⟩ : ∃ Wa, w.alloc (.cells #[.string a.tag, .slice p1 a.ids.length m1, .slice p2 a.classes.length m2, .slice p3 a.attrs.length m3, .slice p4 a.pss.length m4] 40) = Wa := ⟨_, rfl⟩
  have ba : Below w.heap.size w Wa := by rw [← hWa]; exact (Below.refl _ _).alloc (Nat.le_refl _) _
  have ka : Blk Wa w.heap.size 40 [.string a.tag, .slice p1 a.ids.length m1, .slice p2 a.classes.length m2, .slice p3 a.attrs.length m3, .slice p4 a.pss.length m4] := by rw [← hWa]; exact Blk.new w 40 _
  have sa : Wa.heap.size = w.heap.size + 1 := by rw [← hWa, World.size_alloc]
  obtain ⟨W, hW⟩ : ∃ W, Wa.alloc (.cells #[.string b.tag, .slice q1 b.ids.length n1, .slice q2 b.classes.length n2, .slice q3 b.attrs.length n3, .slice q4 b.pss.length n4] 40) = W := ⟨_, rfl⟩
  have bb : Below Wa.heap.size Wa W := by rw [← hW]; exact (Below.refl _ _).alloc (Nat.le_refl _) _
  have kb : Blk W Wa.heap.size 40 [.string b.tag, .slice q1 b.ids.length n1, .slice q2 b.classes.length n2, .slice q3 b.attrs.length n3, .slice q4 b.pss.length n4] := by rw [← hW]; exact Blk.new Wa 40 _
  rw [sa] at kb
  have kaW := ka.next bb
  have b1 := below_next ba bb
  have h0 := Mt.alive_any W (hM.next b1)
  have HWW : Hid ((w.alloc (.cells #[.string a.tag, .slice p1 a.ids.length m1, .slice p2 a.classes.length m2, .slice p3 a.attrs.length m3, .slice p4 a.pss.length m4] 40)).alloc (.cells #[.string b.tag, .slice q1 b.ids.length n1, .slice q2 b.classes.length n2, .slice q3 b.attrs.length n3, .slice q4 b.pss.length n4] 40) = W) := by
    show _ = _
    rw [hWa, hW]
  have HM : Hid (Mt.ML w) := hM
  have HL : Hid (NodesAt w.heap.size w (.slice p l.length cap) l) := hl
  have HN : Hid (∀ n ∈ l, NdOk n.nd) := hN
  have HXA : Hid (∀ X, Below w.heap.size w X → CpC (SelsR 10 X.heap.size X) X.heap.size X [.string a.tag, .slice p1 a.ids.length m1, .slice p2 a.classes.length m2, .slice p3 a.attrs.length m3, .slice p4 a.pss.length m4] a) := fun X hX => CpC.mono (CpC.below hxa hX (fun _ _ h => h.below 10 hX)) hX.size (fun _ _ h => h.mono 10 hX.size)
  have HXB : Hid (∀ X, Below w.heap.size w X → CpC (SelsR 10 X.heap.size X) X.heap.size X [.string b.tag, .slice q1 b.ids.length n1, .slice q2 b.classes.length n2, .slice q3 b.attrs.length n3, .slice q4 b.pss.length n4] b) := fun X hX => CpC.mono (CpC.below hxb hX (fun _ _ h => h.below 10 hX)) hX.size (fun _ _ h => h.mono 10 hX.size)
  have HXA0 : Hid (∀ X, Below w.heap.size w X → CpC (SelsR 10 w.heap.size X) w.heap.size X [.string a.tag, .slice p1 a.ids.length m1, .slice p2 a.classes.length m2, .slice p3 a.attrs.length m3, .slice p4 a.pss.length m4] a) := fun X hX => CpC.below hxa hX (fun _ _ h => h.below 10 hX)
  have HXB0 : Hid (∀ X, Below w.heap.size w X → CpC (SelsR 10 w.heap.size X) w.heap.size X [.string b.tag, .slice q1 b.ids.length n1, .slice q2 b.classes.length n2, .slice q3 b.attrs.length n3, .slice q4 b.pss.length n4] b) := fun X hX => CpC.below hxb hX (fun _ _ h => h.below 10 hX)
  have HGA : Hid (CW 10 a) := ga
  have HGB : Hid (CW 10 b) := gb
  clear hl hN hxa hxb ga gb hM hWa hW ba bb ka kb sa kaW
  have K0 : Hid (Blk W w.heap.size 40 [.string a.tag, .slice p1 a.ids.length m1, .slice p2 a.classes.length m2, .slice p3 a.attrs.length m3, .slice p4 a.pss.length m4] ∧ Blk W (w.heap.size + 1) 40 [.string b.tag, .slice q1 b.ids.length n1, .slice q2 b.classes.length n2, .slice q3 b.attrs.length n3, .slice q4 b.pss.length n4]) := by
    rw [← show _ = W from HWW.out]
    refine ⟨blk_alloc (Blk.new w _ _) _, ?_⟩
    have := Blk.new (w.alloc (.cells #[.string a.tag, .slice p1 a.ids.length m1, .slice p2 a.classes.length m2, .slice p3 a.attrs.length m3, .slice p4 a.pss.length m4] 40)) 40 [.string b.tag, .slice q1 b.ids.length n1, .slice q2 b.classes.length n2, .slice q3 b.attrs.length n3, .slice q4 b.pss.length n4]
    rwa [World.size_alloc] at this
  go_enter Try.func8, Try.ntmps8
  go_wp2_with fail
  rw [show _ = W from HWW.out]
  refine h0.mono ?_
  clear h0 HWW
  rintro e w1 ⟨rfl, b2⟩
  have b12 := below_next b1 b2
  have K1 : Hid (Blk w1 w.heap.size 40 [.string a.tag, .slice p1 a.ids.length m1, .slice p2 a.classes.length m2, .slice p3 a.attrs.length m3, .slice p4 a.pss.length m4] ∧ Blk w1 (w.heap.size + 1) 40 [.string b.tag, .slice q1 b.ids.length n1, .slice q2 b.classes.length n2, .slice q3 b.attrs.length n3, .slice q4 b.pss.length n4]) := ⟨K0.out.1.next b2, K0.out.2.next b2⟩
  obtain ⟨⟨c0, c1, c2, c3, c4⟩, _⟩ := blk5 K1.out.1
  obtain ⟨⟨d0, d1, d2, d3, d4⟩, _⟩ := blk5 K1.out.2
  obtain ⟨wa, hwa⟩ : ∃ wa, w1.alloc (.cells #[.int .i64 0, .string a.tag, .slice p1 a.ids.length m1, .slice p2 a.classes.length m2, .slice p3 a.attrs.length m3, .slice p4 a.pss.length m4, .int .i64 0, .string b.tag, .slice q1 b.ids.length n1, .slice q2 b.classes.length n2, .slice q3 b.attrs.length n3, .slice q4 b.pss.length n4] 42) = wa := ⟨_, rfl⟩
  have ba : Below w1.heap.size w1 wa := by rw [← hwa]; exact (Below.refl _ _).alloc (Nat.le_refl _) _
  have ka : Blk wa w1.heap.size 42 [.int .i64 0, .string a.tag, .slice p1 a.ids.length m1, .slice p2 a.classes.length m2, .slice p3 a.attrs.length m3, .slice p4 a.pss.length m4, .int .i64 0, .string b.tag, .slice q1 b.ids.length n1, .slice q2 b.classes.length n2, .slice q3 b.attrs.length n3, .slice q4 b.pss.length n4] := by rw [← hwa]; exact Blk.new w1 42 _
  have sa : wa.heap.size = w1.heap.size + 1 := by rw [← hwa, World.size_alloc]
  obtain ⟨w2, hw2⟩ : ∃ w2, wa.alloc (.cells #[.slice (some ⟨w1.heap.size, 0, none⟩) 2 2] 25) = w2 := ⟨_, rfl⟩
  have bb : Below wa.heap.size wa w2 := by rw [← hw2]; exact (Below.refl _ _).alloc (Nat.le_refl _) _
  have kb : Blk w2 wa.heap.size 25 [.slice (some ⟨w1.heap.size, 0, none⟩) 2 2] := by rw [← hw2]; exact Blk.new wa 25 _
  rw [sa] at kb
  have b3 := below_next ba bb
  have b13 := below_next b12 b3
  have hd := Wg.Dear_deep (.slice (some ⟨w1.heap.size + 1, 0, none⟩) 1 1) [[(0, a), (0, b)]] w2 (sels_one11 kb (parts_twoR (ka.next bb) (HXA.out _ b13) (HXB.out _ b13)))
  have K2 : Hid (Blk w2 w.heap.size 40 [.string a.tag, .slice p1 a.ids.length m1, .slice p2 a.classes.length m2, .slice p3 a.attrs.length m3, .slice p4 a.pss.length m4] ∧ Blk w2 (w.heap.size + 1) 40 [.string b.tag, .slice q1 b.ids.length n1, .slice q2 b.classes.length n2, .slice q3 b.attrs.length n3, .slice q4 b.pss.length n4]) := ⟨K1.out.1.next b3, K1.out.2.next b3⟩
  have HWW : Hid ((w1.alloc (.cells #[.int .i64 0, .string a.tag, .slice p1 a.ids.length m1, .slice p2 a.classes.length m2, .slice p3 a.attrs.length m3, .slice p4 a.pss.length m4, .int .i64 0, .string b.tag, .slice q1 b.ids.length n1, .slice q2 b.classes.length n2, .slice q3 b.attrs.length n3, .slice q4 b.pss.length n4] 42)).alloc (.cells #[.slice (some ⟨w1.heap.size, 0, none⟩) 2 2] 25) = w2) := by
    show _ = _
    rw [hwa, hw2]
  clear ka kb b1 b2 sa ba bb hwa hw2 K0
  go_wp2_with fail
  rw [show _ = w2 from HWW.out]
  refine hd.mono ?_
  clear hd HWW c0 c1 c2 c3 c4 d0 d1 d2 d3 d4
  rintro e w3 ⟨much, rfl, HD, b4⟩
  have b14 := below_next b13 b4
  have ht := Mt.trees_any _ l w3 (HM.out.next b14) (HL.out.next b14) HN.out
  have K3 : Hid (Blk w3 w.heap.size 40 [.string a.tag, .slice p1 a.ids.length m1, .slice p2 a.classes.length m2, .slice p3 a.attrs.length m3, .slice p4 a.pss.length m4] ∧ Blk w3 (w.heap.size + 1) 40 [.string b.tag, .slice q1 b.ids.length n1, .slice q2 b.classes.length n2, .slice q3 b.attrs.length n3, .slice q4 b.pss.length n4]) := ⟨K2.out.1.next b4, K2.out.2.next b4⟩
  clear b12 b3 b13 b4 K1 K2
  go_wp2_with fail
  refine ht.mono ?_
  clear ht
  rintro e w4 ⟨hT, b5⟩
  have b15 := below_next b14 b5
  have K4 : Hid (Blk w4 w.heap.size 40 [.string a.tag, .slice p1 a.ids.length m1, .slice p2 a.classes.length m2, .slice p3 a.attrs.length m3, .slice p4 a.pss.length m4] ∧ Blk w4 (w.heap.size + 1) 40 [.string b.tag, .slice q1 b.ids.length n1, .slice q2 b.classes.length n2, .slice q3 b.attrs.length n3, .slice q4 b.pss.length n4]) := ⟨K3.out.1.next b5, K3.out.2.next b5⟩
  clear b14 b5 K3
  unfold Mt.Trees at hT
  rcases hT with rfl | ⟨tb, rb, b0, nv, dv, ns, ds, es, rfl, hG, hR, hE, hel, hl40, hV, hsm⟩
  · cases much with
    | true =>
      go_wp2
      go_ret
      exact ⟨rfl, b15⟩
    | false =>
      go_wp2
      go_ret
      exact ⟨rfl, b15⟩
  cases much with
  | true =>
    clear hG hR hE hV hsm
    go_wp2
    go_ret
    exact ⟨rfl, b15⟩
  | false =>
    have HFA : Hid (FewQ 10 a ∧ FewQ 10 b) := by
      have h := HD.out rfl
      unfold FewD at h
      have h2 := (h [(0, a), (0, b)] (List.mem_singleton.2 rfl)).2
      exact ⟨⟨(h2 (0, a) (by simp)).1, (h2 (0, a) (by simp)).2⟩, ⟨(h2 (0, b) (by simp)).1, (h2 (0, b) (by simp)).2⟩⟩
    have HG : Hid (Mt.Good w4 tb es) := hG
    have HEL : Hid (es.length = l.length) := hel
    have hln : l.length ≤ 40 := hl40
    have DA : Hid (∀ X, Below w4.heap.size w4 X → Calls Try.prog 21 #[.agg #[.string a.tag, .slice p1 a.ids.length m1, .slice p2 a.classes.length m2, .slice p3 a.attrs.length m3, .slice p4 a.pss.length m4], .int .i64 0] X fun r w' => r = .returned (.bool (deepC 8 a)) ∧ Below X.heap.size X w') := fun X hX => by
      have hc8 := cpC_cut (cpC_cut (HXA.out X (below_next b15 hX)))
      rw [cutC_two] at hc8
      have h := deepC_all 8 (Nat.le_refl _) (cutC 8 a) _ _ _ _ X hc8
      rw [show (8 : Int) - ((8 : Nat) : Int) = 0 from rfl, deepC_cut] at h
      exact h
    have DB : Hid (∀ X, Below w4.heap.size w4 X → Calls Try.prog 21 #[.agg #[.string b.tag, .slice q1 b.ids.length n1, .slice q2 b.classes.length n2, .slice q3 b.attrs.length n3, .slice q4 b.pss.length n4], .int .i64 0] X fun r w' => r = .returned (.bool (deepC 8 b)) ∧ Below X.heap.size X w') := fun X hX => by
      have hc8 := cpC_cut (cpC_cut (HXB.out X (below_next b15 hX)))
      rw [cutC_two] at hc8
      have h := deepC_all 8 (Nat.le_refl _) (cutC 8 b) _ _ _ _ X hc8
      rw [show (8 : Int) - ((8 : Nat) : Int) = 0 from rfl, deepC_cut] at h
      exact h
    have hta : a.tag.size ≤ 281474976710656 := HGA.out.1.1
    have htb : b.tag.size ≤ 281474976710656 := HGB.out.1.1
    obtain ⟨da, hda⟩ : ∃ x, deepC 8 a = x := ⟨_, rfl⟩
    obtain ⟨db, hdb⟩ : ∃ x, deepC 8 b = x := ⟨_, rfl⟩
    rw [hda] at DA
    rw [hdb] at DB
    have HDA : Hid (deepC 8 a = da ∧ deepC 8 b = db) := ⟨hda, hdb⟩
    obtain ⟨⟨c0, c1, c2, c3, c4⟩, _⟩ := blk5 K4.out.1
    obtain ⟨⟨d0, d1, d2, d3, d4⟩, _⟩ := blk5 K4.out.2
    clear hG hR hE hV hsm hl40 hel HD hda hdb
    go_upto_region 4 with fail
    go_cut [55] (fun x wx => ∃ t : Bool, x = .bool t ∧ Below w4.heap.size w4 wx ∧ Hid (t = false → (a.tag = ⟨#[]⟩ ∨ b.tag = ⟨#[]⟩) ∧ deepC 8 a = false ∧ deepC 8 b = false))
    case first =>
      have YES : Hid (true = false → (a.tag = ⟨#[]⟩ ∨ b.tag = ⟨#[]⟩) ∧ deepC 8 a = false ∧ deepC 8 b = false) := fun h => (by cases h)
      have two : Hid (((a.tag.toList.isEmpty = false ∧ b.tag.toList.isEmpty = false) ∨ (a.tag.toList.isEmpty = true ∧ a.tag = ⟨#[]⟩)) ∨ ((a.tag.toList.isEmpty = false ∧ b.tag.toList.isEmpty = true) ∧ b.tag = ⟨#[]⟩)) := by
        by_cases e1 : a.tag = ⟨#[]⟩
        · exact .inl (.inr ⟨by rw [e1, ByteArray.toList_eq]; rfl, e1⟩)
        · by_cases e2 : b.tag = ⟨#[]⟩
          · exact .inr ⟨⟨emptyNo e1, by rw [e2, ByteArray.toList_eq]; rfl⟩, e2⟩
          · exact .inl (.inl ⟨emptyNo e1, emptyNo e2⟩)
      rcases two.out with (⟨t1, t2⟩ | ⟨t1, t2⟩) | ⟨⟨t1, t3⟩, t2⟩
      · go_wp2
        go_meet
        exact ⟨_, rfl, Below.refl _ _, YES⟩
      · have hor : Hid (a.tag = ⟨#[]⟩ ∨ b.tag = ⟨#[]⟩) := .inl t2
        clear two t2
        have hca := DA.out w4 (Below.refl _ _)
        go_wp2_with fail
        refine hca.mono ?_
        clear hca c0 c1 c2 c3 c4 d0 d1 d2 d3 d4
        rintro r x1 ⟨rfl, a1⟩
        obtain ⟨⟨d0, d1, d2, d3, d4⟩, _⟩ := blk5 (K4.out.2.next a1)
        cases da with
        | true =>
          go_wp2
          go_meet
          exact ⟨_, rfl, a1, YES⟩
        | false =>
          have hcb := DB.out x1 a1
          go_wp2_with fail
          refine hcb.mono ?_
          clear hcb d0 d1 d2 d3 d4
          rintro r x2 ⟨rfl, a2⟩
          have a12 := below_next a1 a2
          have FIN : Hid (db = false → (a.tag = ⟨#[]⟩ ∨ b.tag = ⟨#[]⟩) ∧ deepC 8 a = false ∧ deepC 8 b = false) := fun h => ⟨hor.out, HDA.out.1, HDA.out.2.trans h⟩
          go_wp2
          go_meet
          exact ⟨_, rfl, a12, FIN⟩
      · have hor : Hid (a.tag = ⟨#[]⟩ ∨ b.tag = ⟨#[]⟩) := .inr t2
        clear two t2
        have hca := DA.out w4 (Below.refl _ _)
        go_wp2_with fail
        refine hca.mono ?_
        clear hca c0 c1 c2 c3 c4 d0 d1 d2 d3 d4
        rintro r x1 ⟨rfl, a1⟩
        obtain ⟨⟨d0, d1, d2, d3, d4⟩, _⟩ := blk5 (K4.out.2.next a1)
        cases da with
        | true =>
          go_wp2
          go_meet
          exact ⟨_, rfl, a1, YES⟩
        | false =>
          have hcb := DB.out x1 a1
          go_wp2_with fail
          refine hcb.mono ?_
          clear hcb d0 d1 d2 d3 d4
          rintro r x2 ⟨rfl, a2⟩
          have a12 := below_next a1 a2
          have FIN : Hid (db = false → (a.tag = ⟨#[]⟩ ∨ b.tag = ⟨#[]⟩) ∧ deepC 8 a = false ∧ deepC 8 b = false) := fun h => ⟨hor.out, HDA.out.1, HDA.out.2.trans h⟩
          go_wp2
          go_meet
          exact ⟨_, rfl, a12, FIN⟩
    case rest =>
    obtain ⟨t, rfl, bw5, HT⟩ := hcut
    rename World => w5
    clear c0 c1 c2 c3 c4 d0 d1 d2 d3 d4
    cases t with
    | true =>
      have b9 := below_next b15 bw5
      go_wp2
      go_ret
      exact ⟨rfl, b9⟩
    | false =>
      obtain ⟨htag, hd8a, hd8b⟩ := HT.out rfl
      have HTAG : Hid ((a.tag = ⟨#[]⟩ ∨ b.tag = ⟨#[]⟩) ∧ deepC 8 a = false ∧ deepC 8 b = false) := ⟨htag, hd8a, hd8b⟩
      have b16 := below_next b15 bw5
      have K5 : Hid (Blk w5 w.heap.size 40 [.string a.tag, .slice p1 a.ids.length m1, .slice p2 a.classes.length m2, .slice p3 a.attrs.length m3, .slice p4 a.pss.length m4] ∧ Blk w5 (w.heap.size + 1) 40 [.string b.tag, .slice q1 b.ids.length n1, .slice q2 b.classes.length n2, .slice q3 b.attrs.length n3, .slice q4 b.pss.length n4]) := ⟨K4.out.1.next bw5, K4.out.2.next bw5⟩
      obtain ⟨⟨c0, c1, c2, c3, c4⟩, _⟩ := blk5 K5.out.1
      obtain ⟨⟨d0, d1, d2, d3, d4⟩, _⟩ := blk5 K5.out.2
      have HG5 : Hid (Mt.Good w5 tb es) := HG.out.next bw5
      obtain ⟨TG, hTG⟩ : ∃ TG, a.tag ++ b.tag = TG := ⟨_, rfl⟩
      have hs5 : w.heap.size + 1 < w5.heap.size := K5.out.2.lt
      have HA5 := HXA0.out w5 b16
      have HB5 := HXB0.out w5 b16
      obtain ⟨i1, i2, i3, i4, e', ra1, ra2, ra3, ra4⟩ := HA5
      simp only [List.cons.injEq, and_true, true_and] at e'
      obtain ⟨rfl, rfl, rfl, rfl⟩ := e'
      obtain ⟨i1, i2, i3, i4, e', rb1, rb2, rb3, rb4⟩ := HB5
      simp only [List.cons.injEq, and_true, true_and] at e'
      obtain ⟨rfl, rfl, rfl, rfl⟩ := e'
      have HR1 : Hid (Wg.RowT 1 StrC w.heap.size w5 (.slice p1 a.ids.length m1) a.ids ∧ Wg.RowT 1 StrC w.heap.size w5 (.slice q1 b.ids.length n1) b.ids) := ⟨ra1, rb1⟩
      have HR2 : Hid (Wg.RowT 1 StrC w.heap.size w5 (.slice p2 a.classes.length m2) a.classes ∧ Wg.RowT 1 StrC w.heap.size w5 (.slice q2 b.classes.length n2) b.classes) := ⟨ra2, rb2⟩
      have HR3 : Hid (Wg.RowT 3 AtC w.heap.size w5 (.slice p3 a.attrs.length m3) a.attrs ∧ Wg.RowT 3 AtC w.heap.size w5 (.slice q3 b.attrs.length n3) b.attrs) := ⟨ra3, rb3⟩
      have HR4 : Hid (Wg.RowT 4 (PsC (SelsR 10 w.heap.size w5)) w.heap.size w5 (.slice p4 a.pss.length m4) a.pss ∧ Wg.RowT 4 (PsC (SelsR 10 w.heap.size w5)) w.heap.size w5 (.slice q4 b.pss.length n4) b.pss) := ⟨ra4, rb4⟩
      clear ra1 ra2 ra3 ra4 rb1 rb2 rb3 rb4 htag hd8a hd8b bw5 HT DA DB
      go_upto_region 7 with fail
      obtain ⟨X6, hX6⟩ : ∃ X6, w5.alloc (.cells #[.string TG, .slice none 0 0, .slice none 0 0, .slice none 0 0, .slice none 0 0] 40) = X6 := ⟨_, rfl⟩
      rw [hX6]
      have O6 : Hid (Mt.Own w5.heap.size w.heap.size w5 X6 TG (.slice none 0 0) (.slice none 0 0) (.slice none 0 0) (.slice none 0 0) [] [] [] []) := by
        rw [← hX6]
        exact ⟨(Below.refl _ _).alloc (Nat.le_refl _) _, Blk.new w5 _ _, OwnT.nil _ _ _ _ _, OwnT.nil _ _ _ _ _, OwnT.nil _ _ _ _ _, OwnT.nil _ _ _ _ _⟩
      have HTG : Hid (a.tag ++ b.tag = TG) := hTG
      clear hX6 hTG hta htb c0 c1 c2 c3 c4 d0 d1 d2 d3 d4
      have HC1 : Hid (∀ X, Below X6.heap.size X6 X → X.cell? ⟨w.heap.size, 1, none⟩ = some (.slice p1 a.ids.length m1) ∧ X.cell? ⟨w.heap.size + 1, 1, none⟩ = some (.slice q1 b.ids.length n1)) := fun X hX => by
        have hlow := O6.out.low.trans (hX.mono (Nat.le_of_lt O6.out.blk.lt))
        obtain ⟨⟨c0, c1, c2, c3, c4⟩, _⟩ := blk5 (K5.out.1.below (hlow) K5.out.1.lt)
        obtain ⟨⟨d0, d1, d2, d3, d4⟩, _⟩ := blk5 (K5.out.2.below (hlow) K5.out.2.lt)
        exact ⟨c1, d1⟩
      refine Rg.wpD_begin [0, 1, 2, 3, 4, 5] (fun X => X.cell? ⟨w.heap.size, 1, none⟩ = some (.slice p1 a.ids.length m1) ∧ X.cell? ⟨w.heap.size + 1, 1, none⟩ = some (.slice q1 b.ids.length n1)) (by kernel_rfl) ?_
      have bq0 : Below X6.heap.size X6 X6.drew := below_drew (Below.refl _ _)
      obtain ⟨v1, W1, v2, W2, r1, r2, o2, b1, b2⟩ := Mt.app_two (w := w5) (n := w.heap.size) (W := X6.drew) Try.underlying36 infoStrB rfl (by decide) (by decide) strC_one ((O6.out.low.mono (by omega)).trans (bq0.mono (Nat.le_trans (by omega) (Nat.le_of_lt O6.out.blk.lt)))) HR1.out.1 HR1.out.2 (Nat.le_trans (by omega) (Nat.le_of_lt O6.out.blk.lt)) HFA.out.1.1.1 HFA.out.2.1.1
      have bq1 := below_next bq0 b1
      have bq2 := below_next bq0 b2
      have HeldS := HC1.out _ bq0
      have HS1 : Hid (W1.cell? ⟨w.heap.size, 1, none⟩ = some (.slice p1 a.ids.length m1) ∧ W1.cell? ⟨w.heap.size + 1, 1, none⟩ = some (.slice q1 b.ids.length n1)) := HC1.out _ bq1
      have HS2 : Hid (W2.cell? ⟨w.heap.size, 1, none⟩ = some (.slice p1 a.ids.length m1) ∧ W2.cell? ⟨w.heap.size + 1, 1, none⟩ = some (.slice q1 b.ids.length n1)) := HC1.out _ bq2
      obtain ⟨ys1, lc1, rfl⟩ : ∃ ys1 lc1, v2 = .slice ys1 (a.ids ++ b.ids).length lc1 := o2.form
      have O7 : Hid (Mt.Own w5.heap.size w.heap.size w5 (W2.setCell ⟨w5.heap.size, 1, none⟩ (.slice ys1 (a.ids ++ b.ids).length lc1)) TG (.slice ys1 (a.ids ++ b.ids).length lc1) (.slice none 0 0) (.slice none 0 0) (.slice none 0 0) (a.ids ++ b.ids) [] [] []) := Mt.ids_step O6.out bq2 o2
      obtain ⟨⟨g0, g1, g2, g3, g4⟩, f0, f1, f2, f3, f4⟩ := blk5 (O6.out.blk.next bq2)
      obtain ⟨LL1, hLL1⟩ : ∃ LL1, (a.ids ++ b.ids).length = LL1 := ⟨_, rfl⟩
      rw [hLL1] at r2
      refine Rg.wpD_load 0 (v := ?_) (by simp only [List.getElem?_toArray, List.getElem?_cons_zero]; rfl) (by kernel_rfl) (by kernel_rfl) (by intro _ _ _ h; exact h) HeldS (by rfl) (fun wz hz => ?_) ?_
      rotate_left
      · first | (go_simp; done) | (go_simp; with_reducible rfl)
      simp only [Act.put, List.setIfInBounds_toArray, List.set_cons_succ, List.set_cons_zero]
      refine Rg.wpD_load 1 (v := ?_) (by simp only [List.getElem?_toArray, List.getElem?_cons_succ, List.getElem?_cons_zero]; rfl) (by kernel_rfl) (by kernel_rfl) (by intro _ _ _ h; exact h) HeldS (by rfl) (fun wz hz => ?_) ?_
      rotate_left
      · first | (go_simp; done) | (go_simp; with_reducible rfl)
      simp only [Act.put, List.setIfInBounds_toArray, List.set_cons_succ, List.set_cons_zero]
      refine Rg.wpD_load 3 (v := ?_) (by simp only [List.getElem?_toArray, List.getElem?_cons_succ, List.getElem?_cons_zero]; rfl) (by kernel_rfl) (by kernel_rfl) (by intro _ _ _ h; exact h) HeldS (by rfl) (fun wz hz => ?_) ?_
      rotate_left
      · first | (go_simp; done) | (go_simp; with_reducible rfl)
      simp only [Act.put, List.setIfInBounds_toArray, List.set_cons_succ, List.set_cons_zero]
      refine Rg.wpD_load 4 (v := ?_) (by simp only [List.getElem?_toArray, List.getElem?_cons_succ, List.getElem?_cons_zero]; rfl) (by kernel_rfl) (by kernel_rfl) (by intro _ _ _ h; exact h) HeldS (by rfl) (fun wz hz => ?_) ?_
      rotate_left
      · first | (go_simp; done) | (go_simp; with_reducible rfl)
      simp only [Act.put, List.setIfInBounds_toArray, List.set_cons_succ, List.set_cons_zero]
      refine Rg.wpD_do 2 (by kernel_rfl) (by simp only [List.getElem?_toArray, List.getElem?_cons_succ, List.getElem?_cons_zero]; rfl) (fun K hK => ?_)
      refine Mt.stepB rfl _ _ 36 rfl rfl rfl r1 (hK _ _ (fun _ => HS1.out) ?_)
      clear hK K HeldS
      refine Rg.wpD_do 5 (by kernel_rfl) (by simp only [List.getElem?_toArray, List.getElem?_cons_succ, List.getElem?_cons_zero]; rfl) (fun K hK => ?_)
      refine Mt.stepB rfl _ _ 36 rfl rfl rfl r2 (hK _ _ (fun _ => HS2.out) ?_)
      clear hK K
      refine Rg.wpD_pure 6 (v := ?_) (by simp only [List.getElem?_toArray, List.getElem?_cons_succ, List.getElem?_cons_zero]; rfl) (by kernel_rfl) (by kernel_rfl) (by intro _ _ _ h; exact h) (by rfl) (fun wz => ?_) ?_
      rotate_left
      · first | (go_simp; done) | (go_simp; with_reducible rfl)
      simp only [Act.put, List.setIfInBounds_toArray, List.set_cons_succ, List.set_cons_zero]
      refine Rg.wpD_do 7 (by kernel_rfl) (by simp only [List.getElem?_toArray, List.getElem?_cons_succ, List.getElem?_cons_zero]; rfl) (fun K hK => ?_)
      go_simp
      refine hK _ _ (fun h => absurd h (by decide)) ?_
      clear hK K
      refine Rg.wpD_done (by kernel_rfl) ?_
      rw [hLL1] at O7
      obtain ⟨X7, hX7⟩ : ∃ X7, W2.setCell ⟨w5.heap.size, 1, none⟩ (.slice ys1 LL1 lc1) = X7 := ⟨_, rfl⟩
      rw [hX7] at O7
      rw [hX7]
      clear hX7 r1 r2 o2 b1 b2 bq0 bq1 bq2 HS1 HS2 g0 g1 g2 g3 g4 f0 f1 f2 f3 f4 HC1
      go_upto_region 8 with fail
      have HC2 : Hid (∀ X, Below X7.heap.size X7 X → X.cell? ⟨w.heap.size, 2, none⟩ = some (.slice p2 a.classes.length m2) ∧ X.cell? ⟨w.heap.size + 1, 2, none⟩ = some (.slice q2 b.classes.length n2)) := fun X hX => by
        have hlow := O7.out.low.trans (hX.mono (Nat.le_of_lt O7.out.blk.lt))
        obtain ⟨⟨c0, c1, c2, c3, c4⟩, _⟩ := blk5 (K5.out.1.below (hlow) K5.out.1.lt)
        obtain ⟨⟨d0, d1, d2, d3, d4⟩, _⟩ := blk5 (K5.out.2.below (hlow) K5.out.2.lt)
        exact ⟨c2, d2⟩
      refine Rg.wpD_begin [0, 1, 2, 3, 4, 5] (fun X => X.cell? ⟨w.heap.size, 2, none⟩ = some (.slice p2 a.classes.length m2) ∧ X.cell? ⟨w.heap.size + 1, 2, none⟩ = some (.slice q2 b.classes.length n2)) (by kernel_rfl) ?_
      have bq0 : Below X7.heap.size X7 X7.drew := below_drew (Below.refl _ _)
      obtain ⟨v1, W1, v2, W2, r1, r2, o2, b1, b2⟩ := Mt.app_two (w := w5) (n := w.heap.size) (W := X7.drew) Try.underlying36 infoStrB rfl (by decide) (by decide) strC_one ((O7.out.low.mono (by omega)).trans (bq0.mono (Nat.le_trans (by omega) (Nat.le_of_lt O7.out.blk.lt)))) HR2.out.1 HR2.out.2 (Nat.le_trans (by omega) (Nat.le_of_lt O7.out.blk.lt)) HFA.out.1.1.2.1 HFA.out.2.1.2.1
      have bq1 := below_next bq0 b1
      have bq2 := below_next bq0 b2
      have HeldS := HC2.out _ bq0
      have HS1 : Hid (W1.cell? ⟨w.heap.size, 2, none⟩ = some (.slice p2 a.classes.length m2) ∧ W1.cell? ⟨w.heap.size + 1, 2, none⟩ = some (.slice q2 b.classes.length n2)) := HC2.out _ bq1
      have HS2 : Hid (W2.cell? ⟨w.heap.size, 2, none⟩ = some (.slice p2 a.classes.length m2) ∧ W2.cell? ⟨w.heap.size + 1, 2, none⟩ = some (.slice q2 b.classes.length n2)) := HC2.out _ bq2
      obtain ⟨ys2, lc2, rfl⟩ : ∃ ys2 lc2, v2 = .slice ys2 (a.classes ++ b.classes).length lc2 := o2.form
      have O8 : Hid (Mt.Own w5.heap.size w.heap.size w5 (W2.setCell ⟨w5.heap.size, 2, none⟩ (.slice ys2 (a.classes ++ b.classes).length lc2)) TG (.slice ys1 LL1 lc1) (.slice ys2 (a.classes ++ b.classes).length lc2) (.slice none 0 0) (.slice none 0 0) (a.ids ++ b.ids) (a.classes ++ b.classes) [] []) := Mt.cls_step O7.out bq2 o2
      obtain ⟨⟨g0, g1, g2, g3, g4⟩, f0, f1, f2, f3, f4⟩ := blk5 (O7.out.blk.next bq2)
      obtain ⟨LL2, hLL2⟩ : ∃ LL2, (a.classes ++ b.classes).length = LL2 := ⟨_, rfl⟩
      rw [hLL2] at r2
      refine Rg.wpD_load 0 (v := ?_) (by simp only [List.getElem?_toArray, List.getElem?_cons_zero]; rfl) (by kernel_rfl) (by kernel_rfl) (by intro _ _ _ h; exact h) HeldS (by rfl) (fun wz hz => ?_) ?_
      rotate_left
      · first | (go_simp; done) | (go_simp; with_reducible rfl)
      simp only [Act.put, List.setIfInBounds_toArray, List.set_cons_succ, List.set_cons_zero]
      refine Rg.wpD_load 1 (v := ?_) (by simp only [List.getElem?_toArray, List.getElem?_cons_succ, List.getElem?_cons_zero]; rfl) (by kernel_rfl) (by kernel_rfl) (by intro _ _ _ h; exact h) HeldS (by rfl) (fun wz hz => ?_) ?_
      rotate_left
      · first | (go_simp; done) | (go_simp; with_reducible rfl)
      simp only [Act.put, List.setIfInBounds_toArray, List.set_cons_succ, List.set_cons_zero]
      refine Rg.wpD_load 3 (v := ?_) (by simp only [List.getElem?_toArray, List.getElem?_cons_succ, List.getElem?_cons_zero]; rfl) (by kernel_rfl) (by kernel_rfl) (by intro _ _ _ h; exact h) HeldS (by rfl) (fun wz hz => ?_) ?_
      rotate_left
      · first | (go_simp; done) | (go_simp; with_reducible rfl)
      simp only [Act.put, List.setIfInBounds_toArray, List.set_cons_succ, List.set_cons_zero]
      refine Rg.wpD_load 4 (v := ?_) (by simp only [List.getElem?_toArray, List.getElem?_cons_succ, List.getElem?_cons_zero]; rfl) (by kernel_rfl) (by kernel_rfl) (by intro _ _ _ h; exact h) HeldS (by rfl) (fun wz hz => ?_) ?_
      rotate_left
      · first | (go_simp; done) | (go_simp; with_reducible rfl)
      simp only [Act.put, List.setIfInBounds_toArray, List.set_cons_succ, List.set_cons_zero]
      refine Rg.wpD_do 2 (by kernel_rfl) (by simp only [List.getElem?_toArray, List.getElem?_cons_succ, List.getElem?_cons_zero]; rfl) (fun K hK => ?_)
      refine Mt.stepB rfl _ _ 36 rfl rfl rfl r1 (hK _ _ (fun _ => HS1.out) ?_)
      clear hK K HeldS
      refine Rg.wpD_do 5 (by kernel_rfl) (by simp only [List.getElem?_toArray, List.getElem?_cons_succ, List.getElem?_cons_zero]; rfl) (fun K hK => ?_)
      refine Mt.stepB rfl _ _ 36 rfl rfl rfl r2 (hK _ _ (fun _ => HS2.out) ?_)
      clear hK K
      refine Rg.wpD_pure 6 (v := ?_) (by simp only [List.getElem?_toArray, List.getElem?_cons_succ, List.getElem?_cons_zero]; rfl) (by kernel_rfl) (by kernel_rfl) (by intro _ _ _ h; exact h) (by rfl) (fun wz => ?_) ?_
      rotate_left
      · first | (go_simp; done) | (go_simp; with_reducible rfl)
      simp only [Act.put, List.setIfInBounds_toArray, List.set_cons_succ, List.set_cons_zero]
      refine Rg.wpD_do 7 (by kernel_rfl) (by simp only [List.getElem?_toArray, List.getElem?_cons_succ, List.getElem?_cons_zero]; rfl) (fun K hK => ?_)
      go_simp
      refine hK _ _ (fun h => absurd h (by decide)) ?_
      clear hK K
      refine Rg.wpD_done (by kernel_rfl) ?_
      rw [hLL2] at O8
      obtain ⟨X8, hX8⟩ : ∃ X8, W2.setCell ⟨w5.heap.size, 2, none⟩ (.slice ys2 LL2 lc2) = X8 := ⟨_, rfl⟩
      rw [hX8] at O8
      rw [hX8]
      clear hX8 r1 r2 o2 b1 b2 bq0 bq1 bq2 HS1 HS2 g0 g1 g2 g3 g4 f0 f1 f2 f3 f4 HC2
      go_upto_region 9 with fail
      have HC3 : Hid (∀ X, Below X8.heap.size X8 X → X.cell? ⟨w.heap.size, 3, none⟩ = some (.slice p3 a.attrs.length m3) ∧ X.cell? ⟨w.heap.size + 1, 3, none⟩ = some (.slice q3 b.attrs.length n3)) := fun X hX => by
        have hlow := O8.out.low.trans (hX.mono (Nat.le_of_lt O8.out.blk.lt))
        obtain ⟨⟨c0, c1, c2, c3, c4⟩, _⟩ := blk5 (K5.out.1.below (hlow) K5.out.1.lt)
        obtain ⟨⟨d0, d1, d2, d3, d4⟩, _⟩ := blk5 (K5.out.2.below (hlow) K5.out.2.lt)
        exact ⟨c3, d3⟩
      refine Rg.wpD_begin [0, 1, 2, 3, 4, 5] (fun X => X.cell? ⟨w.heap.size, 3, none⟩ = some (.slice p3 a.attrs.length m3) ∧ X.cell? ⟨w.heap.size + 1, 3, none⟩ = some (.slice q3 b.attrs.length n3)) (by kernel_rfl) ?_
      have bq0 : Below X8.heap.size X8 X8.drew := below_drew (Below.refl _ _)
      obtain ⟨v1, W1, v2, W2, r1, r2, o2, b1, b2⟩ := Mt.app_two (w := w5) (n := w.heap.size) (W := X8.drew) Try.underlying37 infoAtB rfl (by decide) (by decide) atC_one ((O8.out.low.mono (by omega)).trans (bq0.mono (Nat.le_trans (by omega) (Nat.le_of_lt O8.out.blk.lt)))) HR3.out.1 HR3.out.2 (Nat.le_trans (by omega) (Nat.le_of_lt O8.out.blk.lt)) HFA.out.1.1.2.2.1 HFA.out.2.1.2.2.1
      have bq1 := below_next bq0 b1
      have bq2 := below_next bq0 b2
      have HeldS := HC3.out _ bq0
      have HS1 : Hid (W1.cell? ⟨w.heap.size, 3, none⟩ = some (.slice p3 a.attrs.length m3) ∧ W1.cell? ⟨w.heap.size + 1, 3, none⟩ = some (.slice q3 b.attrs.length n3)) := HC3.out _ bq1
      have HS2 : Hid (W2.cell? ⟨w.heap.size, 3, none⟩ = some (.slice p3 a.attrs.length m3) ∧ W2.cell? ⟨w.heap.size + 1, 3, none⟩ = some (.slice q3 b.attrs.length n3)) := HC3.out _ bq2
      obtain ⟨ys3, lc3, rfl⟩ : ∃ ys3 lc3, v2 = .slice ys3 (a.attrs ++ b.attrs).length lc3 := o2.form
      have O9 : Hid (Mt.Own w5.heap.size w.heap.size w5 (W2.setCell ⟨w5.heap.size, 3, none⟩ (.slice ys3 (a.attrs ++ b.attrs).length lc3)) TG (.slice ys1 LL1 lc1) (.slice ys2 LL2 lc2) (.slice ys3 (a.attrs ++ b.attrs).length lc3) (.slice none 0 0) (a.ids ++ b.ids) (a.classes ++ b.classes) (a.attrs ++ b.attrs) []) := Mt.ats_step O8.out bq2 o2
      obtain ⟨⟨g0, g1, g2, g3, g4⟩, f0, f1, f2, f3, f4⟩ := blk5 (O8.out.blk.next bq2)
      obtain ⟨LL3, hLL3⟩ : ∃ LL3, (a.attrs ++ b.attrs).length = LL3 := ⟨_, rfl⟩
      rw [hLL3] at r2
      refine Rg.wpD_load 0 (v := ?_) (by simp only [List.getElem?_toArray, List.getElem?_cons_zero]; rfl) (by kernel_rfl) (by kernel_rfl) (by intro _ _ _ h; exact h) HeldS (by rfl) (fun wz hz => ?_) ?_
      rotate_left
      · first | (go_simp; done) | (go_simp; with_reducible rfl)
      simp only [Act.put, List.setIfInBounds_toArray, List.set_cons_succ, List.set_cons_zero]
      refine Rg.wpD_load 1 (v := ?_) (by simp only [List.getElem?_toArray, List.getElem?_cons_succ, List.getElem?_cons_zero]; rfl) (by kernel_rfl) (by kernel_rfl) (by intro _ _ _ h; exact h) HeldS (by rfl) (fun wz hz => ?_) ?_
      rotate_left
      · first | (go_simp; done) | (go_simp; with_reducible rfl)
      simp only [Act.put, List.setIfInBounds_toArray, List.set_cons_succ, List.set_cons_zero]
      refine Rg.wpD_load 3 (v := ?_) (by simp only [List.getElem?_toArray, List.getElem?_cons_succ, List.getElem?_cons_zero]; rfl) (by kernel_rfl) (by kernel_rfl) (by intro _ _ _ h; exact h) HeldS (by rfl) (fun wz hz => ?_) ?_
      rotate_left
      · first | (go_simp; done) | (go_simp; with_reducible rfl)
      simp only [Act.put, List.setIfInBounds_toArray, List.set_cons_succ, List.set_cons_zero]
      refine Rg.wpD_load 4 (v := ?_) (by simp only [List.getElem?_toArray, List.getElem?_cons_succ, List.getElem?_cons_zero]; rfl) (by kernel_rfl) (by kernel_rfl) (by intro _ _ _ h; exact h) HeldS (by rfl) (fun wz hz => ?_) ?_
      rotate_left
      · first | (go_simp; done) | (go_simp; with_reducible rfl)
      simp only [Act.put, List.setIfInBounds_toArray, List.set_cons_succ, List.set_cons_zero]
      refine Rg.wpD_do 2 (by kernel_rfl) (by simp only [List.getElem?_toArray, List.getElem?_cons_succ, List.getElem?_cons_zero]; rfl) (fun K hK => ?_)
      refine Mt.stepB rfl _ _ 37 rfl rfl rfl r1 (hK _ _ (fun _ => HS1.out) ?_)
      clear hK K HeldS
      refine Rg.wpD_do 5 (by kernel_rfl) (by simp only [List.getElem?_toArray, List.getElem?_cons_succ, List.getElem?_cons_zero]; rfl) (fun K hK => ?_)
      refine Mt.stepB rfl _ _ 37 rfl rfl rfl r2 (hK _ _ (fun _ => HS2.out) ?_)
      clear hK K
      refine Rg.wpD_pure 6 (v := ?_) (by simp only [List.getElem?_toArray, List.getElem?_cons_succ, List.getElem?_cons_zero]; rfl) (by kernel_rfl) (by kernel_rfl) (by intro _ _ _ h; exact h) (by rfl) (fun wz => ?_) ?_
      rotate_left
      · first | (go_simp; done) | (go_simp; with_reducible rfl)
      simp only [Act.put, List.setIfInBounds_toArray, List.set_cons_succ, List.set_cons_zero]
      refine Rg.wpD_do 7 (by kernel_rfl) (by simp only [List.getElem?_toArray, List.getElem?_cons_succ, List.getElem?_cons_zero]; rfl) (fun K hK => ?_)
      go_simp
      refine hK _ _ (fun h => absurd h (by decide)) ?_
      clear hK K
      refine Rg.wpD_done (by kernel_rfl) ?_
      rw [hLL3] at O9
      obtain ⟨X9, hX9⟩ : ∃ X9, W2.setCell ⟨w5.heap.size, 3, none⟩ (.slice ys3 LL3 lc3) = X9 := ⟨_, rfl⟩
      rw [hX9] at O9
      rw [hX9]
      clear hX9 r1 r2 o2 b1 b2 bq0 bq1 bq2 HS1 HS2 g0 g1 g2 g3 g4 f0 f1 f2 f3 f4 HC3
      go_upto_region 10 with fail
      have HC4 : Hid (∀ X, Below X9.heap.size X9 X → X.cell? ⟨w.heap.size, 4, none⟩ = some (.slice p4 a.pss.length m4) ∧ X.cell? ⟨w.heap.size + 1, 4, none⟩ = some (.slice q4 b.pss.length n4)) := fun X hX => by
        have hlow := O9.out.low.trans (hX.mono (Nat.le_of_lt O9.out.blk.lt))
        obtain ⟨⟨c0, c1, c2, c3, c4⟩, _⟩ := blk5 (K5.out.1.below (hlow) K5.out.1.lt)
        obtain ⟨⟨d0, d1, d2, d3, d4⟩, _⟩ := blk5 (K5.out.2.below (hlow) K5.out.2.lt)
        exact ⟨c4, d4⟩
      refine Rg.wpD_begin [0, 1, 2, 3, 4, 5] (fun X => X.cell? ⟨w.heap.size, 4, none⟩ = some (.slice p4 a.pss.length m4) ∧ X.cell? ⟨w.heap.size + 1, 4, none⟩ = some (.slice q4 b.pss.length n4)) (by kernel_rfl) ?_
      have bq0 : Below X9.heap.size X9 X9.drew := below_drew (Below.refl _ _)
      obtain ⟨v1, W1, v2, W2, r1, r2, o2, b1, b2⟩ := Mt.app_two (w := w5) (n := w.heap.size) (W := X9.drew) Try.underlying38 infoPsB rfl (by decide) (by decide) psC_one ((O9.out.low.mono (by omega)).trans (bq0.mono (Nat.le_trans (by omega) (Nat.le_of_lt O9.out.blk.lt)))) HR4.out.1 HR4.out.2 (Nat.le_trans (by omega) (Nat.le_of_lt O9.out.blk.lt)) HFA.out.1.1.2.2.2 HFA.out.2.1.2.2.2
      have bq1 := below_next bq0 b1
      have bq2 := below_next bq0 b2
      have HeldS := HC4.out _ bq0
      have HS1 : Hid (W1.cell? ⟨w.heap.size, 4, none⟩ = some (.slice p4 a.pss.length m4) ∧ W1.cell? ⟨w.heap.size + 1, 4, none⟩ = some (.slice q4 b.pss.length n4)) := HC4.out _ bq1
      have HS2 : Hid (W2.cell? ⟨w.heap.size, 4, none⟩ = some (.slice p4 a.pss.length m4) ∧ W2.cell? ⟨w.heap.size + 1, 4, none⟩ = some (.slice q4 b.pss.length n4)) := HC4.out _ bq2
      obtain ⟨ys4, lc4, rfl⟩ : ∃ ys4 lc4, v2 = .slice ys4 (a.pss ++ b.pss).length lc4 := o2.form
      have O10 : Hid (Mt.Own w5.heap.size w.heap.size w5 (W2.setCell ⟨w5.heap.size, 4, none⟩ (.slice ys4 (a.pss ++ b.pss).length lc4)) TG (.slice ys1 LL1 lc1) (.slice ys2 LL2 lc2) (.slice ys3 LL3 lc3) (.slice ys4 (a.pss ++ b.pss).length lc4) (a.ids ++ b.ids) (a.classes ++ b.classes) (a.attrs ++ b.attrs) (a.pss ++ b.pss)) := Mt.pss_step O9.out bq2 o2
      obtain ⟨⟨g0, g1, g2, g3, g4⟩, f0, f1, f2, f3, f4⟩ := blk5 (O9.out.blk.next bq2)
      obtain ⟨LL4, hLL4⟩ : ∃ LL4, (a.pss ++ b.pss).length = LL4 := ⟨_, rfl⟩
      rw [hLL4] at r2
      refine Rg.wpD_load 0 (v := ?_) (by simp only [List.getElem?_toArray, List.getElem?_cons_zero]; rfl) (by kernel_rfl) (by kernel_rfl) (by intro _ _ _ h; exact h) HeldS (by rfl) (fun wz hz => ?_) ?_
      rotate_left
      · first | (go_simp; done) | (go_simp; with_reducible rfl)
      simp only [Act.put, List.setIfInBounds_toArray, List.set_cons_succ, List.set_cons_zero]
      refine Rg.wpD_load 1 (v := ?_) (by simp only [List.getElem?_toArray, List.getElem?_cons_succ, List.getElem?_cons_zero]; rfl) (by kernel_rfl) (by kernel_rfl) (by intro _ _ _ h; exact h) HeldS (by rfl) (fun wz hz => ?_) ?_
      rotate_left
      · first | (go_simp; done) | (go_simp; with_reducible rfl)
      simp only [Act.put, List.setIfInBounds_toArray, List.set_cons_succ, List.set_cons_zero]
      refine Rg.wpD_load 3 (v := ?_) (by simp only [List.getElem?_toArray, List.getElem?_cons_succ, List.getElem?_cons_zero]; rfl) (by kernel_rfl) (by kernel_rfl) (by intro _ _ _ h; exact h) HeldS (by rfl) (fun wz hz => ?_) ?_
      rotate_left
      · first | (go_simp; done) | (go_simp; with_reducible rfl)
      simp only [Act.put, List.setIfInBounds_toArray, List.set_cons_succ, List.set_cons_zero]
      refine Rg.wpD_load 4 (v := ?_) (by simp only [List.getElem?_toArray, List.getElem?_cons_succ, List.getElem?_cons_zero]; rfl) (by kernel_rfl) (by kernel_rfl) (by intro _ _ _ h; exact h) HeldS (by rfl) (fun wz hz => ?_) ?_
      rotate_left
      · first | (go_simp; done) | (go_simp; with_reducible rfl)
      simp only [Act.put, List.setIfInBounds_toArray, List.set_cons_succ, List.set_cons_zero]
      refine Rg.wpD_do 2 (by kernel_rfl) (by simp only [List.getElem?_toArray, List.getElem?_cons_succ, List.getElem?_cons_zero]; rfl) (fun K hK => ?_)
      refine Mt.stepB rfl _ _ 38 rfl rfl rfl r1 (hK _ _ (fun _ => HS1.out) ?_)
      clear hK K HeldS
      refine Rg.wpD_do 5 (by kernel_rfl) (by simp only [List.getElem?_toArray, List.getElem?_cons_succ, List.getElem?_cons_zero]; rfl) (fun K hK => ?_)
      refine Mt.stepB rfl _ _ 38 rfl rfl rfl r2 (hK _ _ (fun _ => HS2.out) ?_)
      clear hK K
      refine Rg.wpD_pure 6 (v := ?_) (by simp only [List.getElem?_toArray, List.getElem?_cons_succ, List.getElem?_cons_zero]; rfl) (by kernel_rfl) (by kernel_rfl) (by intro _ _ _ h; exact h) (by rfl) (fun wz => ?_) ?_
      rotate_left
      · first | (go_simp; done) | (go_simp; with_reducible rfl)
      simp only [Act.put, List.setIfInBounds_toArray, List.set_cons_succ, List.set_cons_zero]
      refine Rg.wpD_do 7 (by kernel_rfl) (by simp only [List.getElem?_toArray, List.getElem?_cons_succ, List.getElem?_cons_zero]; rfl) (fun K hK => ?_)
      go_simp
      refine hK _ _ (fun h => absurd h (by decide)) ?_
      clear hK K
      refine Rg.wpD_done (by kernel_rfl) ?_
      rw [hLL4] at O10
      obtain ⟨X10, hX10⟩ : ∃ X10, W2.setCell ⟨w5.heap.size, 4, none⟩ (.slice ys4 LL4 lc4) = X10 := ⟨_, rfl⟩
      rw [hX10] at O10
      rw [hX10]
      clear hX10 r1 r2 o2 b1 b2 bq0 bq1 bq2 HS1 HS2 g0 g1 g2 g3 g4 f0 f1 f2 f3 f4 HC4
      have HC : Hid (∀ X, Below X10.heap.size X10 X → Blk X w.heap.size 40 [.string a.tag, .slice p1 a.ids.length m1, .slice p2 a.classes.length m2, .slice p3 a.attrs.length m3, .slice p4 a.pss.length m4] ∧ Blk X (w.heap.size + 1) 40 [.string b.tag, .slice q1 b.ids.length n1, .slice q2 b.classes.length n2, .slice q3 b.attrs.length n3, .slice q4 b.pss.length n4] ∧ Blk X w5.heap.size 40 [.string TG, .slice ys1 LL1 lc1, .slice ys2 LL2 lc2, .slice ys3 LL3 lc3, .slice ys4 LL4 lc4]) := fun X hX => by
        have hlow := O10.out.low.trans (hX.mono (Nat.le_of_lt O10.out.blk.lt))
        exact ⟨K5.out.1.below hlow K5.out.1.lt, K5.out.2.below hlow K5.out.2.lt, O10.out.blk.next hX⟩
      have HB10 : Hid (∀ X, Below X10.heap.size X10 X → Below w5.heap.size w5 X) := fun X hX => O10.out.low.trans (hX.mono (Nat.le_of_lt O10.out.blk.lt))
      have CMC : Hid (∀ e : Int, ∀ X, Below X10.heap.size X10 X → Calls Try.prog 14 #[.pointer (some ⟨tb, 0, none⟩), .int .i64 e, .agg #[.string TG, .slice ys1 LL1 lc1, .slice ys2 LL2 lc2, .slice ys3 LL3 lc3, .slice ys4 LL4 lc4]] X fun r w' => r = .returned (.bool (Mt.compoundV es e (Mt.bothC a b))) ∧ Below X.heap.size X w') := fun e X hX => by
        have hc := O10.out.cpt' HTG.out hLL1 hLL2 hLL3 hLL4 (by omega) HFA.out.1 HFA.out.2 HGA.out HGB.out
        have h := (HG5.out.next (HB10.out X hX)).cmp e 10 (Mt.bothC a b) _ _ _ _ ((CpT.below hc hX (fun _ _ h => h.below 10 hX)).mono hX.size (fun _ _ h => h.mono 10 hX.size))
        rw [show (Mt.bothC a b).tag = TG from HTG.out] at h
        exact h
      have CMA : Hid (∀ e : Int, ∀ X, Below X10.heap.size X10 X → Calls Try.prog 14 #[.pointer (some ⟨tb, 0, none⟩), .int .i64 e, .agg #[.string a.tag, .slice p1 a.ids.length m1, .slice p2 a.classes.length m2, .slice p3 a.attrs.length m3, .slice p4 a.pss.length m4]] X fun r w' => r = .returned (.bool (Mt.compoundV es e a)) ∧ Below X.heap.size X w') := fun e X hX =>
        (HG5.out.next (HB10.out X hX)).cmp e 10 a _ _ _ _ (Mt.comp_of (HXA.out X (below_next b16 (HB10.out X hX))) HFA.out.1 HGA.out)
      have CMB : Hid (∀ e : Int, ∀ X, Below X10.heap.size X10 X → Calls Try.prog 14 #[.pointer (some ⟨tb, 0, none⟩), .int .i64 e, .agg #[.string b.tag, .slice q1 b.ids.length n1, .slice q2 b.classes.length n2, .slice q3 b.attrs.length n3, .slice q4 b.pss.length n4]] X fun r w' => r = .returned (.bool (Mt.compoundV es e b)) ∧ Below X.heap.size X w') := fun e X hX =>
        (HG5.out.next (HB10.out X hX)).cmp e 10 b _ _ _ _ (Mt.comp_of (HXB.out X (below_next b16 (HB10.out X hX))) HFA.out.2 HGB.out)
      clear hLL1 hLL2 hLL3 hLL4 HR1 HR2 HR3 HR4 hs5
      go_wp2
      go_loopw [13] (fun y wr => ∃ (k : Nat), y = .int .i64 k ∧ k ≤ l.length ∧ Below X10.heap.size X10 wr) (fun y _ => l.length - (intOf y).toNat)
      case atStart => exact ⟨0, rfl, Nat.zero_le _, Below.refl _ _⟩
      case round =>
        obtain ⟨k, rfl, hk, bw⟩ := hrel
        have HBW : Hid (Below X10.heap.size X10 wr) := bw
        clear bw
        by_cases hlt : k < l.length
        · have hki : (k : Int) < (l.length : Int) := by omega
          obtain ⟨VA, hVA⟩ : ∃ V, Mt.compoundV es (k : Int) a = V := ⟨_, rfl⟩
          obtain ⟨VB, hVB⟩ : ∃ V, Mt.compoundV es (k : Int) b = V := ⟨_, rfl⟩
          have hVC : Mt.compoundV es (k : Int) (Mt.bothC a b) = (VA && VB) := by
            rw [Mt.both_cmp es k (by rw [HEL.out]; exact hlt) a b HTAG.out.1 HTAG.out.2.1 HTAG.out.2.2, hVA, hVB]
          have KC : Hid (∀ X, Below wr.heap.size wr X → Calls Try.prog 14 #[.pointer (some ⟨tb, 0, none⟩), .int .i64 (k : Int), .agg #[.string TG, .slice ys1 LL1 lc1, .slice ys2 LL2 lc2, .slice ys3 LL3 lc3, .slice ys4 LL4 lc4]] X fun r w' => r = .returned (.bool (VA && VB)) ∧ Below X.heap.size X w') := fun X hX => by
            have h := CMC.out k X (below_next HBW.out hX)
            rwa [hVC] at h
          have KA : Hid (∀ X, Below wr.heap.size wr X → Calls Try.prog 14 #[.pointer (some ⟨tb, 0, none⟩), .int .i64 (k : Int), .agg #[.string a.tag, .slice p1 a.ids.length m1, .slice p2 a.classes.length m2, .slice p3 a.attrs.length m3, .slice p4 a.pss.length m4]] X fun r w' => r = .returned (.bool VA) ∧ Below X.heap.size X w') := fun X hX => by
            have h := CMA.out k X (below_next HBW.out hX)
            rwa [hVA] at h
          have KB : Hid (∀ X, Below wr.heap.size wr X → Calls Try.prog 14 #[.pointer (some ⟨tb, 0, none⟩), .int .i64 (k : Int), .agg #[.string b.tag, .slice q1 b.ids.length n1, .slice q2 b.classes.length n2, .slice q3 b.attrs.length n3, .slice q4 b.pss.length n4]] X fun r w' => r = .returned (.bool VB) ∧ Below X.heap.size X w') := fun X hX => by
            have h := CMB.out k X (below_next HBW.out hX)
            rwa [hVB] at h
          have HCW : Hid (∀ X, Below wr.heap.size wr X → (X.cell? ⟨w5.heap.size, 0, none⟩ = some (.string TG) ∧ X.cell? ⟨w5.heap.size, 1, none⟩ = some (.slice ys1 LL1 lc1) ∧ X.cell? ⟨w5.heap.size, 2, none⟩ = some (.slice ys2 LL2 lc2) ∧ X.cell? ⟨w5.heap.size, 3, none⟩ = some (.slice ys3 LL3 lc3) ∧ X.cell? ⟨w5.heap.size, 4, none⟩ = some (.slice ys4 LL4 lc4)) ∧ (X.cell? ⟨w.heap.size, 0, none⟩ = some (.string a.tag) ∧ X.cell? ⟨w.heap.size, 1, none⟩ = some (.slice p1 a.ids.length m1) ∧ X.cell? ⟨w.heap.size, 2, none⟩ = some (.slice p2 a.classes.length m2) ∧ X.cell? ⟨w.heap.size, 3, none⟩ = some (.slice p3 a.attrs.length m3) ∧ X.cell? ⟨w.heap.size, 4, none⟩ = some (.slice p4 a.pss.length m4)) ∧ X.cell? ⟨w.heap.size + 1, 0, none⟩ = some (.string b.tag) ∧ X.cell? ⟨w.heap.size + 1, 1, none⟩ = some (.slice q1 b.ids.length n1) ∧ X.cell? ⟨w.heap.size + 1, 2, none⟩ = some (.slice q2 b.classes.length n2) ∧ X.cell? ⟨w.heap.size + 1, 3, none⟩ = some (.slice q3 b.attrs.length n3) ∧ X.cell? ⟨w.heap.size + 1, 4, none⟩ = some (.slice q4 b.pss.length n4)) := fun X hX => by
            obtain ⟨ka, kb, kc⟩ := HC.out X (below_next HBW.out hX)
            exact ⟨(blk5 kc).1, (blk5 ka).1, (blk5 kb).1⟩
          clear hVA hVB hVC CMC CMA CMB HC
          go_upto_region 14 with fail
          go_cut [111] (fun x wx => x = .bool false ∧ Below wr.heap.size wr wx)
          case first =>
            refine Rg.wpD_begin [0, 1, 2, 3, 4, 5, 6, 7, 8, 9, 10, 11, 12] (fun X => (X.cell? ⟨w5.heap.size, 0, none⟩ = some (.string TG) ∧ X.cell? ⟨w5.heap.size, 1, none⟩ = some (.slice ys1 LL1 lc1) ∧ X.cell? ⟨w5.heap.size, 2, none⟩ = some (.slice ys2 LL2 lc2) ∧ X.cell? ⟨w5.heap.size, 3, none⟩ = some (.slice ys3 LL3 lc3) ∧ X.cell? ⟨w5.heap.size, 4, none⟩ = some (.slice ys4 LL4 lc4)) ∧ (X.cell? ⟨w.heap.size, 0, none⟩ = some (.string a.tag) ∧ X.cell? ⟨w.heap.size, 1, none⟩ = some (.slice p1 a.ids.length m1) ∧ X.cell? ⟨w.heap.size, 2, none⟩ = some (.slice p2 a.classes.length m2) ∧ X.cell? ⟨w.heap.size, 3, none⟩ = some (.slice p3 a.attrs.length m3) ∧ X.cell? ⟨w.heap.size, 4, none⟩ = some (.slice p4 a.pss.length m4)) ∧ X.cell? ⟨w.heap.size + 1, 0, none⟩ = some (.string b.tag) ∧ X.cell? ⟨w.heap.size + 1, 1, none⟩ = some (.slice q1 b.ids.length n1) ∧ X.cell? ⟨w.heap.size + 1, 2, none⟩ = some (.slice q2 b.classes.length n2) ∧ X.cell? ⟨w.heap.size + 1, 3, none⟩ = some (.slice q3 b.attrs.length n3) ∧ X.cell? ⟨w.heap.size + 1, 4, none⟩ = some (.slice q4 b.pss.length n4)) (by kernel_rfl) ?_
            have q0 : Below wr.heap.size wr wr.drew := below_drew (Below.refl _ _)
            have HeldS := HCW.out _ q0
            refine Rg.wpD_load 0 (v := ?_) (by simp only [List.getElem?_toArray, List.getElem?_cons_zero]; rfl) (by kernel_rfl) (by kernel_rfl) (by intro _ _ _ h; exact h) HeldS (by rfl) (fun wz hz => ?_) ?_
            rotate_left
            · first | (go_simp; done) | (go_simp; with_reducible rfl)
            simp only [Act.put, List.setIfInBounds_toArray, List.set_cons_succ, List.set_cons_zero]
            refine Rg.wpD_load 1 (v := ?_) (by simp only [List.getElem?_toArray, List.getElem?_cons_succ, List.getElem?_cons_zero]; rfl) (by kernel_rfl) (by kernel_rfl) (by intro _ _ _ h; exact h) HeldS (by rfl) (fun wz hz => ?_) ?_
            rotate_left
            · first | (go_simp; done) | (go_simp; with_reducible rfl)
            simp only [Act.put, List.setIfInBounds_toArray, List.set_cons_succ, List.set_cons_zero]
            refine Rg.wpD_load 2 (v := ?_) (by simp only [List.getElem?_toArray, List.getElem?_cons_succ, List.getElem?_cons_zero]; rfl) (by kernel_rfl) (by kernel_rfl) (by intro _ _ _ h; exact h) HeldS (by rfl) (fun wz hz => ?_) ?_
            rotate_left
            · first | (go_simp; done) | (go_simp; with_reducible rfl)
            simp only [Act.put, List.setIfInBounds_toArray, List.set_cons_succ, List.set_cons_zero]
            refine Rg.wpD_load 4 (v := ?_) (by simp only [List.getElem?_toArray, List.getElem?_cons_succ, List.getElem?_cons_zero]; rfl) (by kernel_rfl) (by kernel_rfl) (by intro _ _ _ h; exact h) HeldS (by rfl) (fun wz hz => ?_) ?_
            rotate_left
            · first | (go_simp; done) | (go_simp; with_reducible rfl)
            simp only [Act.put, List.setIfInBounds_toArray, List.set_cons_succ, List.set_cons_zero]
            refine Rg.wpD_load 5 (v := ?_) (by simp only [List.getElem?_toArray, List.getElem?_cons_succ, List.getElem?_cons_zero]; rfl) (by kernel_rfl) (by kernel_rfl) (by intro _ _ _ h; exact h) HeldS (by rfl) (fun wz hz => ?_) ?_
            rotate_left
            · first | (go_simp; done) | (go_simp; with_reducible rfl)
            simp only [Act.put, List.setIfInBounds_toArray, List.set_cons_succ, List.set_cons_zero]
            refine Rg.wpD_load 6 (v := ?_) (by simp only [List.getElem?_toArray, List.getElem?_cons_succ, List.getElem?_cons_zero]; rfl) (by kernel_rfl) (by kernel_rfl) (by intro _ _ _ h; exact h) HeldS (by rfl) (fun wz hz => ?_) ?_
            rotate_left
            · first | (go_simp; done) | (go_simp; with_reducible rfl)
            simp only [Act.put, List.setIfInBounds_toArray, List.set_cons_succ, List.set_cons_zero]
            refine Rg.wpD_do 3 (by kernel_rfl) (by simp only [List.getElem?_toArray, List.getElem?_cons_succ, List.getElem?_cons_zero]; rfl) (fun K hK => ?_)
            go_simp
            go_at_call 14
            refine Calls.mono (KC.out _ q0) ?_
            rintro r Y1 ⟨rfl, a1⟩
            have q1 := below_next q0 a1
            refine hK _ _ (fun _ => HCW.out _ q1) ?_
            clear hK K HeldS
            refine Rg.wpD_do 7 (by kernel_rfl) (by simp only [List.getElem?_toArray, List.getElem?_cons_succ, List.getElem?_cons_zero]; rfl) (fun K hK => ?_)
            go_simp
            go_at_call 14
            refine Calls.mono (KA.out _ q1) ?_
            rintro r Y2 ⟨rfl, a2⟩
            have q2 := below_next q1 a2
            refine hK _ _ (fun _ => HCW.out _ q2) ?_
            clear hK K
            have HeldS := HCW.out _ q2
            cases VA with
            | true =>
              refine Rg.wpD_load 8 (v := ?_) (by simp only [List.getElem?_toArray, List.getElem?_cons_succ, List.getElem?_cons_zero]; rfl) (by kernel_rfl) (by kernel_rfl) (by intro _ _ _ h; exact h) HeldS (by rfl) (fun wz hz => ?_) ?_
              rotate_left
              · first | (go_simp; done) | (go_simp; with_reducible rfl)
              simp only [Act.put, List.setIfInBounds_toArray, List.set_cons_succ, List.set_cons_zero]
              refine Rg.wpD_load 9 (v := ?_) (by simp only [List.getElem?_toArray, List.getElem?_cons_succ, List.getElem?_cons_zero]; rfl) (by kernel_rfl) (by kernel_rfl) (by intro _ _ _ h; exact h) HeldS (by rfl) (fun wz hz => ?_) ?_
              rotate_left
              · first | (go_simp; done) | (go_simp; with_reducible rfl)
              simp only [Act.put, List.setIfInBounds_toArray, List.set_cons_succ, List.set_cons_zero]
              refine Rg.wpD_load 10 (v := ?_) (by simp only [List.getElem?_toArray, List.getElem?_cons_succ, List.getElem?_cons_zero]; rfl) (by kernel_rfl) (by kernel_rfl) (by intro _ _ _ h; exact h) HeldS (by rfl) (fun wz hz => ?_) ?_
              rotate_left
              · first | (go_simp; done) | (go_simp; with_reducible rfl)
              simp only [Act.put, List.setIfInBounds_toArray, List.set_cons_succ, List.set_cons_zero]
              refine Rg.wpD_load 11 (v := ?_) (by simp only [List.getElem?_toArray, List.getElem?_cons_succ, List.getElem?_cons_zero]; rfl) (by kernel_rfl) (by kernel_rfl) (by intro _ _ _ h; exact h) HeldS (by rfl) (fun wz hz => ?_) ?_
              rotate_left
              · first | (go_simp; done) | (go_simp; with_reducible rfl)
              simp only [Act.put, List.setIfInBounds_toArray, List.set_cons_succ, List.set_cons_zero]
              refine Rg.wpD_do 12 (by kernel_rfl) (by simp only [List.getElem?_toArray, List.getElem?_cons_succ, List.getElem?_cons_zero]; rfl) (fun K hK => ?_)
              go_simp
              go_at_call 14
              refine Calls.mono (KB.out _ q2) ?_
              rintro r Y3 ⟨rfl, a3⟩
              have q3 := below_next q2 a3
              refine hK _ _ (fun _ => HCW.out _ q3) ?_
              clear hK K HeldS
              refine Rg.wpD_pure 13 (v := ?_) (by simp only [List.getElem?_toArray, List.getElem?_cons_succ, List.getElem?_cons_zero]; rfl) (by kernel_rfl) (by kernel_rfl) (by intro _ _ _ h; exact h) (by rfl) (fun wz => ?_) ?_
              rotate_left
              · first | (go_simp; done) | (go_simp; with_reducible rfl)
              simp only [Act.put, List.setIfInBounds_toArray, List.set_cons_succ, List.set_cons_zero]
              refine Rg.wpD_pure 14 (v := ?_) (by simp only [List.getElem?_toArray, List.getElem?_cons_succ, List.getElem?_cons_zero]; rfl) (by kernel_rfl) (by kernel_rfl) (by intro _ _ _ h; exact h) (by rfl) (fun wz => ?_) ?_
              rotate_left
              · first | (go_simp; done) | (go_simp; with_reducible rfl)
              simp only [Act.put, List.setIfInBounds_toArray, List.set_cons_succ, List.set_cons_zero]
              refine Rg.wpD_done (by kernel_rfl) ?_
              go_wp2
              go_meet
              exact ⟨by simp, q3⟩
            | false =>
              refine Rg.wpD_load 8 (v := ?_) (by simp only [List.getElem?_toArray, List.getElem?_cons_succ, List.getElem?_cons_zero]; rfl) (by kernel_rfl) (by kernel_rfl) (by intro _ _ _ h; exact h) HeldS (by rfl) (fun wz hz => ?_) ?_
              rotate_left
              · first | (go_simp; done) | (go_simp; with_reducible rfl)
              simp only [Act.put, List.setIfInBounds_toArray, List.set_cons_succ, List.set_cons_zero]
              refine Rg.wpD_skip 9 (by simp only [List.getElem?_toArray, List.getElem?_cons_succ, List.getElem?_cons_zero]; rfl) (by kernel_rfl) (by kernel_rfl) (by intro _ _ _ h; exact h) HeldS (by rfl) ?_
              simp only [Act.put, List.setIfInBounds_toArray, List.set_cons_succ, List.set_cons_zero]
              refine Rg.wpD_skip 10 (by simp only [List.getElem?_toArray, List.getElem?_cons_succ, List.getElem?_cons_zero]; rfl) (by kernel_rfl) (by kernel_rfl) (by intro _ _ _ h; exact h) HeldS (by rfl) ?_
              simp only [Act.put, List.setIfInBounds_toArray, List.set_cons_succ, List.set_cons_zero]
              refine Rg.wpD_skip 11 (by simp only [List.getElem?_toArray, List.getElem?_cons_succ, List.getElem?_cons_zero]; rfl) (by kernel_rfl) (by kernel_rfl) (by intro _ _ _ h; exact h) HeldS (by rfl) ?_
              simp only [Act.put, List.setIfInBounds_toArray, List.set_cons_succ, List.set_cons_zero]
              refine Rg.wpD_skip 12 (by simp only [List.getElem?_toArray, List.getElem?_cons_succ, List.getElem?_cons_zero]; rfl) (by kernel_rfl) (by kernel_rfl) (by intro _ _ _ h; exact h) HeldS (by rfl) ?_
              simp only [Act.put, List.setIfInBounds_toArray, List.set_cons_succ, List.set_cons_zero]
              refine Rg.wpD_pure 13 (v := ?_) (by simp only [List.getElem?_toArray, List.getElem?_cons_succ, List.getElem?_cons_zero]; rfl) (by kernel_rfl) (by kernel_rfl) (by intro _ _ _ h; exact h) (by rfl) (fun wz => ?_) ?_
              rotate_left
              · first | (go_simp; done) | (go_simp; with_reducible rfl)
              simp only [Act.put, List.setIfInBounds_toArray, List.set_cons_succ, List.set_cons_zero]
              refine Rg.wpD_pure 14 (v := ?_) (by simp only [List.getElem?_toArray, List.getElem?_cons_succ, List.getElem?_cons_zero]; rfl) (by kernel_rfl) (by kernel_rfl) (by intro _ _ _ h; exact h) (by rfl) (fun wz => ?_) ?_
              rotate_left
              · first | (go_simp; done) | (go_simp; with_reducible rfl)
              simp only [Act.put, List.setIfInBounds_toArray, List.set_cons_succ, List.set_cons_zero]
              refine Rg.wpD_done (by kernel_rfl) ?_
              go_wp2
              go_meet
              exact ⟨by simp, q2⟩
          case rest =>
            rename World => wx
            obtain ⟨rfl, bx⟩ := hcut
            have b9 := below_next HBW.out bx
            go_wp2
            go_roundw
            case rel => exact ⟨k + 1, by go_num, by omega, b9⟩
            case measure => simp [intOf]; omega
        · have hki : ¬ (k : Int) < (l.length : Int) := by omega
          have b9 := below_next b16 (HB10.out _ HBW.out)
          clear CMC CMA CMB HC
          go_wp2
          go_ret
          exact ⟨rfl, b9⟩


set_option maxRecDepth 100000 in
theorem matchBoth_lifted (os : Os) (started : os.Started) (H : Type) (enc : TypeId × Value → H) :
    ReturnsInHanded {} Try.checked os 8 .any (Rows.matchBothSpec.pre6 enc Try.prog Try.f8 Rows.matchBothRow.domain false) (Rows.matchBothSpec.post enc Try.prog Try.f8 false true false false) := by
  refine returnsInHanded_of_change_shaped (C := Try.checked) ownNone started (by kernel_rfl) Try.func8
    (ChangeSpec.witness6 (enc := enc) (C := Try.checked) false ⟨#[], #[.slice none 0 0, .agg #[.string ⟨#[]⟩, .slice none 0 0, .slice none 0 0, .slice none 0 0, .slice none 0 0], .agg #[.string ⟨#[]⟩, .slice none 0 0, .slice none 0 0, .slice none 0 0, .slice none 0 0]], []⟩ 8 (by kernel_rfl) (by kernel_rfl) (by kernel_rfl) (by kernel_rfl)) ?_
  intro W base args ds gs before hval hW _ hsz0 hS _
  have hW' := hW
  obtain ⟨p, q, hA0, hV, rfl, hfz, hnd⟩ := hW
  have hA : DataW.TrodAll enc Try.prog W 0 (fun _ => true) true Try.f8.params.toList args.toList ds p := hA0
  rw [Try.params8] at hA hval hsz0
  obtain ⟨v0, vs0, d0, ds0, p0, q0, hargs, rfl, rfl, h0, r0⟩ := trodAll_cons hA
  obtain ⟨v1, vs1, d1, ds1, p1, q1, rfl, rfl, rfl, h1, r1⟩ := trodAll_cons r0
  obtain ⟨v2, vs2, d2, ds2, p2, q2, rfl, rfl, rfl, h2, r2⟩ := trodAll_cons r1
  obtain ⟨rfl, rfl, rfl⟩ := trodAll_nil r2
  obtain rfl : args = #[v0, v1, v2] := by cases args; simp_all
  obtain ⟨rfl, rfl⟩ := trodVars_none hV
  have hsz := List.all_eq_true.1 hsz0
  obtain ⟨a0, len0, cap0, rfl⟩ := okWide_slice Try.underlying22 (hval 0 22 v0 rfl rfl)
  have k0 := h0
  have lt0 : ∀ x ∈ p0, x.block < W.heap.size := by obtain ⟨m, hm⟩ := k0; exact DataW.trod_lt m _ _ _ hm
  obtain ⟨z0, w0, y0, u0⟩ := Dm.nodesAt_of_reads k0 (fun n hn => by simpa using hsz n (DataW.weights_mem_each (j := 0) rfl rfl n hn))
  have k1 := h1
  have lt1 : ∀ x ∈ p1, x.block < W.heap.size := by obtain ⟨m, hm⟩ := k1; exact DataW.trod_lt m _ _ _ hm
  obtain ⟨z1, w1, y1⟩ := Wg.cmpW_of_reads k1 (hval 1 40 v1 rfl rfl) (fun n hn => by simpa using hsz n (DataW.weights_mem_each (j := 1) rfl rfl n hn))
  have k2 := h2
  have lt2 : ∀ x ∈ p2, x.block < W.heap.size := by obtain ⟨m, hm⟩ := k2; exact DataW.trod_lt m _ _ _ hm
  obtain ⟨z2, w2, y2⟩ := Wg.cmpW_of_reads k2 (hval 2 40 v2 rfl rfl) (fun n hn => by simpa using hsz n (DataW.weights_mem_each (j := 2) rfl rfl n hn))
  clear hA0
  refine (matchBoth_walk W (Try.laysM144.s1_3 W hS) _ z0 w0 y0 u0 v1 z1 w1 y1 v2 z2 w2 y2).mono fun e W' ⟨he, bel⟩ => ?_
  subst he
  exact ⟨_, rfl, _, _, _, [], _, [], hW', trodAll_mk1 (shut_bool Try.underlying4 _), (trodAll_cons_mk (Below.trod laidOut (by kernel_rfl) (of_decide_eq_true (by kernel_rfl)) k0 bel lt0) (trodAll_cons_mk (Below.trod laidOut (by kernel_rfl) (of_decide_eq_true (by kernel_rfl)) k1 bel lt1) (trodAll_cons_mk (Below.trod laidOut (by kernel_rfl) (of_decide_eq_true (by kernel_rfl)) k2 bel lt2) trodAll_mk0))), rfl, bel.frame _, fun h => by cases h⟩

theorem matchBoth_said : Rows.MatchBothSaid :=
  OpenClaim.holds_of_wide 8 Try.f8 rfl rfl rfl rfl rfl rfl rfl ⟨rfl, rfl, rfl, rfl, rfl⟩ rfl rfl rfl rfl rfl (by kernel_rfl) Try.func8 (by kernel_rfl)
    (of_decide_eq_true (by kernel_rfl)) (by unfold Func.isWrapper; first | (rw [if_pos (by decide +kernel)]; kernel_rfl) | (rw [if_neg (by decide +kernel)]; exact ⟨rfl, rfl⟩))
    (fun os started H enc _ => matchBoth_lifted os started H enc)
#print axioms matchBoth_said


end Go.Proofs.Ytchfnnoabejlpaa
