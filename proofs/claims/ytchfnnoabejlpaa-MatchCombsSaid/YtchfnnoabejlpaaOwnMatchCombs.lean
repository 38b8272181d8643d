/- For all nodes, every two compounds and every number of a combinator: the law tapestrierlaw10.MatchCombs returns true; no condition. -/
import Derived.Test.YtchfnnoabejlpaaMtComb
import Derived.Test.YtchfnnoabejlpaaDmArgs
import Derived.Test.YtchfnnoabejlpaaRows
import Derived.HandedShaped
import Derived.Deep.CutBlock
namespace Go.Proofs.Ytchfnnoabejlpaa
open Go.Proofs.Ytchfnnoabejlpaa.Tre
open Go Go.ChangeShapes Go.WideShapes Go.ChangeAt Go.RowKit Dm Mt Wg
open Go.ChangeMaps (open_string shut_string)

set_option maxRecDepth 100000 in
set_option maxHeartbeats 16000000 in
theorem matchCombs_walk (w : World) (hM : Mt.ML w) (v0 : Value) (l : List Nv) (hl : NodesAt w.heap.size w v0 l) (hN : ∀ n ∈ l, NdOk n.nd) (_h88 : l.length * 88 ≤ 140737488351232) (v1 : Value) (a : Cp) (hsa : CmpAt a w v1) (ga : CW 10 a) (v2 : Value) (b : Cp) (hsb : CmpAt b w v2) (gb : CW 10 b) (comb : Int) (hcomb : (Lit.int .i64 comb).wf = true) :
    Calls Try.prog 5 #[v0, v1, v2, .int .i64 comb] w fun e w' => e = .returned (.bool true) ∧ Below w.heap.size w w' := by
  obtain ⟨p, cap, rfl⟩ := hl.row.len
  obtain ⟨z1, z2, z3, z4, rfl, hxa⟩ := hsa
  obtain ⟨u1, u2, u3, u4, rfl, hxb⟩ := hsb
  have hx0 := hxa
  obtain ⟨y1, y2, y3, y4, e', r1, r2, r3, r4⟩ := hx0
  simp only [List.cons.injEq, and_true, true_and] at e'
  obtain ⟨rfl, rfl, rfl, rfl⟩ := e'
  obtain ⟨p1, m1, rfl⟩ := r1.len
  obtain ⟨p2, m2, rfl⟩ := r2.len
  obtain ⟨p3, m3, rfl⟩ := r3.len
  obtain ⟨p4, m4, rfl⟩ := r4.len
  clear r1 r2 r3 r4
  have hx0 := hxb
  obtain ⟨y1, y2, y3, y4, e', r1, r2, r3, r4⟩ := hx0
  simp only [List.cons.injEq, and_true, true_and] at e'
  obtain ⟨rfl, rfl, rfl, rfl⟩ := e'
  obtain ⟨q1, n1, rfl⟩ := r1.len
  obtain ⟨q2, n2, rfl⟩ := r2.len
  obtain ⟨q3, n3, rfl⟩ := r3.len
  obtain ⟨q4, n4, rfl⟩ := r4.len
  clear r1 r2 r3 r4
  obtain ⟨Wa, hWa⟩ : ∃ Wa, w.alloc (.cells #[.string a.tag, .slice p1 a.ids.length m1, .slice p2 a.classes.length m2, .slice p3 a.attrs.length m3, .slice p4 a.pss.length m4] 40) = Wa := ⟨_, rfl⟩
  have ba : Below w.heap.size w Wa := by rw [← hWa]; exact (Below.refl _ _).alloc (Nat.le_refl _) _
  have ka : Blk Wa w.heap.size 40 [.string a.tag, .slice p1 a.ids.length m1, .slice p2 a.classes.length m2, .slice p3 a.attrs.length m3, .slice p4 a.pss.length m4] := by rw [← hWa]; exact Blk.new w 40 _
  have sa : Wa.heap.size = w.heap.size + 1 := by rw [← hWa, World.size_alloc]
  obtain ⟨W, hW⟩ : ∃ W, Wa.alloc (.cells #[.string b.tag, .slice q1 b.ids.length n1, .slice q2 b.classes.length n2, .slice q3 b.attrs.length n3, .slice q4 b.pss.length n4] 40) = W := ⟨_, rfl⟩
  have bb : Below Wa.heap.size Wa W := by rw [← hW]; exact (Below.refl _ _).alloc (Nat.le_refl _) _
  have kb : Blk W Wa.heap.size 40 [.string b.tag, .slice q1 b.ids.length n1, .slice q2 b.classes.length n2, .slice q3 b.attrs.length n3, .slice q4 b.pss.length n4] := by rw [← hW]; exact Blk.new Wa 40 _
  rw [sa] at kb
  have kaW := ka.next bb
  have b1 := below_next ba bb
  have h0 := Mt.alive_any W (hM.next b1)
  have HWW : Hid ((w.alloc (.cells #[.string a.tag, .slice p1 a.ids.length m1, .slice p2 a.classes.length m2, .slice p3 a.attrs.length m3, .slice p4 a.pss.length m4] 40)).alloc (.cells #[.string b.tag, .slice q1 b.ids.length n1, .slice q2 b.classes.length n2, .slice q3 b.attrs.length n3, .slice q4 b.pss.length n4] 40) = W) := by
    show _ = _
    rw [hWa, hW]
  have HM : Hid (Mt.ML w) := hM
  have HL : Hid (NodesAt w.heap.size w (.slice p l.length cap) l) := hl
  have HN : Hid (∀ n ∈ l, NdOk n.nd) := hN
  have HXA : Hid (∀ X, Below w.heap.size w X → CpC (SelsR 10 X.heap.size X) X.heap.size X [.string a.tag, .slice p1 a.ids.length m1, .slice p2 a.classes.length m2, .slice p3 a.attrs.length m3, .slice p4 a.pss.length m4] a) := fun X hX => CpC.mono (CpC.below hxa hX (fun _ _ h => h.below 10 hX)) hX.size (fun _ _ h => h.mono 10 hX.size)
  have HXB : Hid (∀ X, Below w.heap.size w X → CpC (SelsR 10 X.heap.size X) X.heap.size X [.string b.tag, .slice q1 b.ids.length n1, .slice q2 b.classes.length n2, .slice q3 b.attrs.length n3, .slice q4 b.pss.length n4] b) := fun X hX => CpC.mono (CpC.below hxb hX (fun _ _ h => h.below 10 hX)) hX.size (fun _ _ h => h.mono 10 hX.size)
  have HXA0 : Hid (∀ X, Below w.heap.size w X → CpC (SelsR 10 w.heap.size X) w.heap.size X [.string a.tag, .slice p1 a.ids.length m1, .slice p2 a.classes.length m2, .slice p3 a.attrs.length m3, .slice p4 a.pss.length m4] a) := fun X hX => CpC.below hxa hX (fun _ _ h => h.below 10 hX)
  have HXB0 : Hid (∀ X, Below w.heap.size w X → CpC (SelsR 10 w.heap.size X) w.heap.size X [.string b.tag, .slice q1 b.ids.length n1, .slice q2 b.classes.length n2, .slice q3 b.attrs.length n3, .slice q4 b.pss.length n4] b) := fun X hX => CpC.below hxb hX (fun _ _ h => h.below 10 hX)
  have HGA : Hid (CW 10 a) := ga
  have HGB : Hid (CW 10 b) := gb
  clear hl hN hxa hxb ga gb hM hWa hW ba bb ka kb sa kaW
  have K0 : Hid (Blk W w.heap.size 40 [.string a.tag, .slice p1 a.ids.length m1, .slice p2 a.classes.length m2, .slice p3 a.attrs.length m3, .slice p4 a.pss.length m4] ∧ Blk W (w.heap.size + 1) 40 [.string b.tag, .slice q1 b.ids.length n1, .slice q2 b.classes.length n2, .slice q3 b.attrs.length n3, .slice q4 b.pss.length n4]) := by
    rw [← show _ = W from HWW.out]
    refine ⟨blk_alloc (Blk.new w _ _) _, ?_⟩
    have := Blk.new (w.alloc (.cells #[.string a.tag, .slice p1 a.ids.length m1, .slice p2 a.classes.length m2, .slice p3 a.attrs.length m3, .slice p4 a.pss.length m4] 40)) 40 [.string b.tag, .slice q1 b.ids.length n1, .slice q2 b.classes.length n2, .slice q3 b.attrs.length n3, .slice q4 b.pss.length n4]
    rwa [World.size_alloc] at this
  have HCB : Hid ((Lit.int .i64 comb).wf = true) := hcomb
  clear hcomb
  go_enter Try.func5, Try.ntmps5
  go_wp2_with fail
  rw [show _ = W from HWW.out]
  refine h0.mono ?_
  clear h0 HWW
  rintro e w1 ⟨rfl, b2⟩
  have b12 := below_next b1 b2
  have K1 : Hid (Blk w1 w.heap.size 40 [.string a.tag, .slice p1 a.ids.length m1, .slice p2 a.classes.length m2, .slice p3 a.attrs.length m3, .slice p4 a.pss.length m4] ∧ Blk w1 (w.heap.size + 1) 40 [.string b.tag, .slice q1 b.ids.length n1, .slice q2 b.classes.length n2, .slice q3 b.attrs.length n3, .slice q4 b.pss.length n4]) := ⟨K0.out.1.next b2, K0.out.2.next b2⟩
  obtain ⟨⟨c0, c1, c2, c3, c4⟩, _⟩ := blk5 K1.out.1
  obtain ⟨⟨d0, d1, d2, d3, d4⟩, _⟩ := blk5 K1.out.2
  obtain ⟨wa, hwa⟩ : ∃ wa, w1.alloc (.cells #[.int .i64 0, .string a.tag, .slice p1 a.ids.length m1, .slice p2 a.classes.length m2, .slice p3 a.attrs.length m3, .slice p4 a.pss.length m4, .int .i64 comb, .string b.tag, .slice q1 b.ids.length n1, .slice q2 b.classes.length n2, .slice q3 b.attrs.length n3, .slice q4 b.pss.length n4] 42) = wa := ⟨_, rfl⟩
  have ba : Below w1.heap.size w1 wa := by rw [← hwa]; exact (Below.refl _ _).alloc (Nat.le_refl _) _
  have ka : Blk wa w1.heap.size 42 [.int .i64 0, .string a.tag, .slice p1 a.ids.length m1, .slice p2 a.classes.length m2, .slice p3 a.attrs.length m3, .slice p4 a.pss.length m4, .int .i64 comb, .string b.tag, .slice q1 b.ids.length n1, .slice q2 b.classes.length n2, .slice q3 b.attrs.length n3, .slice q4 b.pss.length n4] := by rw [← hwa]; exact Blk.new w1 42 _
  have sa : wa.heap.size = w1.heap.size + 1 := by rw [← hwa, World.size_alloc]
  obtain ⟨wb, hwb⟩ : ∃ wb, wa.alloc (.cells #[.slice (some ⟨w1.heap.size, 0, none⟩) 2 2] 25) = wb := ⟨_, rfl⟩
  have bb : Below wa.heap.size wa wb := by rw [← hwb]; exact (Below.refl _ _).alloc (Nat.le_refl _) _
  have kb : Blk wb wa.heap.size 25 [.slice (some ⟨w1.heap.size, 0, none⟩) 2 2] := by rw [← hwb]; exact Blk.new wa 25 _
  have sb : wb.heap.size = w1.heap.size + 2 := by rw [← hwb, World.size_alloc, sa]
  rw [sa] at kb
  obtain ⟨w2, hw2⟩ : ∃ w2, wb.alloc (.cells #[.slice (some ⟨w1.heap.size, 0, none⟩) 2 2] 25) = w2 := ⟨_, rfl⟩
  have bc : Below wb.heap.size wb w2 := by rw [← hw2]; exact (Below.refl _ _).alloc (Nat.le_refl _) _
  have kc : Blk w2 wb.heap.size 25 [.slice (some ⟨w1.heap.size, 0, none⟩) 2 2] := by rw [← hw2]; exact Blk.new wb 25 _
  rw [sb] at kc
  have b3 := below_next (below_next ba bb) bc
  have b13 := below_next b12 b3
  have hpr : PartsR 10 w2.heap.size w2 (.slice (some ⟨w1.heap.size, 0, none⟩) 2 2) (Mt.twoS a comb b) := Mt.parts_twoR (ka.next (below_next bb bc)) (HXA.out _ b13) (HXB.out _ b13)
  have hd := Wg.Dear_deep (.slice (some ⟨w1.heap.size + 2, 0, none⟩) 1 1) [Mt.twoS a comb b] w2 (sels_one11 kc hpr)
  have HPR : Hid (PartsR 10 w2.heap.size w2 (.slice (some ⟨w1.heap.size, 0, none⟩) 2 2) (Mt.twoS a comb b)) := hpr
  have K2 : Hid (Blk w2 w.heap.size 40 [.string a.tag, .slice p1 a.ids.length m1, .slice p2 a.classes.length m2, .slice p3 a.attrs.length m3, .slice p4 a.pss.length m4] ∧ Blk w2 (w.heap.size + 1) 40 [.string b.tag, .slice q1 b.ids.length n1, .slice q2 b.classes.length n2, .slice q3 b.attrs.length n3, .slice q4 b.pss.length n4] ∧ Blk w2 (w1.heap.size + 1) 25 [.slice (some ⟨w1.heap.size, 0, none⟩) 2 2]) := ⟨K1.out.1.next b3, K1.out.2.next b3, kb.next bc⟩
  have HWW : Hid (((w1.alloc (.cells #[.int .i64 0, .string a.tag, .slice p1 a.ids.length m1, .slice p2 a.classes.length m2, .slice p3 a.attrs.length m3, .slice p4 a.pss.length m4, .int .i64 comb, .string b.tag, .slice q1 b.ids.length n1, .slice q2 b.classes.length n2, .slice q3 b.attrs.length n3, .slice q4 b.pss.length n4] 42)).alloc (.cells #[.slice (some ⟨w1.heap.size, 0, none⟩) 2 2] 25)).alloc (.cells #[.slice (some ⟨w1.heap.size, 0, none⟩) 2 2] 25) = w2) := by
    show _ = _
    rw [hwa, hwb, hw2]
  clear ka kb kc b1 b2 sa sb ba bb bc hwa hwb hw2 K0 hpr
  go_wp2_with fail
  rw [show _ = w2 from HWW.out]
  refine hd.mono ?_
  clear hd HWW c0 c1 c2 c3 c4 d0 d1 d2 d3 d4
  rintro e w3 ⟨much, rfl, HD, b4⟩
  have b14 := below_next b13 b4
  have ht := Mt.trees_any _ l w3 (HM.out.next b14) (HL.out.next b14) HN.out
  have K3 : Hid (Blk w3 w.heap.size 40 [.string a.tag, .slice p1 a.ids.length m1, .slice p2 a.classes.length m2, .slice p3 a.attrs.length m3, .slice p4 a.pss.length m4] ∧ Blk w3 (w.heap.size + 1) 40 [.string b.tag, .slice q1 b.ids.length n1, .slice q2 b.classes.length n2, .slice q3 b.attrs.length n3, .slice q4 b.pss.length n4] ∧ Blk w3 (w1.heap.size + 1) 25 [.slice (some ⟨w1.heap.size, 0, none⟩) 2 2]) := ⟨K2.out.1.next b4, K2.out.2.1.next b4, K2.out.2.2.next b4⟩
  have HB4 : Hid (Below w2.heap.size w2 w3) := b4
  clear b12 b3 b13 b4 K1 K2
  go_wp2_with fail
  refine ht.mono ?_
  clear ht
  rintro e w4 ⟨hT, b5⟩
  have b15 := below_next b14 b5
  have K4 : Hid (Blk w4 w.heap.size 40 [.string a.tag, .slice p1 a.ids.length m1, .slice p2 a.classes.length m2, .slice p3 a.attrs.length m3, .slice p4 a.pss.length m4] ∧ Blk w4 (w.heap.size + 1) 40 [.string b.tag, .slice q1 b.ids.length n1, .slice q2 b.classes.length n2, .slice q3 b.attrs.length n3, .slice q4 b.pss.length n4] ∧ Blk w4 (w1.heap.size + 1) 25 [.slice (some ⟨w1.heap.size, 0, none⟩) 2 2]) := ⟨K3.out.1.next b5, K3.out.2.1.next b5, K3.out.2.2.next b5⟩
  have HPR4 : Hid (PartsR 10 w4.heap.size w4 (.slice (some ⟨w1.heap.size, 0, none⟩) 2 2) (Mt.twoS a comb b)) := PartsR.next HPR.out (below_next HB4.out b5)
  clear b14 b5 K3 HB4 HPR
  unfold Mt.Trees at hT
  rcases hT with rfl | ⟨tb, rb, b0, nv, dv, ns, ds, es, rfl, hG, hR, hE, hel, hl40, hV, hsm⟩
  · cases much with
    | true =>
      go_wp2
      go_ret
      exact ⟨rfl, b15⟩
    | false =>
      go_wp2
      go_ret
      exact ⟨rfl, b15⟩
  cases much with
  | true =>
    clear hG hR hE hV hsm
    go_wp2
    go_ret
    exact ⟨rfl, b15⟩
  | false =>
    have HFA : Hid (FewT 10 (Mt.twoS a comb b) ∧ FewQ 10 a ∧ FewQ 10 b) := by
      have h := HD.out rfl
      unfold FewD at h
      have h2 := (h (Mt.twoS a comb b) (List.mem_singleton.2 rfl))
      exact ⟨⟨h2.1, fun p hp => ⟨(h2.2 p hp).1, (h2.2 p hp).2⟩⟩, ⟨(h2.2 (0, a) (by simp [Mt.twoS])).1, (h2.2 (0, a) (by simp [Mt.twoS])).2⟩, ⟨(h2.2 (comb, b) (by simp [Mt.twoS])).1, (h2.2 (comb, b) (by simp [Mt.twoS])).2⟩⟩
    have HSW : Hid (SW 10 (Mt.twoS a comb b)) := fun p hp => by
      have hp2 : p = (0, a) ∨ p = (comb, b) := by simpa [Mt.twoS] using hp
      rcases hp2 with rfl | rfl
      · exact ⟨show (Lit.int .i64 0).wf = true by decide, HGA.out⟩
      · exact ⟨HCB.out, HGB.out⟩
    have hTA := (Rf.TE.of_new hR hE hV hsm).1
    have hok := (Dm.newV_ok hV).1
    obtain ⟨T, hTT⟩ : ∃ T : Rf.TE, T = Rf.TE.mk b0 rb nv dv ns ds es := ⟨_, rfl⟩
    rw [← hTT] at hTA
    have hTe : T.es = es := by rw [hTT]
    have hTp : T.p = .pointer (some ⟨rb, 0, none⟩) := by rw [hTT]
    have HO : Hid (TreeOk es) := hok
    have PAR : Hid (∀ e : Int, ∀ X, Below w4.heap.size w4 X → Calls Try.prog 17 #[.pointer (some ⟨rb, 0, none⟩), .int .i64 e] X fun r w' => r = .returned (.int .i64 (parentV es e)) ∧ w' = X) := fun e X hX => by
      have h := Rf.parent_any T e X (hTA.next hX)
      rw [hTe, hTp] at h
      exact h
    have BEF : Hid (∀ e : Int, ∀ X, Below w4.heap.size w4 X → Calls Try.prog 18 #[.pointer (some ⟨rb, 0, none⟩), .int .i64 e] X fun r w' => r = .returned (.int .i64 (beforeV es e)) ∧ Below X.heap.size X w') := fun e X hX => by
      have h := Rf.before_any T e X (hTA.next hX)
      rw [hTe, hTp] at h
      refine Calls.mono h ?_
      rintro r w' ⟨h1, n, rfl⟩
      exact ⟨h1, below_drewN X n⟩
    have CMA : Hid (∀ e : Int, ∀ X, Below w4.heap.size w4 X → Calls Try.prog 14 #[.pointer (some ⟨tb, 0, none⟩), .int .i64 e, .agg #[.string a.tag, .slice p1 a.ids.length m1, .slice p2 a.classes.length m2, .slice p3 a.attrs.length m3, .slice p4 a.pss.length m4]] X fun r w' => r = .returned (.bool (Mt.compoundV es e a)) ∧ Below X.heap.size X w') := fun e X hX =>
      (hG.next hX).cmp e 10 a _ _ _ _ (Mt.comp_of (HXA.out X (below_next b15 hX)) HFA.out.2.1 HGA.out)
    have CMB : Hid (∀ e : Int, ∀ X, Below w4.heap.size w4 X → Calls Try.prog 14 #[.pointer (some ⟨tb, 0, none⟩), .int .i64 e, .agg #[.string b.tag, .slice q1 b.ids.length n1, .slice q2 b.classes.length n2, .slice q3 b.attrs.length n3, .slice q4 b.pss.length n4]] X fun r w' => r = .returned (.bool (Mt.compoundV es e b)) ∧ Below X.heap.size X w') := fun e X hX =>
      (hG.next hX).cmp e 10 b _ _ _ _ (Mt.comp_of (HXB.out X (below_next b15 hX)) HFA.out.2.2 HGB.out)
    have CMS : Hid (∀ e : Int, ∀ X, Below w4.heap.size w4 X → Calls Try.prog 12 #[.pointer (some ⟨tb, 0, none⟩), .int .i64 e, .agg #[.slice (some ⟨w1.heap.size, 0, none⟩) 2 2]] X fun r w' => r = .returned (.bool (Mt.selectorV es e (Mt.twoS a comb b))) ∧ Below X.heap.size X w') := fun e X hX =>
      (hG.next hX).sel e 10 _ _ (Mt.parts_of (PartsR.next HPR4.out hX) HFA.out.1 HSW.out)
    have hdp := deepSel_any 8 (Nat.le_refl _) (.slice (some ⟨w1.heap.size, 0, none⟩) 2 2) (cutS 8 (cutS 9 (Mt.twoS a comb b))) w4 (PartsR.cut (PartsR.cut HPR4.out))
    rw [show (8 : Int) - ((8 : Nat) : Int) = 0 from rfl, cutS_two, deepS_cut] at hdp
    obtain ⟨dp, hdpe⟩ : ∃ x, deepS 8 (Mt.twoS a comb b) = x := ⟨_, rfl⟩
    rw [hdpe] at hdp
    have HDP : Hid (deepS 8 (Mt.twoS a comb b) = dp) := hdpe
    have HEL : Hid (es.length = l.length) := hel
    have hln : l.length ≤ 40 := hl40
    have cs := (blk1 K4.out.2.2).1
    clear hG hR hE hV hsm hl40 hel HD hTA hTT hTe hTp hok hdpe T HPR4 HFA HSW HXA HXB HXA0 HXB0 HGA HGB HM HL HN
    go_wp2_with fail
    refine hdp.mono ?_
    clear hdp cs
    rintro r w5 ⟨rfl, b6⟩
    have b16 := below_next b15 b6
    have HB5 : Hid (Below w4.heap.size w4 w5) := b6
    clear b6
    cases dp with
    | true =>
      go_wp2
      go_ret
      exact ⟨rfl, b16⟩
    | false =>
      clear b15
      go_wp2
      go_loopw [15] (fun y wr => ∃ k : Nat, y = .int .i64 k ∧ k ≤ l.length ∧ Below w5.heap.size w5 wr) (fun y _ => l.length - (intOf y).toNat)
      case atStart => exact ⟨0, rfl, Nat.zero_le _, Below.refl _ _⟩
      case round =>
        obtain ⟨k, rfl, hk, bw⟩ := hrel
        by_cases hlt : k < l.length
        · have hki : (k : Int) < (l.length : Int) := by omega
          have HBW : Hid (Below w4.heap.size w4 wr) := below_next HB5.out bw
          have HBW5 : Hid (Below w5.heap.size w5 wr) := bw
          have hkes : k < es.length := by rw [HEL.out]; exact hlt
          have HKE : Hid (k < es.length) := hkes
          clear bw hkes
          go_upto_block 2 with fail
          go_cut [16] (fun y wx => y = .bool ((List.range l.length).any (fun x => Mt.standV es comb k x && Mt.compoundV es (x : Int) a)) ∧ Below wr.heap.size wr wx)
          case first =>
            go_wp2
            go_loopw [16, 17] (fun y z wx => ∃ (bb : Bool) (j : Nat), y = .bool bb ∧ z = .int .i64 j ∧ j ≤ l.length ∧ Hid ((List.range j).any (fun x => Mt.standV es comb k x && Mt.compoundV es (x : Int) a) = bb) ∧ Below wr.heap.size wr wx) (fun _ z _ => l.length - (intOf z).toNat)
            case atStart => exact ⟨false, 0, rfl, rfl, Nat.zero_le _, rfl, Below.refl _ _⟩
            case round =>
              rename World => wx
              obtain ⟨bb, j, rfl, rfl, hj, HAN, bx⟩ := hrel
              by_cases hjl : j < l.length
              · have hji : (j : Int) < (l.length : Int) := by omega
                have HBX : Hid (Below w4.heap.size w4 wx) := below_next HBW.out bx
                have HBXR : Hid (Below wr.heap.size wr wx) := bx
                have HJE : Hid (j < es.length) := by
                  show j < es.length
                  rw [HEL.out]; exact hjl
                obtain ⟨V, hVV⟩ : ∃ V, Mt.standV es comb k j = V := ⟨_, rfl⟩
                obtain ⟨VA, hVA⟩ : ∃ V, Mt.compoundV es (j : Int) a = V := ⟨_, rfl⟩
                have HVV : Hid (Mt.standV es comb k j = V) := hVV
                have HNEW : Hid ((List.range (j + 1)).any (fun x => Mt.standV es comb k x && Mt.compoundV es (x : Int) a) = (bb || (V && VA))) := by
                  show _ = _
                  rw [Mt.any_more, show (List.range j).any _ = bb from HAN.out, hVV, hVA]
                have KA : Hid (∀ X, Below wx.heap.size wx X → Calls Try.prog 14 #[.pointer (some ⟨tb, 0, none⟩), .int .i64 (j : Int), .agg #[.string a.tag, .slice p1 a.ids.length m1, .slice p2 a.classes.length m2, .slice p3 a.attrs.length m3, .slice p4 a.pss.length m4]] X fun r w' => r = .returned (.bool VA) ∧ Below X.heap.size X w') := fun X hX => by
                  have h := CMA.out j X (below_next HBX.out hX)
                  rwa [hVA] at h
                clear bx hVV hVA
                go_upto_block 4 with fail
                go_cut [18] (fun y wy => y = .bool V ∧ Below wx.heap.size wx wy)
                case first =>
                  clear KA HNEW
                  by_cases h1 : comb = 1
                  · subst h1
                    have hp1 := PAR.out k wx HBX.out
                    have HUP : Hid (Mt.upOn es j (parentV es (k : Int)) = V) := by
                      show _ = _
                      rw [← Mt.stand_up HO.out HKE.out]; exact HVV.out
                    have HPB : Hid (-1 ≤ parentV es (k : Int) ∧ parentV es (k : Int) < (es.length : Int)) := by
                      have h := HKE.out
                      rcases Mt.parentV_lt HO.out h with hn | ⟨u, hn, hu⟩
                      · rw [hn]; exact ⟨by omega, by omega⟩
                      · rw [hn]; exact ⟨by omega, by omega⟩
                    generalize parentV es (k : Int) = P0 at *
                    go_wp2_with fail
                    refine hp1.mono ?_
                    clear hp1
                    rintro r wy ⟨rfl, hwy⟩
                    obtain rfl := hwy.symm
                    clear hwy
                    go_wp2
                    go_loopw [18, 19] (fun y z wq => ∃ (cc : Bool) (P : Int), y = .bool cc ∧ z = .int .i64 P ∧ Hid (-1 ≤ P ∧ P < (es.length : Int)) ∧ Hid ((cc || Mt.upOn es j P) = V) ∧ wq = wx) (fun _ z _ => (intOf z + 1).toNat)
                    case atStart => exact ⟨false, P0, rfl, rfl, HPB, (by show _ = _; rw [Bool.false_or]; exact HUP.out), rfl⟩
                    case round =>
                      rename World => wq
                      clear HPB HUP
                      obtain ⟨cc, P, rfl, rfl, HPB, HUP, hq⟩ := hrel
                      obtain rfl := hq
                      by_cases hP : 0 ≤ P
                      · obtain ⟨u, rfl⟩ : ∃ u : Nat, P = (u : Int) := ⟨P.toNat, by omega⟩
                        have hP' : decide ((0 : Int) ≤ (u : Int)) = true := decide_eq_true hP
                        have hp2 := PAR.out u wq HBX.out
                        have hul : u < es.length := by have := HPB.out.2; omega
                        have HUL : Hid (u < es.length) := hul
                        have HLT : Hid (-1 ≤ parentV es (u : Int) ∧ parentV es (u : Int) < (u : Int)) := by
                          rcases Mt.parentV_lt HO.out hul with hn | ⟨v, hn, hv⟩
                          · rw [hn]; exact ⟨by omega, by omega⟩
                          · rw [hn]; exact ⟨by omega, by omega⟩
                        have HST : Hid (((cc || ((u : Int) == (j : Int))) || Mt.upOn es j (parentV es (u : Int))) = V) := by
                          show _ = _
                          rw [Bool.or_assoc, ← Mt.up_step HO.out hul]; exact HUP.out
                        generalize parentV es (u : Int) = P2 at *
                        clear HUP hul hP
                        cases cc with
                        | true =>
                          go_wp2_with fail
                          refine hp2.mono ?_
                          clear hp2
                          rintro r wy ⟨rfl, hwy⟩
                          obtain rfl := hwy.symm
                          clear hwy
                          go_wp2
                          go_roundw
                          case rel => exact ⟨true, P2, rfl, rfl, ⟨HLT.out.1, by have := HLT.out.2; have := HPB.out.2; omega⟩, HST, by first | rfl | trivial⟩
                          case measure => have := HLT.out; simp [intOf]; omega
                        | false =>
                          rw [Bool.false_or] at HST
                          go_wp2_with fail
                          refine hp2.mono ?_
                          clear hp2
                          rintro r wy ⟨rfl, hwy⟩
                          obtain rfl := hwy.symm
                          clear hwy
                          go_wp2
                          go_roundw
                          case rel => exact ⟨_, P2, rfl, rfl, ⟨HLT.out.1, by have := HLT.out.2; have := HPB.out.2; omega⟩, HST, by first | rfl | trivial⟩
                          case measure => have := HLT.out; simp [intOf]; omega
                      · have hP' : decide ((0 : Int) ≤ P) = false := decide_eq_false hP
                        have hcc : cc = V := by
                          have h := HUP.out
                          rwa [Mt.up_end es j P (by omega), Bool.or_false] at h
                        subst hcc
                        go_wp2
                        go_meet
                        exact ⟨rfl, Below.refl _ _⟩
                  have h1' : (comb == 1) = false := by simpa using h1
                  by_cases h2 : comb = 2
                  · subst h2
                    have hp1 := PAR.out k wx HBX.out
                    have HE : Hid ((parentV es (k : Int) == (j : Int)) = V) := by
                      show _ = _
                      rw [← Mt.stand_child HO.out HKE.out]; exact HVV.out
                    generalize parentV es (k : Int) = P0 at *
                    clear h1
                    go_wp2_with fail
                    refine hp1.mono ?_
                    clear hp1
                    rintro r wy ⟨rfl, hwy⟩
                    obtain rfl := hwy.symm
                    clear hwy
                    go_wp2
                    go_meet
                    exact ⟨by rw [show (P0 == (j : Int)) = V from HE.out], Below.refl _ _⟩
                  have h2' : (comb == 2) = false := by simpa using h2
                  by_cases h3 : comb = 3
                  · subst h3
                    have hp1 := BEF.out k wx HBX.out
                    have HE : Hid ((beforeV es (k : Int) == (j : Int)) = V) := by
                      show _ = _
                      rw [← Mt.stand_next HO.out HKE.out]; exact HVV.out
                    generalize beforeV es (k : Int) = P0 at *
                    clear h1 h2
                    go_wp2_with fail
                    refine hp1.mono ?_
                    clear hp1
                    rintro r wy ⟨rfl, hwy⟩
                    go_wp2
                    go_meet
                    exact ⟨by rw [show (P0 == (j : Int)) = V from HE.out], hwy⟩
                  have h3' : (comb == 3) = false := by simpa using h3
                  by_cases h4 : comb = 4
                  · subst h4
                    have hpk := PAR.out k wx HBX.out
                    have hpj := PAR.out j wx HBX.out
                    have HE : Hid ((decide (0 < k) && decide (0 < j) && decide (j < k) && decide (parentV es (k : Int) = parentV es (j : Int))) = V) := by
                      show _ = _
                      rw [← Mt.stand_after HO.out HKE.out HJE.out]; exact HVV.out
                    generalize parentV es (k : Int) = PK at *
                    generalize parentV es (j : Int) = PJ at *
                    clear h1 h2 h3
                    by_cases g1 : 0 < k
                    · have g1n : decide (0 < k) = true := decide_eq_true (by omega)
                      have g1' : decide ((0 : Int) < (k : Int)) = true := decide_eq_true (by omega)
                      by_cases g2 : 0 < j
                      · have g2n : decide (0 < j) = true := decide_eq_true (by omega)
                        have g2' : decide ((0 : Int) < (j : Int)) = true := decide_eq_true (by omega)
                        by_cases g3 : j < k
                        · have g3n : decide (j < k) = true := decide_eq_true (by omega)
                          have g3' : decide ((j : Int) < (k : Int)) = true := decide_eq_true (by omega)
                          have HE2 : Hid ((PK == PJ) = V) := by
                            have h := HE.out
                            rw [decide_eq_true g1, decide_eq_true g2, decide_eq_true g3] at h
                            show _ = _
                            rw [← h, Bool.eq_iff_iff]; simp
                          clear g1 g2 g3 HE
                          go_wp2_with fail
                          refine hpk.mono ?_
                          clear hpk
                          rintro r wy ⟨rfl, hwy⟩
                          obtain rfl := hwy.symm
                          clear hwy
                          go_wp2_with fail
                          refine hpj.mono ?_
                          clear hpj
                          rintro r wy ⟨rfl, hwy⟩
                          obtain rfl := hwy.symm
                          clear hwy
                          go_wp2
                          go_meet
                          exact ⟨by rw [show (PK == PJ) = V from HE2.out], Below.refl _ _⟩
                        · have g3n : decide (j < k) = false := decide_eq_false (by omega)
                          have g3' : decide ((j : Int) < (k : Int)) = false := decide_eq_false (by omega)
                          obtain rfl : V = false := by rw [← show _ = V from HE.out, decide_eq_false g3]; simp
                          clear g1 g2 g3 HE
                          go_wp2
                          go_meet
                          exact ⟨rfl, Below.refl _ _⟩
                      · have g2n : decide (0 < j) = false := decide_eq_false (by omega)
                        have g2' : decide ((0 : Int) < (j : Int)) = false := decide_eq_false (by omega)
                        obtain rfl : V = false := by rw [← show _ = V from HE.out, decide_eq_false g2]; simp
                        clear g1 g2 HE
                        go_wp2
                        go_meet
                        exact ⟨rfl, Below.refl _ _⟩
                    · have g1n : decide (0 < k) = false := decide_eq_false (by omega)
                      have g1' : decide ((0 : Int) < (k : Int)) = false := decide_eq_false (by omega)
                      obtain rfl : V = false := by rw [← show _ = V from HE.out, decide_eq_false g1]; simp
                      clear g1 HE
                      go_wp2
                      go_meet
                      exact ⟨rfl, Below.refl _ _⟩
                  have h4' : (comb == 4) = false := by simpa using h4
                  obtain rfl : V = false := (show Mt.standV es comb k j = V from HVV.out).symm.trans (Mt.stand_none HO.out HKE.out h1 h2 h3 h4)
                  clear h1 h2 h3 h4
                  go_wp2
                  go_meet
                  exact ⟨rfl, Below.refl _ _⟩
                case rest =>
                  rename World => wy
                  obtain ⟨rfl, bY⟩ := hcut
                  have bRY := below_next HBXR.out bY
                  cases bb with
                  | true =>
                    go_wp2
                    go_roundw
                    case rel => exact ⟨true, j + 1, rfl, by go_num, by omega, HNEW, bRY⟩
                    case measure => simp [intOf]; omega
                  | false =>
                    rw [Bool.false_or] at HNEW
                    cases V with
                    | false =>
                      go_wp2
                      go_roundw
                      case rel => exact ⟨false, j + 1, rfl, by go_num, by omega, HNEW, bRY⟩
                      case measure => simp [intOf]; omega
                    | true =>
                      rw [Bool.true_and] at HNEW
                      have hka := KA.out wy bY
                      obtain ⟨⟨c0, c1, c2, c3, c4⟩, _⟩ := blk5 (K4.out.1.next (below_next HBX.out bY))
                      go_wp2_with fail
                      refine hka.mono ?_
                      clear hka c0 c1 c2 c3 c4
                      rintro r wz ⟨rfl, bZ⟩
                      have bRZ := below_next bRY bZ
                      go_wp2
                      go_roundw
                      case rel => exact ⟨VA, j + 1, rfl, by go_num, by omega, HNEW, bRZ⟩
                      case measure => simp [intOf]; omega
              · have hji : ¬ (j : Int) < (l.length : Int) := by omega
                obtain rfl : j = l.length := by omega
                have HFN : Hid (Value.bool bb = .bool ((List.range l.length).any (fun x => Mt.standV es comb k x && Mt.compoundV es (x : Int) a))) := by
                  show _ = _
                  rw [show (List.range l.length).any _ = bb from HAN.out]
                go_wp2
                go_meet
                exact ⟨HFN.out, bx⟩
          case rest =>
            rename World => wx
            obtain ⟨AH, hAH⟩ : ∃ AH, (List.range l.length).any (fun x => Mt.standV es comb k x && Mt.compoundV es (x : Int) a) = AH := ⟨_, rfl⟩
            rw [hAH] at hcut
            obtain ⟨rfl, bx⟩ := hcut
            obtain ⟨VB, hVB⟩ : ∃ V, Mt.compoundV es (k : Int) b = V := ⟨_, rfl⟩
            have hSV : Mt.selectorV es (k : Int) (Mt.twoS a comb b) = (AH && VB) := by
              rw [Mt.two_sel HO.out HKE.out HDP.out, HEL.out, hAH, hVB]
            have BX := below_next HBW.out bx
            have hcs := CMS.out k wx BX
            rw [hSV] at hcs
            have KB : Hid (∀ X, Below wx.heap.size wx X → Calls Try.prog 14 #[.pointer (some ⟨tb, 0, none⟩), .int .i64 (k : Int), .agg #[.string b.tag, .slice q1 b.ids.length n1, .slice q2 b.classes.length n2, .slice q3 b.attrs.length n3, .slice q4 b.pss.length n4]] X fun r w' => r = .returned (.bool VB) ∧ Below X.heap.size X w') := fun X hX => by
              have h := CMB.out k X (below_next BX hX)
              rwa [hVB] at h
            have cs := (blk1 (K4.out.2.2.next BX)).1
            have b5x := below_next HBW5.out bx
            have HBX : Hid (Below w4.heap.size w4 wx) := BX
            clear hSV hVB hAH BX bx
            go_wp2_with fail
            refine hcs.mono ?_
            clear hcs cs
            rintro r wy ⟨rfl, bY⟩
            have b5y := below_next b5x bY
            cases AH with
            | false =>
              go_wp2
              go_roundw
              case rel => exact ⟨k + 1, by go_num, by omega, b5y⟩
              case measure => simp [intOf]; omega
            | true =>
              have hkb := KB.out wy bY
              obtain ⟨⟨d0, d1, d2, d3, d4⟩, _⟩ := blk5 (K4.out.2.1.next (below_next HBX.out bY))
              go_wp2_with fail
              refine hkb.mono ?_
              clear hkb d0 d1 d2 d3 d4
              rintro r wz ⟨rfl, bZ⟩
              have b5z := below_next b5y bZ
              go_wp2
              go_roundw
              case rel => exact ⟨k + 1, by go_num, by omega, b5z⟩
              case measure => simp [intOf]; omega
        · have hki : ¬ (k : Int) < (l.length : Int) := by omega
          have b9 := below_next b16 bw
          go_wp2
          go_ret
          exact ⟨rfl, b9⟩


set_option maxRecDepth 100000 in
theorem matchCombs_lifted (os : Os) (started : os.Started) (H : Type) (enc : TypeId × Value → H) :
    ReturnsInHanded {} Try.checked os 5 .any (Rows.matchCombsSpec.pre6 enc Try.prog Try.f5 Rows.matchCombsRow.domain false) (Rows.matchCombsSpec.post enc Try.prog Try.f5 false true false false) := by
  refine returnsInHanded_of_change_shaped (C := Try.checked) ownNone started (by kernel_rfl) Try.func5
    (ChangeSpec.witness6 (enc := enc) (C := Try.checked) false ⟨#[], #[.slice none 0 0, .agg #[.string ⟨#[]⟩, .slice none 0 0, .slice none 0 0, .slice none 0 0, .slice none 0 0], .agg #[.string ⟨#[]⟩, .slice none 0 0, .slice none 0 0, .slice none 0 0, .slice none 0 0], .int .i64 0], []⟩ 8 (by kernel_rfl) (by kernel_rfl) (by kernel_rfl) (by kernel_rfl)) ?_
  intro W base args ds gs before hval hW _ hsz0 hS _
  have hW' := hW
  obtain ⟨p, q, hA0, hV, rfl, hfz, hnd⟩ := hW
  have hA : DataW.TrodAll enc Try.prog W 0 (fun _ => true) true Try.f5.params.toList args.toList ds p := hA0
  rw [Try.params5] at hA hval hsz0
  obtain ⟨v0, vs0, d0, ds0, p0, q0, hargs, rfl, rfl, h0, r0⟩ := trodAll_cons hA
  obtain ⟨v1, vs1, d1, ds1, p1, q1, rfl, rfl, rfl, h1, r1⟩ := trodAll_cons r0
  obtain ⟨v2, vs2, d2, ds2, p2, q2, rfl, rfl, rfl, h2, r2⟩ := trodAll_cons r1
  obtain ⟨v3, vs3, d3, ds3, p3, q3, rfl, rfl, rfl, h3, r3⟩ := trodAll_cons r2
  obtain ⟨rfl, rfl, rfl⟩ := trodAll_nil r3
  obtain rfl : args = #[v0, v1, v2, v3] := by cases args; simp_all
  obtain ⟨rfl, rfl⟩ := trodVars_none hV
  have hsz := List.all_eq_true.1 hsz0
  obtain ⟨a0, len0, cap0, rfl⟩ := okWide_slice Try.underlying22 (hval 0 22 v0 rfl rfl)
  have k0 := h0
  have lt0 : ∀ x ∈ p0, x.block < W.heap.size := by obtain ⟨m, hm⟩ := k0; exact DataW.trod_lt m _ _ _ hm
  obtain ⟨z0, w0, y0, u0⟩ := Dm.nodesAt_of_reads k0 (fun n hn => by simpa using hsz n (DataW.weights_mem_each (j := 0) rfl rfl n hn))
  have k1 := h1
  have lt1 : ∀ x ∈ p1, x.block < W.heap.size := by obtain ⟨m, hm⟩ := k1; exact DataW.trod_lt m _ _ _ hm
  obtain ⟨z1, w1, y1⟩ := Wg.cmpW_of_reads k1 (hval 1 40 v1 rfl rfl) (fun n hn => by simpa using hsz n (DataW.weights_mem_each (j := 1) rfl rfl n hn))
  have k2 := h2
  have lt2 : ∀ x ∈ p2, x.block < W.heap.size := by obtain ⟨m, hm⟩ := k2; exact DataW.trod_lt m _ _ _ hm
  obtain ⟨z2, w2, y2⟩ := Wg.cmpW_of_reads k2 (hval 2 40 v2 rfl rfl) (fun n hn => by simpa using hsz n (DataW.weights_mem_each (j := 2) rfl rfl n hn))
  obtain ⟨a3, rfl, rfl, rfl, w3⟩ := open_int Try.underlying3 (hval 3 3 v3 rfl rfl) h3
  clear hA0
  refine (matchCombs_walk W (Try.laysM144.s1_3 W hS) _ z0 w0 y0 u0 v1 z1 w1 y1 v2 z2 w2 y2 a3 w3).mono fun e W' ⟨he, bel⟩ => ?_
  subst he
  exact ⟨_, rfl, _, _, _, [], _, [], hW', trodAll_mk1 (shut_bool Try.underlying4 _), (trodAll_cons_mk (Below.trod laidOut (by kernel_rfl) (of_decide_eq_true (by kernel_rfl)) k0 bel lt0) (trodAll_cons_mk (Below.trod laidOut (by kernel_rfl) (of_decide_eq_true (by kernel_rfl)) k1 bel lt1) (trodAll_cons_mk (Below.trod laidOut (by kernel_rfl) (of_decide_eq_true (by kernel_rfl)) k2 bel lt2) (trodAll_cons_mk (shut_int Try.underlying3 w3) trodAll_mk0)))), rfl, bel.frame _, fun h => by cases h⟩

theorem matchCombs_said : Rows.MatchCombsSaid :=
  OpenClaim.holds_of_wide 5 Try.f5 rfl rfl rfl rfl rfl rfl rfl ⟨rfl, rfl, rfl, rfl, rfl⟩ rfl rfl rfl rfl rfl (by kernel_rfl) Try.func5 (by kernel_rfl)
    (of_decide_eq_true (by kernel_rfl)) (by unfold Func.isWrapper; first | (rw [if_pos (by decide +kernel)]; kernel_rfl) | (rw [if_neg (by decide +kernel)]; exact ⟨rfl, rfl⟩))
    (fun os started H enc _ => matchCombs_lifted os started H enc)
#print axioms matchCombs_said


end Go.Proofs.Ytchfnnoabejlpaa
