/- For every three integers: the law tapestrierlaw10.MatchNth returns true; no condition. -/
import Derived.Test.YtchfnnoabejlpaaMtStar
import Derived.Test.YtchfnnoabejlpaaDmArgs
import Derived.Test.YtchfnnoabejlpaaRows
import Derived.HandedShaped
import Derived.Laws.OwnMore
namespace Go.Proofs.Ytchfnnoabejlpaa
open Go.Proofs.Ytchfnnoabejlpaa.Tre
open Go Go.ChangeShapes Go.WideShapes Go.ChangeAt Go.RowKit Dm Mt

theorem nodes_own {W : World} {b : Nat} {v : Value} {l : List Nv} (h : W.ownsRow b 51 5 v l.length (l.flatMap nvCells)) (hc : ∀ n ∈ l, StrsAt W.heap.size W n.cv n.nd.cls) (ha : ∀ n ∈ l, PairsAt W.heap.size W n.av n.nd.ats) : NodesAt W.heap.size W v l :=
  ⟨SlAt.of_owns (sz := 5) (f := nvCells) (fun _ => rfl) h, hc, ha⟩

theorem small_quo {x a : Int} (h1 : -9223372036854775808 < x) (h2 : x < 9223372036854775808) : wrap64 (x.tdiv a) = x.tdiv a := by
  have h := Int.natAbs_tdiv x a
  have h3 : x.natAbs.div a.natAbs ≤ x.natAbs := Nat.div_le_self ..
  rw [← h] at h3
  clear h
  generalize x.tdiv a = y at h3 ⊢
  unfold wrap64
  omega
set_option maxRecDepth 100000 in
set_option maxHeartbeats 8000000 in
theorem matchNth_walk (w : World) (hM : Mt.ML w) (n : Int) (_hn : (Lit.int .i64 n).wf = true) (a : Int) (ha : (Lit.int .i64 a).wf = true) (b : Int) (hb : (Lit.int .i64 b).wf = true) :
    Calls Try.prog 6 #[.int .i64 n, .int .i64 a, .int .i64 b] w fun e w' => e = .returned (.bool true) ∧ Below w.heap.size w w' := by
  obtain ⟨i0, hi, hz0, hz1, hz2⟩ := info_parts infoNode
  have h0 := Mt.alive_any w hM
  have HM : Hid (Mt.ML w) := hM
  have hm : IntKind.i64.min = -9223372036854775808 := rfl
  have ha64 : i64 a := by simp [Lit.wf] at ha; unfold i64; constructor <;> omega
  have hb64 : i64 b := by simp [Lit.wf] at hb; unfold i64; constructor <;> omega
  have HA64 : Hid (i64 a) := ha64
  have HB64 : Hid (i64 b) := hb64
  clear hM ha hb ha64 hb64 hm
  go_enter Try.func6, Try.ntmps6
  go_wp2_with fail
  refine h0.mono ?_
  clear h0
  rintro e w1 ⟨rfl, b1⟩
  by_cases g1 : n < 0
  · go_wp2
    go_ret
    exact ⟨rfl, b1⟩
  have g1' : decide (n < 0) = false := decide_eq_false g1
  by_cases g2 : 39 < n
  · go_wp2
    go_ret
    exact ⟨rfl, b1⟩
  have g2' : decide (39 < n) = false := decide_eq_false g2
  obtain ⟨M, rfl⟩ : ∃ M : Nat, n = (M : Int) := ⟨n.toNat, by omega⟩
  have hM1 : M ≤ 39 := by omega
  clear g1 g2
  obtain ⟨W, hW⟩ : ∃ W, w1.alloc (.cells #[.int .i64 (-1), .string ⟨#[]⟩, .string ⟨#[]⟩, .slice none 0 0, .slice none 0 0] 51) = W := ⟨_, rfl⟩
  have START : Hid (W.ownsRow w1.heap.size 51 5 (.slice (some ⟨w1.heap.size, 0, none⟩) 1 1) 1 ((starV 0).flatMap nvCells) ∧ Below w1.heap.size w1 W) := by
    rw [← hW]
    exact ⟨World.ownsRow_lit w1 #[.int .i64 (-1), .string ⟨#[]⟩, .string ⟨#[]⟩, .slice none 0 0, .slice none 0 0] 1 (Nat.le_refl _) (by decide) rfl, (Below.refl _ _).alloc (Nat.le_refl _) _⟩
  go_wp2
  clear g1' g2' hW
  go_loopw [8, 9] (fun x y wr => ∃ (k : Nat) (out : Value), x = out ∧ y = .int .i64 k ∧ k ≤ M ∧ wr.ownsRow w1.heap.size 51 5 out (k + 1) ((starV k).flatMap nvCells) ∧ Below w1.heap.size w1 wr) (fun _ y _ => M - (intOf y).toNat)
  case atStart => exact ⟨0, _, rfl, rfl, Nat.zero_le _, START.out.1, START.out.2⟩
  case round =>
    clear START
    obtain ⟨k, out, rfl, rfl, hk, hr, hb⟩ := hrel
    have hsz := hb.size
    obtain ⟨q, c, rfl⟩ := owns_form hr
    by_cases hlt : k < M
    · have hki : (k : Int) < (M : Int) := by omega
      have HA : ∀ u ∈ nvCells (bare 0), u.oneCell' = true := fun u hu => by simp [nvCells, bare] at hu; rcases hu with rfl | rfl | rfl | rfl | rfl <;> rfl
      have rA := hr.alloc (.cells #[.int .i64 0, .string ⟨#[]⟩, .string ⟨#[]⟩, .slice none 0 0, .slice none 0 0] 51)
      have hsA : w1.heap.size ≤ (wr.alloc (.cells #[.int .i64 0, .string ⟨#[]⟩, .string ⟨#[]⟩, .slice none 0 0, .slice none 0 0] 51)).heap.size := by rw [World.size_alloc]; omega
      go_wp2_with (at_builtin; refine wpList_append_own _ rfl _ _ 22 rfl w1.heap.size 51 i0 (.agg #[.int .i64 0, .string ⟨#[]⟩, .string ⟨#[]⟩, .slice none 0 0, .slice none 0 0]) 5 88 Try.underlying22 hi hz0 hz1 hz2 rfl (by decide) (.slice q (k + 1) c) _ _ rfl rA ⟨wr.heap.size, 0, none⟩ 1 1 (nvCells (bare 0)) rfl rfl (cells_plain wr (nvCells (bare 0)) _) HA (by unfold maxLen; omega) (by omega) hsA ?_; intro v4 w4 hown4 hgrow4 hnil4)
      have hb4 : Below w1.heap.size w1 w4 := (hb.alloc hsz _).grown hgrow4 hsA (fun j e => (owns_lt rA e).1)
      have hown5 : w4.ownsRow w1.heap.size 51 5 v4 (k + 1 + 1) ((starV (k + 1)).flatMap nvCells) := by
        show w4.ownsRow _ _ _ _ _ ((starV k ++ [bare 0]).flatMap nvCells)
        rw [List.flatMap_append]
        simpa using hown4
      exact ⟨⟨k + 1, v4, rfl, by go_num, by omega, hown5, hb4⟩, by simp [intOf]; omega⟩
    · have hki : ¬ (k : Int) < (M : Int) := by omega
      obtain rfl : k = M := by omega
      have hnodes : NodesAt wr.heap.size wr (.slice q (k + 1) c) (starV k) := nodes_own (b := w1.heap.size) (by rw [starV_len]; exact hr) (fun n h => by obtain ⟨p, rfl⟩ := starV_bare k n h; exact strs_nil _ _) (fun n h => by obtain ⟨p, rfl⟩ := starV_bare k n h; exact pairs_nil _ _)
      have hOk : ∀ n ∈ starV k, NdOk n.nd := fun n h => by obtain ⟨p, rfl⟩ := starV_bare k n h; exact bare_ok p
      obtain ⟨es, hV, hel, hpl⟩ := star_places k (by omega)
      have hn := new_any _ (starV k) wr hnodes hOk
      rw [starV_nd] at hn
      have HNS : Hid (NodesAt wr.heap.size wr (.slice q (k + 1) c) (starV k)) := hnodes
      have HOK : Hid (∀ n ∈ starV k, NdOk n.nd) := hOk
      have HPL : Hid (∀ e : Nat, 1 ≤ e → e ≤ k → placeV es (e : Int) = (e : Int)) := hpl
      have HV : Hid (newV (starN k) = .ok es) := hV
      have HEL : Hid (es.length = k + 1) := hel
      have bb := below_next b1 hb
      clear hnodes hOk hr hb hsz hV hel hpl b1 hi hz0 hz1 hz2
      go_wp2_with fail
      refine hn.mono ?_
      clear hn
      rintro e w2 ⟨hm, b2⟩
      unfold Made at hm
      rcases hm with ⟨tb, g, cap, qs, hV, rfl, hT⟩ | ⟨z, hV, _⟩
      rotate_left
      · rw [HV.out] at hV; cases hV
      have hq : qs.map Em.e = es := by rw [HV.out] at hV; exact (Except.ok.inj hV).symm
      have bb2 := below_next bb b2
      have hG := (good_new (l := starV k) (by rw [starV_nd]; exact hV) hT HOK.out (HM.out.next bb2) (fun n h p hp => by
        obtain ⟨pp, rfl⟩ := starV_bare k n h
        cases hp)).1
      rw [hq] at hG
      have HG : Hid (Mt.Good w2 tb es) := hG
      obtain ⟨X1, hX1⟩ : ∃ X1, w2.alloc (.cells #[.int .i64 6, .int .i64 a, .int .i64 b, .slice none 0 0] 56) = X1 := ⟨_, rfl⟩
      have e1 : Below w2.heap.size w2 X1 := by rw [← hX1]; exact (Below.refl _ _).alloc (Nat.le_refl _) _
      have k1 : Blk X1 w2.heap.size 56 (psCells (nthQ a b) (.slice none 0 0)) := by rw [← hX1]; exact Blk.new w2 56 (psCells (nthQ a b) (.slice none 0 0))
      have s1 : X1.heap.size = w2.heap.size + 1 := by rw [← hX1, World.size_alloc]
      obtain ⟨X2, hX2⟩ : ∃ X2, X1.alloc (.cells #[.string ⟨#[]⟩, .slice none 0 0, .slice none 0 0, .slice none 0 0, .slice (some ⟨w2.heap.size, 0, none⟩) 1 1] 40) = X2 := ⟨_, rfl⟩
      have e2 : Below X1.heap.size X1 X2 := by rw [← hX2]; exact (Below.refl _ _).alloc (Nat.le_refl _) _
      have k2 : Blk X2 X1.heap.size 40 [.string ⟨#[]⟩, .slice none 0 0, .slice none 0 0, .slice none 0 0, .slice (some ⟨w2.heap.size, 0, none⟩) 1 1] := by rw [← hX2]; exact Blk.new X1 40 _
      rw [s1] at k2
      have e12 := below_next e1 e2
      have START : Hid (Below X2.heap.size X2 X2 ∧ Below w2.heap.size w2 X2 ∧ Blk X2 w2.heap.size 56 (psCells (nthQ a b) (.slice none 0 0)) ∧ Blk X2 (w2.heap.size + 1) 40 [.string ⟨#[]⟩, .slice none 0 0, .slice none 0 0, .slice none 0 0, .slice (some ⟨w2.heap.size, 0, none⟩) 1 1]) := ⟨Below.refl _ _, e12, k1.next e2, k2⟩
      have HXX : Hid ((w2.alloc (.cells #[.int .i64 6, .int .i64 a, .int .i64 b, .slice none 0 0] 56)).alloc (.cells #[.string ⟨#[]⟩, .slice none 0 0, .slice none 0 0, .slice none 0 0, .slice (some ⟨w2.heap.size, 0, none⟩) 1 1] 40) = X2) := by
        show _ = _
        rw [hX1, hX2]
      clear hG hq hV hT k1 k2 e1 e2 e12 s1 hX1 hX2
      go_wp2_with fail
      rw [show _ = X2 from HXX.out]
      clear HXX
      go_loopw [13] (fun y wr => ∃ (e : Nat), y = .int .i64 e ∧ 1 ≤ e ∧ e ≤ k + 1 ∧ Below X2.heap.size X2 wr) (fun y _ => k + 1 - (intOf y).toNat)
      case atStart => exact ⟨1, rfl, Nat.le_refl _, by omega, START.out.1⟩
      case round =>
        obtain ⟨e, rfl, he1, he2, bw⟩ := hrel
        obtain ⟨_, t2, t3, t4⟩ := START.out
        have hwl := below_next t2 bw
        have HWL : Hid (Below w2.heap.size w2 wr) := hwl
        by_cases hle : e ≤ k
        · have hei : (e : Int) ≤ (k : Int) := by omega
          have HPS : Hid (Blk wr w2.heap.size 56 (psCells (nthQ a b) (.slice none 0 0))) := t3.next bw
          have HKC : Hid (Blk wr (w2.heap.size + 1) 40 [.string ⟨#[]⟩, .slice none 0 0, .slice none 0 0, .slice none 0 0, .slice (some ⟨w2.heap.size, 0, none⟩) 1 1]) := t4.next bw
          have HCM : Hid (∀ X, Below wr.heap.size wr X → Calls Try.prog 14 #[.pointer (some ⟨tb, 0, none⟩), .int .i64 (e : Int), .agg #[.string ⟨#[]⟩, .slice none 0 0, .slice none 0 0, .slice none 0 0, .slice (some ⟨w2.heap.size, 0, none⟩) 1 1]] X fun r w' => r = .returned (.bool (inRowV e a b)) ∧ Below X.heap.size X w') := fun X hX => by
            have h := (HG.out.next (below_next hwl hX)).cmp e 0 (psCp (nthQ a b)) _ _ _ _ (cp_ps (Q := SelsAt 0 X.heap.size X) (HPS.out.next hX) ⟨rfl, _, _, rfl⟩ ⟨show (-9223372036854775808 : Int) ≤ 6 by decide, show (6 : Int) ≤ 9223372036854775807 by decide⟩ HA64.out HB64.out (Nat.zero_le _))
            rw [nth_V (by rw [HEL.out]; omega) (HPL.out e he1 hle)] at h
            exact h
          obtain ⟨V, hVV⟩ : ∃ V, inRowV e a b = V := ⟨_, rfl⟩
          have HVV : Hid (inRowV e a b = V) := hVV
          rw [hVV] at HCM
          clear hVV t2 t3 t4 hwl
          obtain ⟨SM, hSM⟩ : ∃ SM, decide (a ≠ 0 ∧ -1073741824 < a ∧ a < 1073741824 ∧ -1073741824 < b ∧ b < 1073741824) = SM := ⟨_, rfl⟩
          have HSM : Hid (decide (a ≠ 0 ∧ -1073741824 < a ∧ a < 1073741824 ∧ -1073741824 < b ∧ b < 1073741824) = SM) := hSM
          clear hSM
          go_upto_region 15 with fail
          go_cut [76] (fun x wx => x = .bool SM ∧ wx = wr)
          case first =>
            cases h1 : (a != 0) with
            | false =>
              obtain rfl : SM = false := by rw [← HSM.out]; exact decide_eq_false (fun h => by simp [h.1] at h1)
              go_wp2
              go_meet
              exact ⟨rfl, rfl⟩
            | true =>
              cases h2 : decide (-1073741824 < a) with
              | false =>
                obtain rfl : SM = false := by rw [← HSM.out]; exact decide_eq_false (fun h => by simp [h.2.1] at h2)
                go_wp2
                go_meet
                exact ⟨rfl, rfl⟩
              | true =>
                cases h3 : decide (a < 1073741824) with
                | false =>
                  obtain rfl : SM = false := by rw [← HSM.out]; exact decide_eq_false (fun h => by simp [h.2.2.1] at h3)
                  go_wp2
                  go_meet
                  exact ⟨rfl, rfl⟩
                | true =>
                  cases h4 : decide (-1073741824 < b) with
                  | false =>
                    obtain rfl : SM = false := by rw [← HSM.out]; exact decide_eq_false (fun h => by simp [h.2.2.2.1] at h4)
                    go_wp2
                    go_meet
                    exact ⟨rfl, rfl⟩
                  | true =>
                    have h5 : decide (b < 1073741824) = SM := by
                      rw [← HSM.out]
                      have g1 : a ≠ 0 := by simpa using h1
                      simp [g1, of_decide_eq_true h2, of_decide_eq_true h3, of_decide_eq_true h4]
                    go_wp2
                    go_meet
                    exact ⟨rfl, rfl⟩
          case rest =>
            rename World => wz
            obtain ⟨rfl, hwz⟩ := hcut
            subst hwz
            go_upto_if 76 with fail
            go_cut [14] (fun x wx => x = .bool V ∧ Below wz.heap.size wz wx)
            case first =>
             cases SM with
             | true =>
               have HS : Hid (a ≠ 0 ∧ -1073741824 < a ∧ a < 1073741824 ∧ -1073741824 < b ∧ b < 1073741824) := show (a ≠ 0 ∧ -1073741824 < a ∧ a < 1073741824 ∧ -1073741824 < b ∧ b < 1073741824) from of_decide_eq_true (show decide _ = true from HSM.out)
               have hw : IntKind.i64.wrap ((e : Int) - b) = (e : Int) - b := by rw [IntKind.wrap_i64]; have := HS.out; omega
               have ha0 : ¬ a = 0 := HS.out.1
               have hwq : wrap64 (((e : Int) - b).tdiv a) = ((e : Int) - b).tdiv a := small_quo (by have := HS.out; omega) (by have := HS.out; omega)
               have hV := small_nth (e := e) (b := b) HS.out.1
               rw [show inRowV e a b = V from HVV.out] at hV
               cases hd : decide (((e : Int) - b).tmod a = 0) with
               | false =>
                 have hd' : (((e : Int) - b).tmod a == 0) = false := by simpa using hd
                 rw [hd, Bool.false_and] at hV
                 subst hV
                 clear hd
                 go_wp2
                 go_meet
                 exact ⟨rfl, Below.refl _ _⟩
               | true =>
                 have hd' : (((e : Int) - b).tmod a == 0) = true := by simpa using hd
                 rw [hd, Bool.true_and] at hV
                 clear hd
                 go_wp2
                 go_meet
                 exact ⟨by rw [hV], Below.refl _ _⟩
             | false =>
               cases h1 : (a != 0) with
               | false =>
                 have hV : (b == (e : Int)) = V := by
                   rw [← HVV.out, show a = 0 by simpa using h1, nth_zero]
                   rw [Bool.eq_iff_iff]; simp
                 go_wp2
                 go_meet
                 exact ⟨by rw [hV], Below.refl _ _⟩
               | true =>
                 cases h2 : (b != (e : Int)) with
                 | false =>
                   have hV : (b == (e : Int)) = V := by
                     rw [← HVV.out, show b = (e : Int) by simpa using h2, nth_same _ _ (by simpa using h1)]
                     simp
                   go_wp2
                   go_meet
                   exact ⟨by rw [hV], Below.refl _ _⟩
                 | true =>
                   have h1' := h1
                   have h2' := h2
                   have hr := refNew_any _ (starV k) wz (HNS.out.next (below_next b2 HWL.out)) HOK.out
                   have HV2 : Hid (newV ((starV k).map Nv.nd) = .ok es) := by
                     show _ = _
                     rw [starV_nd]; exact HV.out
                   clear h1 h2
                   have h1 : (a != 0) = true := h1'
                   have h2 : (b != (e : Int)) = true := h2'
                   go_wp2_with fail
                   refine hr.mono ?_
                   clear hr
                   rintro r wv ⟨hm, bv⟩
                   unfold RMade at hm
                   rcases hm with ⟨rb, rnv, rdv, ns, ds, es2, hV, rfl, hR, hE⟩ | ⟨z, hV, _⟩
                   rotate_left
                   · rw [HV2.out] at hV; cases hV
                   obtain rfl : es2 = es := by rw [HV2.out] at hV; exact (Except.ok.inj hV).symm
                   have hq : Calls Try.prog 15 #[.pointer (some ⟨rb, 0, none⟩), .int .i64 (e : Int), .agg #[.string ⟨#[]⟩, .slice none 0 0, .slice none 0 0, .slice none 0 0, .slice (some ⟨w2.heap.size, 0, none⟩) 1 1]] wv fun r w' => r = .returned (.bool V) ∧ Below wv.heap.size wv w' := by
                     obtain ⟨o1, o2, o3⟩ := Dm.newV_ok hV
                     have hAt : (Rf.TE.mk wz.heap.size rb rnv rdv ns ds es2).At wv := ⟨hR, hE, o1, show es2.length ≤ 4096 by rw [HEL.out]; omega, fun n hn p hp => by
                       have h4 : n.nd ∈ es2.map El.nd := by rw [← hE.nds]; exact List.mem_map_of_mem hn
                       obtain ⟨el, hel, h5⟩ := List.mem_map.1 h4
                       obtain ⟨m, hm, h6⟩ := Rf.newV_nds hV el hel
                       obtain ⟨m2, hm2, rfl⟩ := List.mem_map.1 hm
                       obtain ⟨pp, rfl⟩ := starV_bare k m2 hm2
                       rw [← h5, h6] at hp
                       cases hp⟩
                     have q := Rf.compound_any (Rf.TE.mk wz.heap.size rb rnv rdv ns ds es2) (psCp (nthQ a b)) (.slice none 0 0) (.slice none 0 0) (.slice none 0 0) (.slice (some ⟨w2.heap.size, 0, none⟩) 1 1) e wv hAt (show e < es2.length by rw [HEL.out]; omega) (cp_nthC (HPS.out.next bv) (HPS.out.next bv).lt) ⟨⟨fun _ h => (by cases h), fun q hq => by
                       rw [List.mem_singleton.1 (show q ∈ [nthQ a b] from hq)]
                       exact ⟨HA64.out, HB64.out⟩⟩, fun q hq s hs => by
                       rw [List.mem_singleton.1 (show q ∈ [nthQ a b] from hq)] at hs
                       cases hs⟩
                     rw [show Rf.compoundV (Rf.TE.mk wz.heap.size rb rnv rdv ns ds es2).es e (psCp (nthQ a b)) = V from (nth_R (HPL.out e he1 hle) a b).trans HVV.out] at q
                     exact q
                   obtain ⟨⟨c0, c1, c2, c3, c4⟩, _⟩ := blk5 (HKC.out.next bv)
                   clear hV hR hE
                   go_wp2_with fail
                   refine hq.mono ?_
                   clear hq c0 c1 c2 c3 c4
                   rintro r wy ⟨rfl, by1⟩
                   have b10 := below_next bv by1
                   go_wp2
                   go_meet
                   exact ⟨rfl, b10⟩
            case rest =>
              rename World => wu
              obtain ⟨rfl, bz⟩ := hcut
              have hcm := HCM.out wu bz
              obtain ⟨⟨c0, c1, c2, c3, c4⟩, _⟩ := blk5 (HKC.out.next bz)
              have b9 := below_next bw bz
              go_wp2_with fail
              refine hcm.mono ?_
              clear hcm c0 c1 c2 c3 c4
              rintro r wy ⟨rfl, by1⟩
              have b10 := below_next b9 by1
              go_wp2
              go_roundw
              case rel => exact ⟨e + 1, by go_num, by omega, by omega, b10⟩
              case measure => simp [intOf]; omega
        · have hei : ¬ (e : Int) ≤ (k : Int) := by omega
          have b9 := below_next bb2 HWL.out
          go_wp2
          go_ret
          exact ⟨rfl, b9⟩


set_option maxRecDepth 100000 in
theorem matchNth_lifted (os : Os) (started : os.Started) (H : Type) (enc : TypeId × Value → H) :
    ReturnsInHanded {} Try.checked os 6 .any (Rows.matchNthSpec.pre6 enc Try.prog Try.f6 Rows.matchNthRow.domain false) (Rows.matchNthSpec.post enc Try.prog Try.f6 false true false false) := by
  refine returnsInHanded_of_change_shaped (C := Try.checked) ownNone started (by kernel_rfl) Try.func6
    (ChangeSpec.witness6 (enc := enc) (C := Try.checked) false ⟨#[], #[.int .i64 0, .int .i64 0, .int .i64 0], []⟩ 8 (by kernel_rfl) (by kernel_rfl) (by kernel_rfl) (by kernel_rfl)) ?_
  intro W base args ds gs before hval hW _ hsz0 hS _
  have hW' := hW
  obtain ⟨p, q, hA0, hV, rfl, hfz, hnd⟩ := hW
  have hA : DataW.TrodAll enc Try.prog W 0 (fun _ => true) true Try.f6.params.toList args.toList ds p := hA0
  rw [Try.params6] at hA hval hsz0
  obtain ⟨v0, vs0, d0, ds0, p0, q0, hargs, rfl, rfl, h0, r0⟩ := trodAll_cons hA
  obtain ⟨v1, vs1, d1, ds1, p1, q1, rfl, rfl, rfl, h1, r1⟩ := trodAll_cons r0
  obtain ⟨v2, vs2, d2, ds2, p2, q2, rfl, rfl, rfl, h2, r2⟩ := trodAll_cons r1
  obtain ⟨rfl, rfl, rfl⟩ := trodAll_nil r2
  obtain rfl : args = #[v0, v1, v2] := by cases args; simp_all
  obtain ⟨rfl, rfl⟩ := trodVars_none hV
  obtain ⟨a0, rfl, rfl, rfl, w0⟩ := open_int Try.underlying3 (hval 0 3 v0 rfl rfl) h0
  obtain ⟨a1, rfl, rfl, rfl, w1⟩ := open_int Try.underlying3 (hval 1 3 v1 rfl rfl) h1
  obtain ⟨a2, rfl, rfl, rfl, w2⟩ := open_int Try.underlying3 (hval 2 3 v2 rfl rfl) h2
  clear hA0
  refine (matchNth_walk W (Try.laysM144.s1_3 W hS) a0 w0 a1 w1 a2 w2).mono fun e W' ⟨he, bel⟩ => ?_
  subst he
  exact ⟨_, rfl, _, _, _, [], _, [], hW', trodAll_mk1 (shut_bool Try.underlying4 _), (trodAll_cons_mk (shut_int Try.underlying3 w0) (trodAll_cons_mk (shut_int Try.underlying3 w1) (trodAll_cons_mk (shut_int Try.underlying3 w2) trodAll_mk0))), rfl, bel.frame _, fun h => by cases h⟩

theorem matchNth_said : Rows.MatchNthSaid :=
  OpenClaim.holds_of_wide 6 Try.f6 rfl rfl rfl rfl rfl rfl rfl ⟨rfl, rfl, rfl, rfl, rfl⟩ rfl rfl rfl rfl rfl (by kernel_rfl) Try.func6 (by kernel_rfl)
    (of_decide_eq_true (by kernel_rfl)) (by unfold Func.isWrapper; first | (rw [if_pos (by decide +kernel)]; kernel_rfl) | (rw [if_neg (by decide +kernel)]; exact ⟨rfl, rfl⟩))
    (fun os started H enc _ => matchNth_lifted os started H enc)
#print axioms matchNth_said


end Go.Proofs.Ytchfnnoabejlpaa
