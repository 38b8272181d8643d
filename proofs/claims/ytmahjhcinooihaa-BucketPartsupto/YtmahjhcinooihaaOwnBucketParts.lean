/- For every two lists of rules and every node (inputs without rings): the law tapestrierlaw12.BucketParts returns true and leaves its arguments as they were; no other condition. -/
import Derived.Test.YtmahjhcinooihaaBkAlive
import Derived.Test.YtmahjhcinooihaaBkD
import Derived.Test.YtmahjhcinooihaaRows
import Derived.JoinedCond
import Derived.Deep.CondSized
namespace Go.Proofs.Ytmahjhcinooihaa
open Go.Proofs.Ytmahjhcinooihaa.Tre
open Go Go.ChangeShapes Go.WideShapes Go.ChangeAt Go.RowKit Sl Wg Bk

/-! ### plain facts -/
theorem hits_app (bs : List Bkt) : ∀ (a b : List Rl) (i : Nat), hitsAt bs i (a ++ b) = hitsAt bs i a ++ hitsAt bs (i + a.length) b
  | [], b, i => rfl
  | r :: a, b, i => by
    have ih := hits_app bs a b (i + 1)
    rw [show i + 1 + a.length = i + (r :: a).length by rw [List.length_cons]; omega] at ih
    show (if hitB bs r then i :: hitsAt bs (i + 1) (a ++ b) else hitsAt bs (i + 1) (a ++ b)) = (if hitB bs r then i :: hitsAt bs (i + 1) a else hitsAt bs (i + 1) a) ++ _
    rw [ih]
    split <;> rfl
theorem hits_add (bs : List Bkt) (k : Nat) : ∀ (b : List Rl) (i : Nat), hitsAt bs (k + i) b = (hitsAt bs i b).map (k + ·)
  | [], _ => rfl
  | r :: b, i => by
    have ih := hits_add bs k b (i + 1)
    show (if hitB bs r then (k + i) :: hitsAt bs (k + i + 1) b else hitsAt bs (k + i + 1) b) = List.map _ (if hitB bs r then i :: hitsAt bs (i + 1) b else hitsAt bs (i + 1) b)
    rw [Nat.add_assoc, ih]
    split <;> rfl
theorem forV_app (a b : List Rl) (bs : List Bkt) : forV (a ++ b) bs = forV a bs ++ (forV b bs).map (a.length + ·) := by
  unfold forV
  rw [hits_app, Nat.zero_add]
  have := hits_add bs a.length b 0
  rw [Nat.add_zero] at this
  rw [this]
theorem lenV_app (a b : List Rl) : lenV (a ++ b) = lenV a + lenV b := by simp [lenV]
theorem rowL_one {d n : Nat} {W : World} (c : List Value) (r : Rl) (h : ∃ x p m k, c = [x, .slice p m k] ∧ SelsR (d + 1) n W x r) : ∀ u ∈ c, u.oneCell' = true := by
  obtain ⟨x, p, m, k, rfl, hx⟩ := h
  obtain ⟨q, cap, rfl⟩ := RowT.len hx
  intro u hu
  simp only [List.mem_cons, List.not_mem_nil, or_false] at hu
  rcases hu with rfl | rfl <;> rfl
theorem infoRule : (Try.prog.info? 41).map (fun i => (i.zero, i.size, i.bytes)) = some (some (.agg #[.slice none 0 0, .slice none 0 0]), 2, 48) := by kernel_rfl

theorem rules_out {d n : Nat} {w X : World} {base : Nat} {v : Value} {l : List Rl} (h : OwnT base 41 2 (fun c r => ∃ x p m k, c = [x, .slice p m k] ∧ SelsR d n w x r) X v l) (hb : Below n w X) (hn : n ≤ X.heap.size) : RulesR d X.heap.size X v l :=
  (h.row (by decide)).mono (Nat.le_refl _) (fun _ _ ⟨x, p, m, k, e, hx⟩ => ⟨x, p, m, k, e, (hx.below d hb).mono d hn⟩)
theorem forV_lt {l : List Rl} {bs : List Bkt} {x : Nat} (h : x ∈ forV l bs) : x < l.length := by
  obtain ⟨r, h1, _⟩ := (forV_mem l bs x).1 h
  exact (List.getElem?_eq_some_iff.1 h1).1
theorem hitsAt_len (bs : List Bkt) : ∀ (l : List Rl) (i : Nat), (hitsAt bs i l).length ≤ l.length
  | [], _ => Nat.le_refl _
  | r :: l, i => by
    have := hitsAt_len bs l (i + 1)
    unfold hitsAt
    split
    · simp; exact this
    · simp; omega
theorem forV_len (l : List Rl) (bs : List Bkt) : (forV l bs).length ≤ l.length := hitsAt_len bs l 0

set_option maxRecDepth 100000 in
set_option maxHeartbeats 1000000 in
theorem bucketParts_walk (w : World) (v : Value) (la : List Rl) (hv : RulesR 11 w.heap.size w v la) (hla : RlOk la) (u : Value) (lb : List Rl) (hu : RulesR 11 w.heap.size w u lb) (hlb : RlOk lb) (nv : Value) (n : Nn) (hn : NodeAt n w nv) (hnk : NnOk n) (ha20 : la.length ≤ 1048576) (hb20 : lb.length ≤ 1048576) :
    Calls Try.prog 3 #[v, u, nv] w fun e w' => e = .returned (.bool true) ∧ Below w.heap.size w w' := by
  obtain ⟨i0, hi, hz0, hz1, hz2⟩ := info_ofS infoRule
  obtain ⟨j0, hj, hy0, hy1, hy2⟩ := info_of infoI
  obtain ⟨par, cv, av, rfl, hcv, pa, ma, ca, rfl⟩ := hn
  obtain ⟨qc, cc, rfl⟩ := RowT.len hcv
  obtain ⟨qv, cpv, rfl⟩ := RowT.len hv
  obtain ⟨qu, cpu, rfl⟩ := RowT.len hu
  obtain ⟨w1, hw1⟩ : ∃ w1, w.alloc (.cells #[.int .i64 par, .string n.tag, .string n.id, .slice qc n.cls.length cc, .slice pa ma ca] 26) = w1 := ⟨_, rfl⟩
  have b1 : Below w.heap.size w w1 := by rw [← hw1]; exact (Below.refl _ _).alloc (Nat.le_refl _) _
  have k1 : Blk w1 w.heap.size 26 [.int .i64 par, .string n.tag, .string n.id, .slice qc n.cls.length cc, .slice pa ma ca] := by rw [← hw1]; exact Blk.new w 26 _
  have hal := Bk.alive_any w1
  have HV : Hid (RulesR 11 w.heap.size w (.slice qv la.length cpv) la) := hv
  have HU : Hid (RulesR 11 w.heap.size w (.slice qu lb.length cpu) lb) := hu
  have HCV : Hid (RowT 1 StrC w.heap.size w (.slice qc n.cls.length cc) n.cls) := hcv
  have HLA : Hid (RlOk la) := hla
  have HLB : Hid (RlOk lb) := hlb
  have HNK : Hid (NnOk n) := hnk
  clear hv hu hcv hla hlb hnk
  go_enter Try.func3, Try.ntmps3
  go_wp2_with fail
  refine hal.mono ?_
  clear hal
  rintro e w2 ⟨rfl, b2⟩
  have B2 := below_next b1 b2
  have k2 := k1.below b2 k1.lt
  have s2 : w.heap.size < w2.heap.size := k2.lt
  obtain ⟨v4, w4, hap4, hO4, hg4, _⟩ := OwnT.app (W := w2) (base := w2.heap.size) Try.underlying22 hi hz0 hz1 hz2 rfl (by decide) (T := fun c r => ∃ x p m k, c = [x, .slice p m k] ∧ SelsR 11 w.heap.size w x r) rowL_one (OwnT.nil _ _ _ _ _) (RowT.below HV.out B2 (fun _ _ h => h)) (by unfold maxLen; simp; omega) (by simp; omega) (Nat.le_refl _)
  have b4 : Below w2.heap.size w2 w4 := (Below.refl _ _).grown hg4 (Nat.le_refl _) (fun r e => by cases e)
  rw [List.nil_append] at hO4
  obtain ⟨v5, w5, hap5, hO5, hg5, _⟩ := OwnT.app (W := w4) (base := w2.heap.size) Try.underlying22 hi hz0 hz1 hz2 rfl (by decide) (T := fun c r => ∃ x p m k, c = [x, .slice p m k] ∧ SelsR 11 w.heap.size w x r) rowL_one hO4 (RowT.below HU.out (below_next B2 b4) (fun _ _ h => h)) (by unfold maxLen; omega) (by omega) b4.size
  have b5 : Below w2.heap.size w2 w5 := b4.grown hg5 b4.size (fun r e => (hO4.lt e).1)
  have B5 := below_next B2 b5
  have k5 := k2.below b5 k2.lt
  have s5 : w2.heap.size ≤ w5.heap.size := b5.size
  have HR : Hid (RulesR 11 w5.heap.size w5 v5 (la ++ lb)) := rules_out hO5 B5 B5.size
  obtain ⟨q4, c4, rfl⟩ := hO4.form
  obtain ⟨q5, c5, rfl⟩ := hO5.form
  have hde := dearRules_any _ (la ++ lb) w5 HR.out
  have K5 : Hid (Blk w5 w.heap.size 26 [.int .i64 par, .string n.tag, .string n.id, .slice qc n.cls.length cc, .slice pa ma ca]) := k5
  have hap4' : Hid (_ = _) := hap4
  have hap5' : Hid (_ = _) := hap5
  obtain ⟨NAB, hNAB⟩ : ∃ NAB, (la ++ lb).length = NAB := ⟨_, rfl⟩
  rw [hNAB] at hap5' hde HR
  clear hap4 hap5 hO4 hO5 hg4 hg5 k1 k2 k5 b4 b5 b1 b2
  go_wp2_with (at_builtin; refine wpList_plain rfl fun K hK => ?_; first | refine opw_append_run _ _ 22 rfl rfl rfl hap4'.out (hK _ _ ?_) | refine opw_append_run _ _ 22 rfl rfl rfl hap5'.out (hK _ _ ?_))
  refine hde.mono ?_
  clear hde hap4' hap5' hw1
  rintro e w6 ⟨t, rfl, ht, b6⟩
  have B6 := below_next B5 b6
  have k6 := K5.out.below b6 K5.out.lt
  have HT : Hid (t = false → (la ++ lb).length ≤ 30 ∧ ∀ r ∈ la ++ lb, r.length ≤ 8) := ht
  obtain ⟨⟨c0, c1, c2, c3, c4'⟩, _⟩ := blk5 k6
  clear ht
  cases t with
  | true =>
    go_wp2
    go_ret
    exact ⟨rfl, B6⟩
  | false =>
    by_cases h20 : (20 : Int) < (n.cls.length : Int)
    · go_wp2
      go_ret
      exact ⟨rfl, B6⟩
    · obtain ⟨h30, h8⟩ := HT.out rfl
      have hcl : n.cls.length ≤ 20 := by omega
      have h30' : la.length + lb.length ≤ 30 := by rw [List.length_append] at h30; exact h30
      have H8 : Hid (∀ r ∈ la ++ lb, r.length ≤ 8) := h8
      have H30 : Hid (la.length + lb.length ≤ 30) := h30'
      have HRAB : Hid (RlOk (la ++ lb)) := fun r hr => by
        rcases List.mem_append.1 hr with h | h
        · exact HLA.out r h
        · exact HLB.out r h
      have hna := new_any 10 _ la w6 (HV.out.next B6) (by omega) (fun r hr => by have := h8 r (List.mem_append_left _ hr); omega) (fun r hr s hs => SlOk.nm (HLA.out r hr s hs))
      have HCL : Hid (n.cls.length ≤ 20) := hcl
      have K6 : Hid (Blk w6 w.heap.size 26 [.int .i64 par, .string n.tag, .string n.id, .slice qc n.cls.length cc, .slice pa ma ca]) := k6
      clear k6 h8 h30 HT hcl h30' K5
      go_wp2_with fail
      refine hna.mono ?_
      clear hna c0 c1 c2 c3 c4'
      rintro e w7 ⟨tx, rfl, hMx, b7⟩
      have B7 := below_next B6 b7
      have hnb := new_any 10 _ lb w7 (HU.out.next B7) (by have := H30.out; omega) (fun r hr => by have := H8.out r (List.mem_append_right _ hr); omega) (fun r hr s hs => SlOk.nm (HLB.out r hr s hs))
      have HMX : Hid (MapIn w6.heap.size w7 tx (newFm la) (lenV la) 10000000000) := hMx
      clear hMx
      go_wp2_with fail
      refine hnb.mono ?_
      clear hnb
      rintro e w8 ⟨ty, rfl, hMy, b8⟩
      have B8 := below_next B7 b8
      have hr8 := HR.out.next (below_next (below_next b6 b7) b8)
      have hnc := new_any 10 _ (la ++ lb) w8 hr8 (by have := H30.out; rw [List.length_append]; omega) (fun r hr => by have := H8.out r hr; omega) (fun r hr s hs => SlOk.nm (HRAB.out r hr s hs))
      have HMY : Hid (MapIn w7.heap.size w8 ty (newFm lb) (lenV lb) 10000000000) := hMy
      clear hMy hr8
      go_wp2_with fail
      refine hnc.mono ?_
      clear hnc
      rintro e w9 ⟨tz, rfl, hMz, b9⟩
      have B9 := below_next B8 b9
      have k9 := K6.out.below (below_next (below_next b7 b8) b9) K6.out.lt
      have MX9 := HMX.out.next (below_next b8 b9)
      have MY9 := HMY.out.next b9
      have HMX9 : Hid (MapIn w6.heap.size w9 tx (newFm la) (lenV la) 10000000000) := MX9
      have HMY9 : Hid (MapIn w7.heap.size w9 ty (newFm lb) (lenV lb) 10000000000) := MY9
      have HMZ9 : Hid (MapIn w8.heap.size w9 tz (newFm (la ++ lb)) (lenV (la ++ lb)) 10000000000) := hMz
      have K9 : Hid (Blk w9 w.heap.size 26 [.int .i64 par, .string n.tag, .string n.id, .slice qc n.cls.length cc, .slice pa ma ca]) := k9
      have HNO : Hid (n.ok) := HNK.out.ok (by have := HCL.out; omega)
      have HND : Hid (∀ X, Below w9.heap.size w9 X → NodeAt n X (.agg #[.int .i64 par, .string n.tag, .string n.id, .slice qc n.cls.length cc, .slice pa ma ca])) := fun X hX => by
        have hbx := below_next B9 hX
        exact ⟨par, _, _, rfl, (HCV.out.below hbx (T' := StrC) (fun _ _ h => h)).mono hbx.size (fun _ _ h => h), pa, ma, ca, rfl⟩
      have hf1 := for_any _ w9 tx la _ _ MX9 (Nat.le_refl _) n HNO.out _ (HND.out _ (Below.refl _ _))
      obtain ⟨⟨c0, c1, c2, c3, c4'⟩, _⟩ := blk5 k9
      have s9 : w.heap.size < w9.heap.size := k9.lt
      clear k9 MX9 MY9 hMz HMX HMY K6 b6 b7 b8 b9 B8 B7 B6 B5 B2
      go_wp2_with fail
      refine hf1.mono ?_
      clear hf1 c0 c1 c2 c3 c4'
      rintro e w10 ⟨xa, rfl, hxa, b10⟩
      obtain ⟨⟨c0, c1, c2, c3, c4'⟩, _⟩ := blk5 (K9.out.below b10 K9.out.lt)
      have hf2 := for_any _ w10 ty lb _ _ (HMY9.out.next b10) (Nat.le_refl _) n HNO.out _ (HND.out _ b10)
      obtain ⟨qa, cpa, rfl⟩ := owns_form hxa
      have HXA : Hid (w10.ownsRow w9.heap.size 3 1 (.slice qa (forV la (bktsV n)).length cpa) (forV la (bktsV n)).length (nats (forV la (bktsV n)))) := hxa
      clear hxa
      go_wp2_with fail
      refine hf2.mono ?_
      clear hf2 c0 c1 c2 c3 c4'
      rintro e w11 ⟨xb, rfl, hxb, b11⟩
      have b911 := below_next b10 b11
      obtain ⟨qb, cpb, rfl⟩ := owns_form hxb
      have hfal := forV_len la (bktsV n)
      have hfbl := forV_len lb (bktsV n)
      have hfbm : ∀ x ∈ forV lb (bktsV n), x < lb.length := fun x hx => forV_lt hx
      have hxa11 := owns_same HXA.out (W' := w11) (fun g hg => b11.block g (owns_lt HXA.out hg).2)
      have happ := forV_app la lb (bktsV n)
      have HAPP : Hid (forV (la ++ lb) (bktsV n) = forV la (bktsV n) ++ (forV lb (bktsV n)).map (la.length + ·)) := happ
      generalize forV la (bktsV n) = fa at *
      generalize forV lb (bktsV n) = fb at *
      obtain ⟨gs, hgs, hgl, hgne⟩ : ∃ gs : Nat, (∀ k x : Nat, fb[k]? = some x → qb = some ⟨gs, 0, none⟩ ∧ w11.cell? ⟨gs, k, none⟩ = some (.int .i64 (x : Int)) ∧ fb.length ≤ cpb ∧ cpb ≤ 9223372036854775807) ∧ gs < w11.heap.size ∧ (Value.slice qa fa.length cpa).ownBlock ≠ some gs := by
        rcases hxb.2 with ⟨e, hz⟩ | ⟨g, cp, cur, e, hg, hb, hn1, hm1, _⟩
        · refine ⟨w.heap.size, fun k x hk => ?_, by have := b911.size; omega, fun e' => ?_⟩
          · rw [List.eq_nil_of_length_eq_zero hz] at hk; simp at hk
          · have := (owns_lt HXA.out e').1; omega
        · cases e
          refine ⟨g, fun k x hk => ⟨rfl, ?_, hn1, by unfold maxLen at hm1; omega⟩, (Array.getElem?_eq_some_iff.1 hb).1, fun e' => ?_⟩
          · have := hxb.cells (g := g) rfl k (.int .i64 x) (by simp [nats, hk])
            rw [addr0] at this
            exact this
          · have := (owns_lt HXA.out e').2; omega
      have r11 : w11.ownsRow w9.heap.size 3 1 (.slice qa fa.length cpa) (fa ++ (fb.take 0).map (la.length + ·)).length (nats (fa ++ (fb.take 0).map (la.length + ·))) := by
        rw [List.take_zero, List.map_nil, List.append_nil]
        exact hxa11
      have HG : Hid (∀ k x : Nat, fb[k]? = some x → qb = some ⟨gs, 0, none⟩ ∧ w11.cell? ⟨gs, k, none⟩ = some (.int .i64 (x : Int)) ∧ fb.length ≤ cpb ∧ cpb ≤ 9223372036854775807) := hgs
      have HFM : Hid (∀ x ∈ fb, x < lb.length) := hfbm
      obtain ⟨NB, hNB⟩ : ∃ NB, fb.length = NB := ⟨_, rfl⟩
      have HNB : Hid (fb.length = NB) := hNB
      have hnb : NB ≤ 30 := by have := H30.out; omega
      have hna' : fa.length ≤ 30 := by have := H30.out; omega
      have hla' : la.length ≤ 30 := by have := H30.out; omega
      rw [hNB]
      clear hgs hfbm hxb hxa11 HXA happ hNB b10 b11 hfbl hfal
      go_wp2
      go_loopw [13, 15] (fun x13 x15 wr => ∃ k : Nat, x15 = .int .i64 k ∧ k ≤ NB ∧ wr.ownsRow w9.heap.size 3 1 x13 (fa ++ (fb.take k).map (la.length + ·)).length (nats (fa ++ (fb.take k).map (la.length + ·))) ∧ x13.ownBlock ≠ some gs ∧ wr.heap[gs]? = w11.heap[gs]? ∧ gs < wr.heap.size ∧ Below w9.heap.size w9 wr) (fun _ x15 _ => NB - (intOf x15).toNat)
      case atStart => exact ⟨0, rfl, Nat.zero_le _, r11, hgne, rfl, hgl, b911⟩
      case round =>
        clear r11 hgne
        obtain ⟨k, rfl, hk, hr, hgn, hgh, hgl', hb⟩ := hrel
        obtain ⟨pk, ck, rfl⟩ := owns_form hr
        by_cases hlt : k < NB
        · have hki : (k : Int) < (NB : Int) := by omega
          obtain ⟨x, hx⟩ : ∃ x, fb[k]? = some x := ⟨_, List.getElem?_eq_getElem (by rw [HNB.out]; exact hlt)⟩
          obtain ⟨rfl, y0, hc1, hc2⟩ := HG.out k x hx
          have y1 : wr.cell? ⟨gs, k, none⟩ = some (.int .i64 (x : Int)) := (cell_same hgh).trans y0
          have hxl := HFM.out x (List.mem_of_getElem? hx)
          have hx30 := H30.out
          have hN : (fa ++ (fb.take k).map (la.length + ·)).length ≤ 60 := by simp; omega
          have hnx : (fa ++ (fb.take k).map (la.length + ·)) ++ [la.length + x] = fa ++ (fb.take (k + 1)).map (la.length + ·) := by
            obtain ⟨hk', rfl⟩ := List.getElem?_eq_some_iff.1 hx
            rw [List.take_succ_eq_append_getElem hk', List.map_append, List.append_assoc]
            rfl
          have HNX : Hid (_ = _) := hnx
          have hsz := hb.size
          generalize hLL : fa ++ (fb.take k).map (la.length + ·) = LL at *
          obtain ⟨NL, hNL⟩ : ∃ NL, LL.length = NL := ⟨_, rfl⟩
          have HNL : Hid (LL.length = NL) := hNL
          rw [hNL] at hr hN hgn ⊢
          obtain ⟨XS, hXS⟩ : ∃ XS : Nat, la.length + x = XS := ⟨_, rfl⟩
          have i1 : IntKind.i64.wrap ((la.length : Int) + (x : Int)) = (XS : Int) := by rw [IntKind.wrap_i64]; omega
          have i2 : (la.length : Int) + (x : Int) = (XS : Int) := by omega
          have HXS : Hid (la.length + x = XS) := hXS
          rw [HNB.out] at hc1
          clear hLL hnx hx y0 hNL hXS
          go_wp2_with (at_builtin; refine wpList_append_own_at _ rfl _ _ 31 rfl w9.heap.size 3 j0 (.int .i64 0) 1 8 Try.underlying31 hj hy0 hy1 hy2 rfl (by decide) (.slice pk NL ck) NL _ rfl (hr.alloc _) ⟨wr.heap.size, 0, none⟩ 1 1 [.int .i64 (XS : Int)] rfl rfl (cell_one_new _ _ _) (by simp [Value.oneCell']) (by unfold maxLen; omega) (by omega) (by simp; omega) ?_; intro v' w3 hown3 hgrow3 hnil3 hat3)
          go_roundw
          case rel =>
            have ha := (Below.refl wr.heap.size wr).alloc (Nat.le_refl _) (.cells #[.int .i64 (XS : Int)] 3)
            have hs3 : wr.heap.size + 1 ≤ w3.heap.size := by have := hgrow3.size; rwa [World.size_alloc] at this
            refine ⟨k + 1, by go_num, by omega, ?_, ?_, ?_, by omega, ((below_next hb ha).grown hgrow3 (by simp; omega) (fun r e => (owns_lt hr e).1))⟩
            · rw [← HNX.out, HXS.out, ← nats_app, List.length_append, List.length_singleton, HNL.out]
              exact hown3
            · rcases hat3 with e | e
              · rw [e]; exact hgn
              · rw [e, World.size_alloc]; intro e'; cases e'; omega
            · exact (hgrow3.block gs (by simp; omega) (fun e => hgn e.symm)).trans ((ha.block gs hgl').trans hgh)
          case measure => simp [intOf]; omega
        · have hki : ¬ (k : Int) < (NB : Int) := by omega
          rw [show fb.take k = fb from List.take_of_length_le (by rw [HNB.out]; omega)] at hr ⊢
          rw [← HAPP.out] at hr ⊢
          obtain ⟨⟨c0, c1, c2, c3, c4'⟩, _⟩ := blk5 (K9.out.below hb K9.out.lt)
          have hf3 := for_any _ wr tz (la ++ lb) _ _ (HMZ9.out.next hb) (Nat.le_refl _) n HNO.out _ (HND.out _ hb)
          have HW : Hid (IntR wr (.slice pk (forV (la ++ lb) (bktsV n)).length ck) (forV (la ++ lb) (bktsV n))) := intR_of hr
          generalize forV (la ++ lb) (bktsV n) = fz at *
          clear hr hgn hgh hgl'
          go_wp2_with fail
          refine hf3.mono ?_
          clear hf3 c0 c1 c2 c3 c4'
          rintro e w12 ⟨xz, rfl, hxz, b12⟩
          have hsa := sameInts_yes xz _ fz w12 (intR_of hxz) (HW.out.next b12)
          obtain ⟨qz, cpz, rfl⟩ := owns_form hxz
          clear hxz
          go_wp2_with fail
          refine hsa.mono ?_
          clear hsa
          rintro e w13 ⟨rfl, b13⟩
          have b913 := below_next (below_next hb b12) b13
          have hlz := len_any _ _ _ _ _ _ (HMZ9.out.next b913)
          have hlx := len_any _ _ _ _ _ _ (HMX9.out.next b913)
          have hly := len_any _ _ _ _ _ _ (HMY9.out.next b913)
          have hsum : (lenV (la ++ lb) : Int) = (lenV la : Int) + (lenV lb : Int) := by rw [lenV_app]; omega
          have hax := lenV_le la (fun r hr => by have := H8.out r (List.mem_append_left _ hr); omega)
          have hbx := lenV_le lb (fun r hr => by have := H8.out r (List.mem_append_right _ hr); omega)
          have hsw : IntKind.i64.wrap ((lenV la : Int) + (lenV lb : Int)) = (lenV (la ++ lb) : Int) := by rw [IntKind.wrap_i64]; have := H30.out; omega
          have BF := below_next B9 b913
          have hsl : (lenV la : Int) + (lenV lb : Int) ≤ 9223372036854775807 := by have := H30.out; omega
          clear HW
          go_wp2_with fail
          refine hlz.mono ?_
          clear hlz
          rintro e w14 ⟨rfl, rfl⟩
          go_wp2_with fail
          refine hlx.mono ?_
          clear hlx
          rintro e w15 ⟨rfl, rfl⟩
          go_wp2_with fail
          refine hly.mono ?_
          clear hly
          rintro e w16 ⟨rfl, rfl⟩
          go_wp2
          go_ret
          exact ⟨rfl, BF⟩

set_option maxRecDepth 100000 in
theorem bucketParts_lifted (os : Os) (started : os.Started) (H : Type) (enc : TypeId × Value → H) (F : Stop.Interp) :
    ReturnsInHanded {} Try.checked os 3 .any ((Rows.OpenSpec.upto Rows.bucketPartsSpec).pre6 enc Try.prog Try.f3 Rows.bucketPartsUptoRow.domain false) (((Rows.OpenSpec.upto Rows.bucketPartsSpec).at F).post enc Try.prog Try.f3 false true false false) := by
  refine returnsInHanded_of_cond_sized (C := Try.checked) (s := Rows.OpenSpec.upto Rows.bucketPartsSpec) (k := Rows.uptoSmall) rfl ownNone started (by kernel_rfl) Try.func3
    (OpenSpec.witness (enc := enc) (C := Try.checked) (s := Rows.OpenSpec.upto Rows.bucketPartsSpec) (k := Rows.uptoSmall) rfl false ⟨#[], #[.slice none 0 0, .slice none 0 0, .agg #[.int .i64 0, .string ⟨#[]⟩, .string ⟨#[]⟩, .slice none 0 0, .slice none 0 0]], []⟩ 8 (by kernel_rfl) (by kernel_rfl) (by kernel_rfl)
      (x := ([.nil, .nil, .agg [.lit (.int .i64 0), .lit (.string []), .lit (.string []), .nil, .nil]], [], [])) (by kernel_rfl) rfl (by kernel_rfl)) ?_
  intro W base args ds gs before hval hW _ hk hsz0 _
  have hW' := hW
  obtain ⟨p, q, hA0, hV, rfl, hfz, hnd⟩ := hW
  have hA : DataW.TrodAll enc Try.prog W 0 (fun _ => true) true Try.f3.params.toList args.toList ds p := hA0
  rw [Try.params3] at hA hval hsz0
  obtain ⟨v0, vs0, d0, ds0, p0, q0, hargs, rfl, rfl, h0, r0⟩ := trodAll_cons hA
  obtain ⟨v1, vs1, d1, ds1, p1, q1, rfl, rfl, rfl, h1, r1⟩ := trodAll_cons r0
  obtain ⟨v2, vs2, d2, ds2, p2, q2, rfl, rfl, rfl, h2, r2⟩ := trodAll_cons r1
  obtain ⟨rfl, rfl, rfl⟩ := trodAll_nil r2
  obtain rfl : args = #[v0, v1, v2] := by cases args; simp_all
  obtain ⟨rfl, rfl⟩ := trodVars_none hV
  have hsz := List.all_eq_true.1 hsz0
  simp only [List.append_nil] at hk
  obtain ⟨a0, len0, cap0, rfl⟩ := okWide_slice Try.underlying22 (hval 0 22 v0 rfl rfl)
  have k0 := h0
  have lt0 : ∀ x ∈ p0, x.block < W.heap.size := by obtain ⟨m, hm⟩ := k0; exact DataW.trod_lt m _ _ _ hm
  obtain ⟨z0, w0, y0⟩ := Bk.rulesAt_of_reads k0 (fun n hn => by simpa using hsz n (DataW.weights_mem_each (j := 0) rfl rfl n hn))
  obtain ⟨a1, len1, cap1, rfl⟩ := okWide_slice Try.underlying22 (hval 1 22 v1 rfl rfl)
  have k1 := h1
  have lt1 : ∀ x ∈ p1, x.block < W.heap.size := by obtain ⟨m, hm⟩ := k1; exact DataW.trod_lt m _ _ _ hm
  obtain ⟨z1, w1, y1⟩ := Bk.rulesAt_of_reads k1 (fun n hn => by simpa using hsz n (DataW.weights_mem_each (j := 1) rfl rfl n hn))
  have k2 := h2
  have lt2 : ∀ x ∈ p2, x.block < W.heap.size := by obtain ⟨m, hm⟩ := k2; exact DataW.trod_lt m _ _ _ hm
  obtain ⟨z2, w2, y2⟩ := Bk.nodeAt_of_reads k2 (hval 2 26 v2 rfl rfl) (fun n hn => by simpa using hsz n (DataW.weights_mem_each (j := 2) rfl rfl n hn))
  have bk0 := Bk.rules_bulk k0 w0 hk (by simp)
  have bk1 := Bk.rules_bulk k1 w1 hk (by simp)
  clear hA0
  refine (bucketParts_walk W _ z0 w0 y0 _ z1 w1 y1 v2 z2 w2 y2 bk0 bk1).mono fun e W' ⟨he, bel⟩ => ?_
  subst he
  exact ⟨_, rfl, _, _, _, [], _, [], hW', trodAll_mk1 (shut_bool Try.underlying4 _), (trodAll_cons_mk (Below.trod laidOut (by kernel_rfl) (of_decide_eq_true (by kernel_rfl)) k0 bel lt0) (trodAll_cons_mk (Below.trod laidOut (by kernel_rfl) (of_decide_eq_true (by kernel_rfl)) k1 bel lt1) (trodAll_cons_mk (Below.trod laidOut (by kernel_rfl) (of_decide_eq_true (by kernel_rfl)) k2 bel lt2) trodAll_mk0))), rfl, bel.frame _, fun h => by cases h⟩

theorem bucketParts_upto : Rows.BucketPartsUptoSaid :=
  OpenClaim.holds_of_cond 3 Try.f3 rfl rfl rfl rfl rfl rfl rfl ⟨rfl, rfl, rfl, rfl, rfl⟩ rfl rfl rfl rfl rfl (by kernel_rfl) Try.func3 (by kernel_rfl)
    (of_decide_eq_true (by kernel_rfl)) (by unfold Func.isWrapper; first | (rw [if_pos (by decide +kernel)]; kernel_rfl) | (rw [if_neg (by decide +kernel)]; exact ⟨rfl, rfl⟩))
    (fun os started H enc _ F => bucketParts_lifted os started H enc F)
#print axioms bucketParts_upto


end Go.Proofs.Ytmahjhcinooihaa
