/- The document's own hashes: Wants at every selector. -/
import Derived.Test.YtiaikkbmgnaikaaBhRef
namespace Go.Proofs.Ytiaikkbmgnaikaa.Bl
open Go Go.RowKit Go.Shelf Wg Sl Go.Proofs.Ytiaikkbmgnaikaa.Tre

theorem row_off {W : World} {b : Nat} {e t : TypeId} (hne : e ≠ t) {s : Nat} {v : Value} {n : Nat} {xs cs : List Value} {B : Nat} (h : W.ownsRow b e s v n xs) (k : Blk W B t cs) : some B ≠ v.ownBlock := by
  rcases h.2 with ⟨rfl, _⟩ | ⟨g, cap, cur, rfl, _, hb, _⟩
  · simp [Value.ownBlock]
  · intro e2
    simp [Value.ownBlock] at e2
    subst e2
    rw [show W.heap[B]? = _ from k] at hb
    injection hb with hb
    injection hb with _ h2
    exact hne h2.symm
/-- Where the names of a compound are being hashed: its block, the row of hashes, and what lay before. -/
structure Hs (w1 : World) (C : Nat) (cs : List Value) (l : List Nat) (x : Value) (X : World) : Prop where
  blk : Blk X C 60 cs
  row : NumRow w1.heap.size X x l
  below : Below w1.heap.size w1 X
theorem Hs.push {w1 X w3 : World} {C : Nat} {cs : List Value} {v v' : Value} {xs : List Nat} {y N : Nat} (h : Hs w1 C cs xs v X) (hN : xs.length = N) (o : Obj)
    (hown : w3.ownsRow w1.heap.size 3 1 v' (N + 1) (xs.map (fun x : Nat => Value.int .i64 x) ++ [.int .i64 (y : Nat)])) (hg : (X.alloc o).grownBy w3 v.ownBlock) : Hs w1 C cs (xs ++ [y]) v' w3 := by
  obtain ⟨a1, a2⟩ := num_push (N := N) h.row hN h.below.size o hown hg
  exact ⟨(h.blk.below ((Below.refl X.heap.size X).alloc (Nat.le_refl _) o) h.blk.lt).kept hg (row_off (by decide) h.row h.blk), a1, h.below.trans a2⟩
theorem above_step {s : Sel} {j : Nat} {q p : Pt} (hq : s[j + 1]? = some q) (hp : s[j]? = some p) : aboveV s (j + 1) = if q.1 = 1 ∨ q.1 = 2 then p.2 :: aboveV s j else [] := by
  rw [aboveV, hq, hp]

set_option maxRecDepth 100000 in
set_option maxHeartbeats 4000000 in
theorem refWants_any (d : Nat) (v : Value) (s : Sel) (w : World) (hv : PartsR d w.heap.size w v s) (hz : NamesOk s) (hl : (wantsV s).length ≤ 1099511627776) :
    Calls Try.prog 9 #[.agg #[v]] w fun e w' => ∃ x, e = .returned x ∧ NumRow w.heap.size w' x (wantsV s) ∧ Below w.heap.size w w' := by
  obtain ⟨i0, hi, hz0, hz1, hz2⟩ := infoI_parts
  obtain ⟨p0, cap, rfl⟩ := RowT.len hv
  have hmx := RowT.short hv
  unfold maxLen at hmx
  obtain ⟨w1, hw1⟩ : ∃ w1, w.alloc (.cells #[.slice p0 s.length cap] 34) = w1 := ⟨_, rfl⟩
  have b1 : Below w.heap.size w w1 := by rw [← hw1]; exact (Below.refl _ w).alloc (Nat.le_refl _) _
  have k1 : Blk w1 w.heap.size 34 [.slice p0 s.length cap] := by rw [← hw1]; exact Blk.new w _ _
  have s1 : w.heap.size < w1.heap.size := k1.lt
  have c0 := (blk1 k1).1
  have KS : Hid (Blk w1 w.heap.size 34 [.slice p0 s.length cap]) := k1
  have HV : Hid (PartsR d w.heap.size w (.slice p0 s.length cap) s) := hv
  have HZ : Hid (NamesOk s) := hz
  have HL : Hid ((wantsV s).length ≤ 1099511627776) := hl
  have hwr : IntKind.i64.wrap ((s.length : Int) - 1) = (s.length : Int) - 1 := by rw [IntKind.wrap_i64]; omega
  clear hv hz hl k1
  go_enter Try.func9, Try.ntmps9
  go_wp2
  clear hw1 c0 hwr
  go_loopw [3, 4] (fun x y wr => ∃ (i : Int) (pre : List Nat), y = .int .i64 i ∧ i < (s.length : Int) ∧ -1 ≤ i ∧ NumRow w1.heap.size wr x pre ∧ Hid (wantsV s = pre ++ (aboveV s i.toNat).flatMap cpNames) ∧ Below w1.heap.size w1 wr) (fun _ y _ => (intOf y).toNat)
  case atStart => exact ⟨(s.length : Int) - 1, [], rfl, by omega, by omega, World.ownsRow_nil _ _ _ _, (by show _ = _; rw [show ((s.length : Int) - 1).toNat = s.length - 1 by omega]; rfl), Below.refl _ _⟩
  case round =>
    obtain ⟨i, pre, rfl, hi1, hi2, hr, HP, hb⟩ := hrel
    have c0 := (blk1 (KS.out.below hb s1)).1
    have hbw := b1.trans (hb.mono (Nat.le_of_lt s1))
    by_cases h0 : 0 < i
    · obtain ⟨j, rfl⟩ : ∃ j : Nat, i = (j : Int) + 1 := ⟨(i - 1).toNat, by omega⟩
      have hjs : j + 1 < s.length := by omega
      obtain ⟨q, hq⟩ : ∃ q, s[j + 1]? = some q := ⟨_, List.getElem?_eq_getElem hjs⟩
      obtain ⟨p, hp⟩ : ∃ p, s[j]? = some p := ⟨_, List.getElem?_eq_getElem (by omega)⟩
      have HP1 : Hid (wantsV s = pre ++ (if q.1 = 1 ∨ q.1 = 2 then p.2 :: aboveV s j else []).flatMap cpNames) := by
        show _ = _
        rw [HP.out, ← above_step hq hp]; rfl
      obtain ⟨b, off, _, _, _, _, he, hbn, hc1, hc2, ⟨y0, _⟩, _⟩ := PartsR.get HV.out hq
      subst he
      obtain ⟨b', off', vi, vk, va, vp, he, _, _, _, ⟨_, x1, x2, x3, x4, x5⟩, r1, r2, r3, r4⟩ := PartsR.get HV.out hp
      cases he
      have kc : ∀ {o : Nat} {u : Value}, w.cell? ⟨b, o, none⟩ = some u → wr.cell? ⟨b, o, none⟩ = some u := fun {o u} h => (hbw.cell (p := ⟨b, o, none⟩) hbn).trans h
      replace y0 := kc y0
      replace x1 := kc x1
      replace x2 := kc x2
      replace x3 := kc x3
      replace x4 := kc x4
      replace x5 := kc x5
      clear kc
      unfold maxLen at hc2
      obtain ⟨n1, n2, n3⟩ := HZ.out p (List.mem_of_getElem? hp)
      obtain ⟨q1, cp1, rfl⟩ := r1.len
      obtain ⟨q2, cp2, rfl⟩ := r2.len
      obtain ⟨q3, cp3, rfl⟩ := r3.len
      obtain ⟨q4, cp4, rfl⟩ := r4.len
      have HI : Hid (StrsR w (.slice q1 p.2.ids.length cp1) p.2.ids) := strs_of_row r1 n2
      have HK : Hid (StrsR w (.slice q2 p.2.classes.length cp2) p.2.classes) := strs_of_row r2 n3
      have hkl1 := HI.out.short
      have hkl2 := HK.out.short
      unfold maxLen at hkl1 hkl2
      have y0' : wr.cell? ⟨b, off + (j + 1) * 6, none⟩ = some (.int .i64 q.1) := y0
      have hj1 : (j : Int) + 1 < (s.length : Int) := by omega
      have hj0 : (j : Int) < (s.length : Int) := by omega
      have hj2 : IntKind.i64.wrap ((j : Int) + 1 - 1) = (j : Int) := by rw [IntKind.wrap_i64]; omega
      have hsz := hb.size
      clear hq hp r1 r2 r3 r4 HP hi1 hi2 h0 n2 n3 y0
      obtain ⟨tq, htq⟩ : ∃ t, decide (¬ (q.1 = 1 ∨ q.1 = 2)) = t := ⟨_, rfl⟩
      have HTQ : Hid (decide (¬ (q.1 = 1 ∨ q.1 = 2)) = tq) := htq
      clear htq
      go_upto_region 6 with fail
      go_cut [28] (fun x wx => x = .bool tq ∧ wr = wx)
      case first =>
        by_cases e1 : q.1 = 1
        · have f1 : (q.1 != 1) = false := by rw [e1]; rfl
          obtain rfl : false = tq := by rw [← HTQ.out]; exact (decide_eq_false (fun h => h (.inl e1))).symm
          clear e1
          go_wp2
          go_meet
          exact ⟨rfl, rfl⟩
        · have f1 : (q.1 != 1) = true := by simpa [bne] using e1
          by_cases e2 : q.1 = 2
          · have f2 : (q.1 != 2) = false := by rw [e2]; rfl
            obtain rfl : false = tq := by rw [← HTQ.out]; exact (decide_eq_false (fun h => h (.inr e2))).symm
            clear e1 e2
            go_wp2
            go_meet
            exact ⟨rfl, rfl⟩
          · have f2 : (q.1 != 2) = true := by simpa [bne] using e2
            obtain rfl : true = tq := by rw [← HTQ.out]; exact (decide_eq_true (p := ¬ (q.1 = 1 ∨ q.1 = 2)) (fun h => h.elim e1 e2)).symm
            clear e1 e2
            go_wp2
            go_meet
            exact ⟨rfl, rfl⟩
      case rest =>
      obtain ⟨rfl, rfl⟩ := hcut
      by_cases hqq : q.1 = 1 ∨ q.1 = 2
      · obtain rfl : false = tq := by rw [← HTQ.out]; exact (decide_eq_false (fun h => h hqq)).symm
        have HP2 : Hid (wantsV s = pre ++ (cpNames p.2 ++ (aboveV s j).flatMap cpNames)) := by
          show _ = _
          rw [HP1.out, if_pos hqq]; rfl
        clear HP1 hqq HTQ
        obtain ⟨w3, hw3⟩ : ∃ w3, wr.alloc (.cells #[.string p.2.tag, .slice q1 p.2.ids.length cp1, .slice q2 p.2.classes.length cp2, .slice q3 p.2.attrs.length cp3, .slice q4 p.2.pss.length cp4] 60) = w3 := ⟨_, rfl⟩
        have b3 : Below wr.heap.size wr w3 := by rw [← hw3]; exact (Below.refl _ _).alloc (Nat.le_refl _) _
        have k3 : Blk w3 wr.heap.size 60 [.string p.2.tag, .slice q1 p.2.ids.length cp1, .slice q2 p.2.classes.length cp2, .slice q3 p.2.attrs.length cp3, .slice q4 p.2.pss.length cp4] := by rw [← hw3]; exact Blk.new wr _ _
        have H3 : Hid (Hs w1 wr.heap.size [.string p.2.tag, .slice q1 p.2.ids.length cp1, .slice q2 p.2.classes.length cp2, .slice q3 p.2.attrs.length cp3, .slice q4 p.2.pss.length cp4] pre _ w3) := ⟨k3, owns_same hr (fun g hg => b3.block g (owns_lt hr hg).2), hb.trans (b3.mono hsz)⟩
        have z0 := (blk5 k3).1.1
        have hT := refHash_any 1 p.2.tag n1 w3
        obtain ⟨T1, hT1⟩ : ∃ T, hashV 1 p.2.tag = T := ⟨_, rfl⟩
        obtain ⟨l1, hl1⟩ : ∃ l1 : List Nat, pre ++ (if p.2.tag = ⟨#[]⟩ then [] else [T1]) = l1 := ⟨_, rfl⟩
        have HP3 : Hid (wantsV s = ((l1 ++ p.2.ids.map (hashV 2)) ++ p.2.classes.map (hashV 3)) ++ (aboveV s j).flatMap cpNames) := by
          show _ = _
          rw [HP2.out, ← hl1]
          unfold cpNames namesV
          rw [hT1]
          simp [List.append_assoc]
        have HL1 : Hid (pre ++ (if p.2.tag = ⟨#[]⟩ then [] else [T1]) = l1) := hl1
        have hLn : pre.length + 1 + p.2.ids.length + p.2.classes.length ≤ 1099511627777 := by
          have h1 := HL.out
          rw [HP2.out] at h1
          simp [cpNames, namesV] at h1
          omega
        rw [hT1] at hT
        obtain ⟨qr, cr, rfl⟩ := owns_form hr
        obtain ⟨NF, hNF⟩ : ∃ NF, pre.length = NF := ⟨_, rfl⟩
        have HNF : Hid (pre.length = NF) := hNF
        have hr3 := H3.out.row
        unfold NumRow at hr hr3
        rw [hNF] at hr hr3 H3 hLn ⊢
        clear hNF hT1 hl1 HP2
        go_upto_if 39 with fail
        first | rw [hw3] | skip
        clear x1 x2 x3 x4 x5 y0' c0 hw3
        have hsz3 := b3.size
        go_cut [3] (fun x wx => Hs w1 wr.heap.size [.string p.2.tag, .slice q1 p.2.ids.length cp1, .slice q2 p.2.classes.length cp2, .slice q3 p.2.attrs.length cp3, .slice q4 p.2.pss.length cp4] l1 x wx)
        case first =>
          clear HP3 HI HK
          by_cases h0 : p.2.tag = ⟨#[]⟩
          · have hemp : p.2.tag.toList.isEmpty = true := by rw [h0, ByteArray.toList_eq]; rfl
            rw [show (!p.2.tag.toList.isEmpty) = false by rw [hemp]; rfl]
            have FIN : Hid (Hs w1 wr.heap.size [.string p.2.tag, .slice q1 p.2.ids.length cp1, .slice q2 p.2.classes.length cp2, .slice q3 p.2.attrs.length cp3, .slice q4 p.2.pss.length cp4] l1 (.slice qr NF cr) w3) := by
              show Hs _ _ _ _ _ _
              rw [← HL1.out, if_pos h0, List.append_nil]; exact H3.out
            clear h0 hemp hT
            go_wp2
            go_meet
            exact FIN.out
          · have hemp := bytes_nil h0
            rw [show (!p.2.tag.toList.isEmpty) = true by rw [hemp]; rfl]
            have HE : Hid (pre ++ [T1] = l1) := by show _ = _; rw [← HL1.out, if_neg h0]
            clear h0 hemp
            go_wp2_with fail
            go_at_call 11
            refine Calls.mono hT ?_
            clear hT
            rintro e w' ⟨rfl, hww⟩
            obtain rfl := hww.symm
            clear hww
            go_wp2_with (at_builtin; refine wpList_append_own_at _ rfl _ _ 30 rfl w1.heap.size 3 i0 (.int .i64 0) 1 8 Try.underlying30 hi hz0 hz1 hz2 rfl (by decide) (.slice qr NF cr) NF _ rfl (hr3.alloc _) ⟨w3.heap.size, 0, none⟩ 1 1 [.int .i64 (T1 : Nat)] rfl rfl (one_cell_new _ _ _) (by simp [Value.oneCell']) (by unfold maxLen; omega) (by omega) (by simp; omega) ?_; intro v' w3 hown3 hgrow3 _hnil3 _hat3)
            go_meet
            rw [← HE.out]
            exact H3.out.push (N := NF) HNF.out _ hown3 hgrow3
        case rest =>
        have hn1 : l1.length ≤ NF + 1 := by
          rw [← HL1.out, List.length_append, HNF.out]
          split <;> simp
        clear hT z0 H3 hr3 hr k3 HL1 HNF
        obtain ⟨wo, hwo⟩ : ∃ wo, wo = wr := ⟨_, rfl⟩
        subst hwo
        have HC : Hid (Hs w1 wo.heap.size [.string p.2.tag, .slice q1 p.2.ids.length cp1, .slice q2 p.2.classes.length cp2, .slice q3 p.2.attrs.length cp3, .slice q4 p.2.pss.length cp4] l1 _ wc) := hcut
        generalize wo.heap.size = C at *
        go_wp2
        go_loopw [3, 7] (fun x y wr => ∃ k : Nat, y = .int .i64 k ∧ k ≤ p.2.ids.length ∧ Hs w1 C [.string p.2.tag, .slice q1 p.2.ids.length cp1, .slice q2 p.2.classes.length cp2, .slice q3 p.2.attrs.length cp3, .slice q4 p.2.pss.length cp4] (l1 ++ (p.2.ids.take k).map (hashV 2)) x wr) (fun _ y _ => p.2.ids.length - (intOf y).toNat)
        case atStart => exact ⟨0, rfl, Nat.zero_le _, by simpa using HC.out⟩
        case round =>
          clear HC
          obtain ⟨k, rfl, hk, hh⟩ := hrel
          obtain ⟨⟨_, z1, z2, _, _⟩, _⟩ := blk5 hh.blk
          have hsz4 := hh.below.size
          by_cases hlt : k < p.2.ids.length
          · have hki : (k : Int) < (p.2.ids.length : Int) := by omega
            obtain ⟨x, hx⟩ : ∃ x, p.2.ids[k]? = some x := ⟨_, List.getElem?_eq_getElem hlt⟩
            have hbx := b1.trans (hh.below.mono (Nat.le_of_lt s1))
            obtain ⟨bk, offk, hbe, hcell, hxs⟩ := (HI.out.kept (Y := wr) (fun r h1 h2 => hbx.block r (HI.out.lt h2 h1))).get hx
            subst hbe
            have hcall := refHash_any 2 x hxs wr
            obtain ⟨T3, hT3⟩ : ∃ T, hashV 2 x = T := ⟨_, rfl⟩
            rw [hT3] at hcall
            obtain ⟨pr, hpr⟩ : ∃ pr, l1 ++ (p.2.ids.take k).map (hashV 2) = pr := ⟨_, rfl⟩
            have HPR : Hid (l1 ++ (p.2.ids.take (k + 1)).map (hashV 2) = pr ++ [T3]) := by
              show _ = _
              rw [← hpr, List.take_add_one, hx, List.map_append, List.append_assoc]
              simp [hT3]
            have hnp : pr.length ≤ l1.length + k := by rw [← hpr]; simp; omega
            rw [hpr] at hh
            have hr := hh.row
            obtain ⟨qq, cq, rfl⟩ := owns_form hr
            obtain ⟨NG, hNG⟩ : ∃ NG, pr.length = NG := ⟨_, rfl⟩
            have HNG : Hid (pr.length = NG) := hNG
            have HH : Hid (Hs w1 C _ pr _ wr) := hh
            unfold NumRow at hr
            rw [hNG] at hr hnp HH ⊢
            clear hNG hpr hx hT3 hh
            go_wp2_with fail
            go_at_call 11
            refine Calls.mono hcall ?_
            clear hcall hcell z1 z2
            rintro e w' ⟨rfl, hww⟩
            obtain rfl := hww.symm
            clear hww
            go_wp2_with (at_builtin; refine wpList_append_own_at _ rfl _ _ 30 rfl w1.heap.size 3 i0 (.int .i64 0) 1 8 Try.underlying30 hi hz0 hz1 hz2 rfl (by decide) (.slice qq NG cq) NG _ rfl (hr.alloc _) ⟨wr.heap.size, 0, none⟩ 1 1 [.int .i64 (T3 : Nat)] rfl rfl (one_cell_new _ _ _) (by simp [Value.oneCell']) (by unfold maxLen; omega) (by omega) (by simp; omega) ?_; intro v' w3 hown3 hgrow3 _hnil3 _hat3)
            have a1 := HH.out.push (N := NG) HNG.out _ hown3 hgrow3
            go_roundw
            case rel => exact ⟨k + 1, by go_num, by omega, by rw [HPR.out]; exact a1⟩
            case measure => simp [intOf] <;> omega
          · have hki : ¬ (k : Int) < (p.2.ids.length : Int) := by omega
            rw [List.take_of_length_le (by omega)] at hh
            obtain ⟨qf, cf, rfl⟩ := owns_form hh.row
            obtain ⟨l2, hl2⟩ : ∃ l2, l1 ++ p.2.ids.map (hashV 2) = l2 := ⟨_, rfl⟩
            have hn2 : l2.length ≤ NF + 1 + p.2.ids.length := by rw [← hl2]; simp; omega
            rw [hl2] at hh HP3 ⊢
            have HC : Hid (Hs w1 C [.string p.2.tag, .slice q1 p.2.ids.length cp1, .slice q2 p.2.classes.length cp2, .slice q3 p.2.attrs.length cp3, .slice q4 p.2.pss.length cp4] l2 _ wr) := hh
            obtain ⟨wp, hwp⟩ : ∃ wp, wp = wr := ⟨_, rfl⟩
            subst hwp
            clear hh hl2 hsz4
            obtain ⟨N2, hN2⟩ : ∃ N2, l2.length = N2 := ⟨_, rfl⟩
            have HN2 : Hid (l2.length = N2) := hN2
            rw [hN2] at HC hn2 ⊢
            clear hN2
            go_wp2
            clear z1 z2
            go_loopw [3, 8] (fun x y wr => ∃ k : Nat, y = .int .i64 k ∧ k ≤ p.2.classes.length ∧ Hs w1 C [.string p.2.tag, .slice q1 p.2.ids.length cp1, .slice q2 p.2.classes.length cp2, .slice q3 p.2.attrs.length cp3, .slice q4 p.2.pss.length cp4] (l2 ++ (p.2.classes.take k).map (hashV 3)) x wr) (fun _ y _ => p.2.classes.length - (intOf y).toNat)
            case atStart => exact ⟨0, rfl, Nat.zero_le _, by simpa using HC.out⟩
            case round =>
              clear HC
              obtain ⟨k, rfl, hk, hh⟩ := hrel
              obtain ⟨⟨_, z1, z2, _, _⟩, _⟩ := blk5 hh.blk
              have hsz4 := hh.below.size
              by_cases hlt : k < p.2.classes.length
              · have hki : (k : Int) < (p.2.classes.length : Int) := by omega
                obtain ⟨x, hx⟩ : ∃ x, p.2.classes[k]? = some x := ⟨_, List.getElem?_eq_getElem hlt⟩
                have hbx := b1.trans (hh.below.mono (Nat.le_of_lt s1))
                obtain ⟨bk, offk, hbe, hcell, hxs⟩ := (HK.out.kept (Y := wr) (fun r h1 h2 => hbx.block r (HK.out.lt h2 h1))).get hx
                subst hbe
                have hcall := refHash_any 3 x hxs wr
                obtain ⟨T3, hT3⟩ : ∃ T, hashV 3 x = T := ⟨_, rfl⟩
                rw [hT3] at hcall
                obtain ⟨pr, hpr⟩ : ∃ pr, l2 ++ (p.2.classes.take k).map (hashV 3) = pr := ⟨_, rfl⟩
                have HPR : Hid (l2 ++ (p.2.classes.take (k + 1)).map (hashV 3) = pr ++ [T3]) := by
                  show _ = _
                  rw [← hpr, List.take_add_one, hx, List.map_append, List.append_assoc]
                  simp [hT3]
                have hnp : pr.length ≤ N2 + k := by rw [← hpr, ← HN2.out]; simp; omega
                rw [hpr] at hh
                have hr := hh.row
                obtain ⟨qq, cq, rfl⟩ := owns_form hr
                obtain ⟨NG, hNG⟩ : ∃ NG, pr.length = NG := ⟨_, rfl⟩
                have HNG : Hid (pr.length = NG) := hNG
                have HH : Hid (Hs w1 C _ pr _ wr) := hh
                unfold NumRow at hr
                rw [hNG] at hr hnp HH ⊢
                clear hNG hpr hx hT3 hh
                go_wp2_with fail
                go_at_call 11
                refine Calls.mono hcall ?_
                clear hcall hcell z1 z2
                rintro e w' ⟨rfl, hww⟩
                obtain rfl := hww.symm
                clear hww
                go_wp2_with (at_builtin; refine wpList_append_own_at _ rfl _ _ 30 rfl w1.heap.size 3 i0 (.int .i64 0) 1 8 Try.underlying30 hi hz0 hz1 hz2 rfl (by decide) (.slice qq NG cq) NG _ rfl (hr.alloc _) ⟨wr.heap.size, 0, none⟩ 1 1 [.int .i64 (T3 : Nat)] rfl rfl (one_cell_new _ _ _) (by simp [Value.oneCell']) (by unfold maxLen; omega) (by omega) (by simp; omega) ?_; intro v' w3 hown3 hgrow3 _hnil3 _hat3)
                have a1 := HH.out.push (N := NG) HNG.out _ hown3 hgrow3
                go_roundw
                case rel => exact ⟨k + 1, by go_num, by omega, by rw [HPR.out]; exact a1⟩
                case measure => simp [intOf] <;> omega
              · have hki : ¬ (k : Int) < (p.2.classes.length : Int) := by omega
                rw [List.take_of_length_le (by omega)] at hh
                obtain ⟨qf, cf, rfl⟩ := owns_form hh.row
                have FR : Hid (NumRow w1.heap.size wr _ ((l2 ++ p.2.classes.map (hashV 3))) ∧ Below w1.heap.size w1 wr) := ⟨hh.row, hh.below⟩
                generalize (l2 ++ p.2.classes.map (hashV 3)).length = NL at FR ⊢
                clear hh
                go_wp2
                go_roundw
                case rel => exact ⟨j, _, by go_num, by omega, by omega, FR.out.1, (by show _ = _; rw [HP3.out]; simp), FR.out.2⟩
                case measure => simp [intOf] <;> omega
      · obtain rfl : true = tq := by rw [← HTQ.out]; exact (decide_eq_true (p := ¬ (q.1 = 1 ∨ q.1 = 2)) hqq).symm
        obtain ⟨qr, cr, rfl⟩ := owns_form hr
        have FIN : Hid (NumRow w.heap.size wr _ (wantsV s) ∧ Below w.heap.size w wr) := ⟨by rw [HP1.out, if_neg hqq]; simp only [List.flatMap_nil, List.append_nil]; exact num_base hr (Nat.le_of_lt s1), hbw⟩
        clear HP1 hqq HTQ hr
        go_wp2
        go_ret
        exact ⟨_, rfl, FIN.out⟩
    · have hi0 : ¬ (0 : Int) < i := h0
      obtain ⟨qr, cr, rfl⟩ := owns_form hr
      have FIN : Hid (NumRow w.heap.size wr _ (wantsV s) ∧ Below w.heap.size w wr) := ⟨by rw [HP.out, show i.toNat = 0 by omega]; simp only [aboveV, List.flatMap_nil, List.append_nil]; exact num_base hr (Nat.le_of_lt s1), hbw⟩
      clear HP hr
      go_wp2
      go_ret
      exact ⟨_, rfl, FIN.out⟩

end Go.Proofs.Ytiaikkbmgnaikaa.Bl
