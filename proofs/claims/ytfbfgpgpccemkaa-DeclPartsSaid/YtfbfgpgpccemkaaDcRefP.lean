/- The document's own 'at' and Decls, at every slice of tokens that is not too long: the same declarations. -/
import Derived.Test.YtfbfgpgpccemkaaDcRefD
import Derived.Test.YtfbfgpgpccemkaaDcParse
import Derived.Test.YtfbfgpgpccemkaaRsRefA
namespace Go.Proofs.Ytfbfgpgpccemkaa.Dc
open Go Go.RowKit Go.Shelf

theorem isEnd_12 : isEnd 12 = true := by decide
theorem isEnd_14 : isEnd 14 = true := by decide
theorem isEnd_no {k : Int} (h1 : k ≠ 12) (h2 : k ≠ 14) : isEnd k = false := by simp [isEnd, h1, h2]
theorem upto_at {p : Int → Bool} {ts : List Bt} {k : Nat} (h : k < ts.length) : upto p ((kds ts).drop k) = if p ts[k].kind then 0 else run [] ((kds ts).drop k) + upto p ((kds ts).drop (k + run [] ((kds ts).drop k))) := by
  conv => lhs; rw [kds_at h, upto_cons, ← kds_at h, List.drop_drop]

set_option maxRecDepth 100000 in
set_option maxHeartbeats 2000000 in
/-- The document's own 'at'. -/
theorem refAt_any (v : Value) (ts : List Bt) (i : Nat) (w : World) (hv : BtsAt w.heap.size w v ts) (hi : i < ts.length) (hl : ts.length ≤ 1000000) :
    Calls Try.prog 20 #[v, .int .i64 i] w fun e w' => e = .returned (.int .i64 ((i + 1 + upto isEnd ((kds ts).drop (i + 1)) + run [] ((kds ts).drop (i + 1 + upto isEnd ((kds ts).drop (i + 1)))) : Nat) : Int)) ∧ Below w.heap.size w w' := by
  obtain ⟨p, cap, rfl⟩ := hv.len
  obtain ⟨J, hJ⟩ : ∃ J : Nat, i + 1 + upto isEnd ((kds ts).drop (i + 1)) = J := ⟨_, rfl⟩
  rw [hJ]
  obtain ⟨Z, hZ⟩ : ∃ Z : Nat, J + run [] ((kds ts).drop J) = Z := ⟨_, rfl⟩
  rw [hZ]
  go_enter Try.func20, Try.ntmps20
  go_wp2
  go_loopw [1, 5] (fun x _ wr => ∃ k : Nat, x = .int .i64 k ∧ k ≤ ts.length ∧ k + upto isEnd ((kds ts).drop k) = J ∧ Below w.heap.size w wr) (fun x _ _ => ts.length - (intOf x).toNat)
  case atStart => exact ⟨i + 1, by go_num, by omega, hJ, Below.refl _ _⟩
  case round =>
    obtain ⟨k, rfl, hk, hR, hb⟩ := hrel
    clear hJ
    by_cases hlt : k < ts.length
    · have hki : (k : Int) < (ts.length : Int) := by omega
      obtain ⟨bk, off, rfl, hbk, _, _, hc, _⟩ := (hv.below hb).get (List.getElem?_eq_getElem hlt)
      have hsk := refSkip_in (.slice (some ⟨bk, off, none⟩) ts.length cap) ts k wr ((hv.below hb).mono hb.size) hlt hl
      have hrl := run_drop_le (kds ts) k
      have hrp := run_drop_pos (ks := kds ts) (i := k) (by rw [kds_length]; exact hlt)
      rw [kds_length] at hrl
      rw [upto_at hlt] at hR
      by_cases h12 : ts[k].kind = 12
      · rw [h12, isEnd_12, if_pos rfl, Nat.add_zero] at hR
        subst hR
        have e : run [] ((kds ts).drop k) = 1 := by rw [kds_at hlt, h12]; exact run_cons_nil _ (by decide)
        rw [h12] at hc
        obtain rfl : k + 1 = Z := by rw [← hZ, e]
        clear hsk e h12 hZ
        go_wp2
        go_ret
        exact ⟨by first | rfl | (rw [Int.natCast_add]; rfl), hb⟩
      · have h12' : (ts[k].kind == 12) = false := by simpa using h12
        by_cases h14 : ts[k].kind = 14
        · rw [h14, isEnd_14, if_pos rfl, Nat.add_zero] at hR
          subst hR
          rw [h14] at hc
          clear h12 h12' h14
          rw [hZ] at hsk
          clear hZ
          go_wp2_with fail
          refine hsk.mono ?_
          rintro e w2 ⟨rfl, b2⟩
          go_wp2
          go_ret
          exact ⟨rfl, hb.trans (b2.mono hb.size)⟩
        · have h14' : (ts[k].kind == 14) = false := by simpa using h14
          have HR : Hid (k + run [] ((kds ts).drop k) + upto isEnd ((kds ts).drop (k + run [] ((kds ts).drop k))) = J) := by
            show _ = _
            rw [isEnd_no h12 h14, if_neg (by decide)] at hR
            omega
          clear hR
          generalize ts[k].kind = x at *
          generalize run [] ((kds ts).drop k) = m at *
          go_wp2_with fail
          refine hsk.mono ?_
          rintro e w2 ⟨rfl, b2⟩
          go_wp2
          exact ⟨⟨k + m, rfl, by omega, HR, hb.trans (b2.mono hb.size)⟩, by simp [intOf]; omega⟩
    · have hki : ¬ (k : Int) < (ts.length : Int) := by omega
      have e0 : (kds ts).drop k = [] := List.drop_eq_nil_iff.2 (by rw [kds_length]; omega)
      rw [e0, upto_nil, Nat.add_zero] at hR
      subst hR
      obtain rfl : k = Z := by rw [← hZ, e0]; rfl
      clear e0 hZ
      go_wp2
      go_ret
      exact ⟨rfl, hb⟩


set_option maxRecDepth 100000 in
set_option maxHeartbeats 8000000 in
theorem refDecls_any (v : Value) (ts : List Bt) (w : World) (hv : BtsAt w.heap.size w v ts) (ht : ∀ t ∈ ts, t.text.size ≤ maxLen) (hl : ts.length ≤ 100000) :
    Calls Try.prog 12 #[v] w fun e w' => ∃ v', e = .returned v' ∧ (∃ qs, qs.map Prod.fst = decls ts ∧ DcsAt w.heap.size w' v' qs) ∧ Below w.heap.size w w' := by
  obtain ⟨i0, hi, hz0, hz1, hz2⟩ := info_parts infoDecl
  obtain ⟨p, cap, rfl⟩ := hv.len
  obtain ⟨A, hA⟩ : ∃ A, decls ts = A := ⟨_, rfl⟩
  rw [hA]
  go_enter Try.func12, Try.ntmps12
  go_wp2
  go_loopw [3, 4] (fun o x wr => ∃ (k : Nat) (qs : List (Dc × Value)) (v' : Value), v' = o ∧ x = .int .i64 k ∧ k ≤ ts.length ∧ qs.length ≤ k ∧ DcsAt w.heap.size wr v' qs ∧ qs.map Prod.fst ++ decls (ts.drop k) = A ∧ Below w.heap.size w wr) (fun _ x _ => ts.length - (intOf x).toNat)
  case atStart => exact ⟨0, [], _, rfl, rfl, by omega, by simp, DcsAt.nil _ _, by simpa using hA, Below.refl _ _⟩
  case round =>
    clear hA
    obtain ⟨k, qs, v', rfl, rfl, hk, hql, hR, hA, hb⟩ := hrel
    by_cases hlt : k < ts.length
    · have hki : (k : Int) < (ts.length : Int) := by omega
      have hd : ts.drop k = ts[k] :: ts.drop (k + 1) := List.drop_eq_getElem_cons hlt
      obtain ⟨bk, off, rfl, hbk, hcap, hcm, hc, _⟩ := (hv.below hb).get (List.getElem?_eq_getElem hlt)
      have hvb := (hv.below hb).mono hb.size
      have hn := hb.size
      unfold maxLen at hcm
      by_cases h9 : ts[k].kind = 9
      · have HA : Hid (qs.map Prod.fst ++ decls (ts.drop (k + 1)) = A) := by
          show _ = _
          rw [← hA, hd, decls_pass (.inl h9)]
        rw [h9] at hc
        clear hA hd h9 hvb
        go_wp2
        exact ⟨⟨k + 1, qs, _, rfl, by go_num, by omega, by omega, hR, HA, hb⟩, by simp [intOf]; omega⟩
      · have h9' : (ts[k].kind == 9) = false := by simpa using h9
        by_cases h12 : ts[k].kind = 12
        · have HA : Hid (qs.map Prod.fst ++ decls (ts.drop (k + 1)) = A) := by
            show _ = _
            rw [← hA, hd, decls_pass (.inr h12)]
          rw [h12] at hc
          clear hA hd h9 h9' h12 hvb
          go_wp2
          exact ⟨⟨k + 1, qs, _, rfl, by go_num, by omega, by omega, hR, HA, hb⟩, by simp [intOf]; omega⟩
        · have h12' : (ts[k].kind == 12) = false := by simpa using h12
          by_cases h2 : ts[k].kind = 2
          · obtain ⟨hu, hD⟩ := at_next hlt h2
            have hat := refAt_any (.slice (some ⟨bk, off, none⟩) ts.length cap) ts k wr hvb hlt (by omega)
            have hle := upto_le' isEnd (ts.drop (k + 1))
            rw [List.length_drop, kds_drop] at hle
            have hrl := run_le [] ((kds ts).drop (k + 1 + upto isEnd ((kds ts).drop (k + 1))))
            rw [List.length_drop, kds_length] at hrl
            have HA : Hid (qs.map Prod.fst ++ decls (ts.drop (k + 1 + upto isEnd ((kds ts).drop (k + 1)) + run [] ((kds ts).drop (k + 1 + upto isEnd ((kds ts).drop (k + 1)))))) = A) := by
              show _ = _
              rw [← hA, hD]
            generalize upto isEnd ((kds ts).drop (k + 1)) = m at *
            generalize run [] ((kds ts).drop (k + 1 + m)) = q at *
            rw [h2] at hc
            clear hA hd h2 h9 h12 h9' h12' hu hD
            go_wp2_with fail
            refine hat.mono ?_
            clear hat
            rintro e w2 ⟨rfl, hb2⟩
            go_wp2
            exact ⟨⟨k + 1 + m + q, qs, _, rfl, rfl, by omega, by omega, hR.kept (grown_of_below' hb2 none), HA, below_next hb hb2⟩, by simp [intOf]; omega⟩
          · obtain ⟨hm0, hml, hD⟩ := one_next hlt h9 h12 h2
            have h2' : (ts[k].kind == 2) = false := by simpa using h2
            rw [hD] at hA
            have hmU : k + upto isSemi ((kds ts).drop k) = k + upto isSemi ((kds ts).drop k) := rfl
            generalize hMM : upto isSemi ((kds ts).drop k) = m at hA hm0 hml
            rw [hMM] at hmU
            generalize hE : k + m = E at *
            obtain ⟨l1, hl1⟩ : ∃ l1, (ts.drop k).take (E - k) = l1 := ⟨_, rfl⟩
            have hmE : m = E - k := by omega
            rw [hmE, hl1] at hA
            have hn1 : l1.length = E - k := by rw [← hl1, List.length_take, List.length_drop]; omega
            have hne : l1 ≠ [] := fun e => by rw [e] at hn1; simp at hn1; omega
            have hts : ∀ t ∈ l1, t.text.size ≤ maxLen := fun t h => ht t (mem_part (by rw [hl1]; exact h))
            have p1 : ∀ W, Below w.heap.size w W → BtsAt W.heap.size W (.slice (some ⟨bk, off + k * 5, none⟩) (E - k) (cap - k)) l1 := fun W hW => hl1 ▸ ((hv.below hW).mono hW.size).part (by omega) (by omega) (by unfold maxLen; omega) (fun e => by rw [e] at hlt; simp at hlt)
            have h_a : (k : Int) ≤ (E : Int) := by omega
            have h_b : (E : Int) ≤ (cap : Int) := by omega
            have hck : ¬ cap = k := by omega
            have hEU : Hid (k + upto isSemi ((kds ts).drop k) = E) := by show _ = _; rw [hMM, hE]
            clear hMM hmU
            generalize ts[k].kind = kx at *
            clear hd hD h9 h12 h2
            go_upto_block 2 with fail
            go_cut [4] (fun x wx => x = .int .i64 (E : Int) ∧ Below wr.heap.size wr wx)
            case first =>
              clear p1 hts hne hn1 hl1 hA
              go_wp2_with fail
              go_loopw [4] (fun x wx => ∃ q : Nat, x = .int .i64 q ∧ q ≤ ts.length ∧ q + upto isSemi ((kds ts).drop q) = E ∧ Below wr.heap.size wr wx) (fun x _ => ts.length - (intOf x).toNat)
              case atStart => exact ⟨k, rfl, hk, hEU, Below.refl _ _⟩
              case round =>
                rename World => X
                obtain ⟨q, rfl, hq, hqm, hbX⟩ := hrel
                clear hEU
                have hbw := below_next hb hbX
                by_cases hqq : q < ts.length
                · have hqi : (q : Int) < (ts.length : Int) := by omega
                  obtain ⟨_, _, ep, _, _, _, hcq, _⟩ := (hv.below hbw).get (List.getElem?_eq_getElem hqq)
                  cases ep
                  rw [upto_at hqq] at hqm
                  by_cases hx : ts[q].kind = 12
                  · rw [hx, isSemi_yes, if_pos rfl, Nat.add_zero] at hqm
                    subst hqm
                    rw [hx] at hcq
                    clear hx
                    go_wp2
                    go_meet
                    exact ⟨rfl, hbX⟩
                  · have hx' : (ts[q].kind != 12) = true := by simpa using hx
                    rw [isSemi_no hx, if_neg (by decide)] at hqm
                    have HQ : Hid (q + run [] ((kds ts).drop q) + upto isSemi ((kds ts).drop (q + run [] ((kds ts).drop q))) = E) := by show _ = _; omega
                    have hsk := refSkip_in (.slice (some ⟨bk, off, none⟩) ts.length cap) ts q X ((hv.below hbw).mono hbw.size) hqq (by omega)
                    have hrl := run_drop_le (kds ts) q
                    have hrp := run_drop_pos (ks := kds ts) (i := q) (by rw [kds_length]; exact hqq)
                    rw [kds_length] at hrl
                    clear hqm
                    generalize ts[q].kind = y at *
                    generalize run [] ((kds ts).drop q) = z at *
                    go_wp2_with fail
                    refine hsk.mono ?_
                    clear hsk
                    rintro e X2 ⟨rfl, hb2⟩
                    go_wp2
                    first
                      | exact ⟨⟨q + z, rfl, by omega, HQ, below_next hbX hb2⟩, by simp [intOf]; omega⟩
                      | (refine ⟨?_, by simp [intOf]; omega⟩
                         repeat apply Exists.intro
                         exact ⟨⟨q + z, rfl, by omega, HQ, below_next hbX hb2⟩, rfl⟩)
                · have hqi : ¬ (q : Int) < (ts.length : Int) := by omega
                  have e0 : (kds ts).drop q = [] := List.drop_eq_nil_iff.2 (by rw [kds_length]; omega)
                  rw [e0, upto_nil, Nat.add_zero] at hqm
                  subst hqm
                  clear e0
                  go_wp2
                  go_meet
                  exact ⟨rfl, hbX⟩
            case rest =>
              obtain ⟨rfl, hb3⟩ := hcut
              rename World => w2
              have hbw : Below w.heap.size w w2 := below_next hb hb3
              have h3 := refDecl_any _ l1 w2 (p1 _ hbw) hts (by omega) hne
              clear hl1 hts hne hn1 p1 hEU hc
              go_wp2_with fail
              refine h3.mono ?_
              clear h3
              rintro e w3 ⟨hone, hb4⟩
              have hbr3 := below_next hb3 hb4
              have hbw3 := below_next hbw hb4
              rcases hone with ⟨hdn, rfl⟩ | ⟨d, x, hds, rfl, rx⟩
              · have HA : Hid (qs.map Prod.fst ++ decls (ts.drop E) = A) := by
                  show _ = _
                  rw [← hA, hdn]
                  rfl
                have hb5 : Below w3.heap.size w3 (w3.alloc (.cells #[.string ⟨#[]⟩, .slice none 0 0, .bool false] 34)) := (Below.refl _ w3).alloc (Nat.le_refl _) _
                have hR5 := hR.kept (grown_of_below' (below_next hbr3 hb5) none)
                have hbw5 := below_next hbw3 hb5
                clear hA hdn
                go_wp2
                exact ⟨⟨E, qs, _, rfl, rfl, by omega, by omega, hR5, HA, hbw5⟩, by simp [intOf]; omega⟩
              · have HA : Hid ((qs ++ [(d, x)]).map Prod.fst ++ decls (ts.drop E) = A) := by
                  show _ = _
                  rw [← hA, hds]
                  simp
                obtain ⟨q3, c3, rfl⟩ := form_of rx
                obtain ⟨dn, dv, di⟩ := d
                simp only at rx HA ⊢
                have hb5 : Below w3.heap.size w3 (w3.alloc (.cells #[.string dn, .slice q3 dv.length c3, .bool di] 34)) := (Below.refl _ w3).alloc (Nat.le_refl _) _
                have hR5 := hR.kept (grown_of_below' (below_next hbr3 hb5) none)
                have hbw5 := below_next hbw3 hb5
                have rx5 := (owns_base rx hbw.size).kept (grown_of_below' hb5 none) (no_block _)
                have hs5 := hbw5.size
                have HC := cells_new (w3.alloc (.cells #[.string dn, .slice q3 dv.length c3, .bool di] 34)) [.string dn, .slice q3 dv.length c3, .bool di] 34
                rw [World.size_alloc] at HC
                clear hA hds
                go_wp2_with (at_builtin; refine wpList_append_own _ rfl _ _ 26 rfl w.heap.size 34 i0 (.agg #[.string ⟨#[]⟩, .slice none 0 0, .bool false]) 3 48 Try.underlying26 hi hz0 hz1 hz2 rfl (by decide) _ _ _ rfl (hR5.row.alloc _) _ 1 1 [.string dn, .slice q3 dv.length c3, .bool di] rfl rfl HC (fun u hu => by simp at hu; rcases hu with rfl | rfl | rfl <;> rfl) (by unfold maxLen; omega) (by omega) (by rw [World.size_alloc]; omega) ?_; intro v7 w7 hown7 hgrow7 hnil7)
                have hR7 := hR5.push (q := (⟨dn, dv, di⟩, .slice q3 dv.length c3)) rx5 hgrow7 hown7
                have hB7 := (hbw5.alloc hs5 _).grown hgrow7 (by rw [World.size_alloc]; omega) (fun j e => (hR5.row.lt j e).1)
                go_wp2
                exact ⟨⟨E, qs ++ [((⟨dn, dv, di⟩ : Dc), Value.slice q3 dv.length c3)], _, rfl, rfl, by omega, by simp; omega, hR7, HA, hB7⟩, by simp [intOf]; omega⟩
    · have hki : ¬ (k : Int) < (ts.length : Int) := by omega
      obtain rfl : qs.map Prod.fst = A := by
        rw [List.drop_eq_nil_iff.2 (by omega), decls_nil, List.append_nil] at hA
        exact hA
      clear hA
      go_wp2
      go_ret
      exact ⟨_, rfl, ⟨qs, rfl, hR⟩, hb⟩

end Go.Proofs.Ytfbfgpgpccemkaa.Dc
