/- decl.Parse at every slice of tokens that is not too long. -/
import Derived.Test.YtfbfgpgpccemkaaDcDecl
import Derived.Deep.AppendLies
import Derived.Deep.RegionLaw
namespace Go.Proofs.Ytfbfgpgpccemkaa.Dc
open Go Go.RowKit Go.Shelf

theorem upto_two {r : List Int} : upto isEnd (2 :: r) = 1 + upto isEnd r := by
  have e : run [] (2 :: r) = 1 := run_cons_nil r (by decide)
  rw [upto_cons, if_neg (by decide), e]
  rfl
/-- An at-rule. -/
theorem at_next {ts : List Bt} {k : Nat} (h : k < ts.length) (h2 : ts[k].kind = 2) :
    upto isEnd ((kds ts).drop k) = 1 + upto isEnd ((kds ts).drop (k + 1)) ∧ decls (ts.drop k) = decls (ts.drop (k + 1 + upto isEnd ((kds ts).drop (k + 1)) + run [] ((kds ts).drop (k + 1 + upto isEnd ((kds ts).drop (k + 1)))))) := by
  constructor
  · rw [kds_at h, h2, upto_two]
  · rw [List.drop_eq_getElem_cons h, decls_at h2, List.drop_drop, kds_drop, List.drop_drop]
    simp only [Nat.add_assoc]
/-- What is none, or a declaration. -/
theorem one_next {ts : List Bt} {k : Nat} (h : k < ts.length) (h9 : ts[k].kind ≠ 9) (h12 : ts[k].kind ≠ 12) (h2 : ts[k].kind ≠ 2) :
    0 < upto isSemi ((kds ts).drop k) ∧ k + upto isSemi ((kds ts).drop k) ≤ ts.length ∧ decls (ts.drop k) = (declOf ((ts.drop k).take (upto isSemi ((kds ts).drop k)))).toList ++ decls (ts.drop (k + upto isSemi ((kds ts).drop k))) := by
  have hl := upto_le' isSemi (ts.drop k)
  rw [List.length_drop, kds_drop] at hl
  have hp := upto_semi_pos (t := ts[k]) (r := ts.drop (k + 1)) h12
  have ho := decls_one (t := ts[k]) (r := ts.drop (k + 1)) h9 h12 h2
  rw [← List.drop_eq_getElem_cons h, kds_drop] at hp ho
  rw [List.drop_drop] at ho
  exact ⟨hp, by omega, ho⟩
theorem mem_part {ts : List Bt} {k m : Nat} {t : Bt} (h : t ∈ (ts.drop k).take m) : t ∈ ts := List.mem_of_mem_drop (List.mem_of_mem_take h)

set_option maxRecDepth 100000 in
set_option maxHeartbeats 4000000 in
theorem parse_any (v : Value) (ts : List Bt) (w : World) (hv : BtsAt w.heap.size w v ts) (ht : ∀ t ∈ ts, t.text.size ≤ maxLen) (hl : ts.length ≤ 100000) :
    Calls Try.prog 11 #[v] w fun e w' => ∃ v', e = .returned v' ∧ (∃ qs, qs.map Prod.fst = decls ts ∧ DcsAt w.heap.size w' v' qs) ∧ Below w.heap.size w w' := by
  obtain ⟨i0, hi, hz0, hz1, hz2⟩ := info_parts infoDecl
  obtain ⟨p, cap, rfl⟩ := hv.len
  obtain ⟨A, hA⟩ : ∃ A, decls ts = A := ⟨_, rfl⟩
  rw [hA]
  go_enter Try.func11, Try.ntmps11
  go_wp2
  go_loopw [3, 4] (fun o x wr => ∃ (k : Nat) (qs : List (Dc × Value)) (v' : Value), v' = o ∧ x = .int .i64 k ∧ k ≤ ts.length ∧ qs.length ≤ k ∧ DcsAt w.heap.size wr v' qs ∧ qs.map Prod.fst ++ decls (ts.drop k) = A ∧ Below w.heap.size w wr) (fun _ x _ => ts.length - (intOf x).toNat)
  case atStart => exact ⟨0, [], _, rfl, rfl, by omega, by simp, DcsAt.nil _ _, by simpa using hA, Below.refl _ _⟩
  case round =>
    clear hA
    obtain ⟨k, qs, v', rfl, rfl, hk, hql, hR, hA, hb⟩ := hrel
    by_cases hlt : k < ts.length
    · have hki : (k : Int) < (ts.length : Int) := by omega
      have hd : ts.drop k = ts[k] :: ts.drop (k + 1) := List.drop_eq_getElem_cons hlt
      obtain ⟨bk, off, rfl, hbk, hcap, hcm, hc, _⟩ := (hv.below hb).get (List.getElem?_eq_getElem hlt)
      have hvb := hv.below hb
      have hn := hb.size
      unfold maxLen at hcm
      by_cases h9 : ts[k].kind = 9
      · have HA : Hid (qs.map Prod.fst ++ decls (ts.drop (k + 1)) = A) := by
          show _ = _
          rw [← hA, hd, decls_pass (.inl h9)]
        rw [h9] at hc
        clear hA hd h9 hvb
        go_wp2
        exact ⟨⟨k + 1, qs, _, rfl, by go_num, by omega, by omega, hR, HA, hb⟩, by simp [intOf]; omega⟩
      · by_cases h12 : ts[k].kind = 12
        · have HA : Hid (qs.map Prod.fst ++ decls (ts.drop (k + 1)) = A) := by
            show _ = _
            rw [← hA, hd, decls_pass (.inr h12)]
          rw [h12] at hc
          clear hA hd h9 h12 hvb
          go_wp2
          exact ⟨⟨k + 1, qs, _, rfl, by go_num, by omega, by omega, hR, HA, hb⟩, by simp [intOf]; omega⟩
        · by_cases h2 : ts[k].kind = 2
          · obtain ⟨hu, hD⟩ := at_next hlt h2
            have hI := ints_new wr [12, 14] 3 (by simp)
            have hb1 : Below wr.heap.size wr (wr.alloc (.cells (([12, 14] : List Int).map (Value.int .i64)).toArray 3)) := (Below.refl _ wr).alloc (Nat.le_refl _) _
            have hs1 : (wr.alloc (.cells (([12, 14] : List Int).map (Value.int .i64)).toArray 3)).heap.size = wr.heap.size + 1 := World.size_alloc _ _
            have hv1 : BtsAt (wr.alloc (.cells (([12, 14] : List Int).map (Value.int .i64)).toArray 3)).heap.size _ (.slice (some ⟨bk, off, none⟩) ts.length cap) ts := (hvb.below (hb1.mono hn)).mono (by omega)
            have hup := callsIn_wide.1 (upTo_all 1 (Nat.le_refl _) (.slice (some ⟨bk, off, none⟩) ts.length cap) (.slice (some ⟨wr.heap.size, 0, none⟩) 2 2) ts [12, 14] k _ hv1 (by rw [hs1]; exact hI) (by omega) (by omega) (by simp))
            have hle := upto_le' isEnd (ts.drop (k + 1))
            rw [List.length_drop, kds_drop] at hle
            have hrl := run_le [] ((kds ts).drop (k + 1 + upto isEnd ((kds ts).drop (k + 1))))
            rw [List.length_drop, kds_length] at hrl
            have HA : Hid (qs.map Prod.fst ++ decls (ts.drop (k + 1 + upto isEnd ((kds ts).drop (k + 1)) + run [] ((kds ts).drop (k + 1 + upto isEnd ((kds ts).drop (k + 1)))))) = A) := by
              show _ = _
              rw [← hA, hD]
            rw [show upto (fun x => ([12, 14] : List Int).contains x) ((kds ts).drop k) = upto isEnd ((kds ts).drop k) from rfl, hu, ← Nat.add_assoc] at hup
            generalize upto isEnd ((kds ts).drop (k + 1)) = m at *
            rw [h2] at hc
            clear hA hd h2 h9 h12 hI hu hD
            go_wp2_with fail
            refine hup.mono ?_
            clear hup
            rintro e w2 ⟨rfl, hb2⟩
            have hb3 := below_next hb1 hb2
            have hbw : Below w.heap.size w w2 := below_next hb hb3
            have hv2 : BtsAt w2.heap.size w2 (.slice (some ⟨bk, off, none⟩) ts.length cap) ts := (hv.below hbw).mono hbw.size
            have hR2 := hR.kept (grown_of_below' hb3 none)
            by_cases hj : k + 1 + m < ts.length
            · have hsk := skip_in _ ts (k + 1 + m) w2 hv2 hj (by omega)
              generalize run [] ((kds ts).drop (k + 1 + m)) = q at *
              go_wp2_with fail
              refine hsk.mono ?_
              clear hsk
              rintro e w3 ⟨rfl, hb4⟩
              go_wp2
              exact ⟨⟨k + 1 + m + q, qs, _, rfl, rfl, by omega, by omega, hR2.kept (grown_of_below' hb4 none), HA, below_next hbw hb4⟩, by simp [intOf]; omega⟩
            · have hsk := skip_out 17 (.inl rfl) _ ts ((k + 1 + m : Nat) : Int) w2 hv2 (.inr (by omega))
              have hq : run [] ((kds ts).drop (k + 1 + m)) = 0 := by omega
              rw [hq, Nat.add_zero] at HA
              go_wp2_with fail
              refine hsk.mono ?_
              clear hsk
              rintro e w3 ⟨rfl, rfl⟩
              go_wp2
              exact ⟨⟨k + 1 + m, qs, _, rfl, rfl, by omega, by omega, hR2, HA, hbw⟩, by simp [intOf]; omega⟩
          · obtain ⟨hm0, hml, hD⟩ := one_next hlt h9 h12 h2
            have hI := ints_new wr [12] 3 (by simp)
            have hb1 : Below wr.heap.size wr (wr.alloc (.cells (([12] : List Int).map (Value.int .i64)).toArray 3)) := (Below.refl _ wr).alloc (Nat.le_refl _) _
            have hs1 : (wr.alloc (.cells (([12] : List Int).map (Value.int .i64)).toArray 3)).heap.size = wr.heap.size + 1 := World.size_alloc _ _
            have hv1 : BtsAt (wr.alloc (.cells (([12] : List Int).map (Value.int .i64)).toArray 3)).heap.size _ (.slice (some ⟨bk, off, none⟩) ts.length cap) ts := (hvb.below (hb1.mono hn)).mono (by omega)
            have hup := callsIn_wide.1 (upTo_all 1 (Nat.le_refl _) (.slice (some ⟨bk, off, none⟩) ts.length cap) (.slice (some ⟨wr.heap.size, 0, none⟩) 1 1) ts [12] k _ hv1 (by rw [hs1]; exact hI) (by omega) (by omega) (by simp))
            rw [show upto (fun x => ([12] : List Int).contains x) ((kds ts).drop k) = upto isSemi ((kds ts).drop k) from rfl] at hup
            rw [hD] at hA
            generalize upto isSemi ((kds ts).drop k) = m at *
            generalize hE : k + m = E at *
            obtain ⟨l1, hl1⟩ : ∃ l1, (ts.drop k).take (E - k) = l1 := ⟨_, rfl⟩
            have hmE : m = E - k := by omega
            rw [hmE, hl1] at hA
            have hn1 : l1.length = E - k := by rw [← hl1, List.length_take, List.length_drop]; omega
            have hne : l1 ≠ [] := fun e => by rw [e] at hn1; simp at hn1; omega
            have hts : ∀ t ∈ l1, t.text.size ≤ maxLen := fun t h => ht t (mem_part (by rw [hl1]; exact h))
            have p1 : ∀ W, Below w.heap.size w W → BtsAt W.heap.size W (.slice (some ⟨bk, off + k * 5, none⟩) (E - k) (cap - k)) l1 := fun W hW => hl1 ▸ ((hv.below hW).mono hW.size).part (by omega) (by omega) (by unfold maxLen; omega) (fun e => by rw [e] at hlt; simp at hlt)
            have h9' : (ts[k].kind == 9) = false := by simpa using h9
            have h12' : (ts[k].kind == 12) = false := by simpa using h12
            have h2' : (ts[k].kind == 2) = false := by simpa using h2
            have h_a : (k : Int) ≤ (E : Int) := by omega
            have h_b : (E : Int) ≤ (cap : Int) := by omega
            have hck : ¬ cap = k := by omega
            generalize ts[k].kind = kx at *
            clear hd hI hD h9 h12 h2
            go_wp2_with fail
            refine hup.mono ?_
            clear hup
            rintro e w2 ⟨rfl, hb2⟩
            have hb3 := below_next hb1 hb2
            have hbw : Below w.heap.size w w2 := below_next hb hb3
            have h3 := declaration_any _ l1 w2 (p1 _ hbw) hts (by omega) hne
            clear hl1 hts hne hn1 p1
            go_wp2_with fail
            refine h3.mono ?_
            clear h3
            rintro e w3 ⟨hone, hb4⟩
            have hbr3 := below_next hb3 hb4
            have hbw3 := below_next hbw hb4
            rcases hone with ⟨hdn, rfl⟩ | ⟨d, x, hds, rfl, rx⟩
            · have HA : Hid (qs.map Prod.fst ++ decls (ts.drop E) = A) := by
                show _ = _
                rw [← hA, hdn]
                rfl
              have hb5 : Below w3.heap.size w3 (w3.alloc (.cells #[.string ⟨#[]⟩, .slice none 0 0, .bool false] 34)) := (Below.refl _ w3).alloc (Nat.le_refl _) _
              have hR5 := hR.kept (grown_of_below' (below_next hbr3 hb5) none)
              have hbw5 := below_next hbw3 hb5
              clear hA hdn
              go_wp2
              exact ⟨⟨E, qs, _, rfl, rfl, by omega, by omega, hR5, HA, hbw5⟩, by simp [intOf]; omega⟩
            · have HA : Hid ((qs ++ [(d, x)]).map Prod.fst ++ decls (ts.drop E) = A) := by
                show _ = _
                rw [← hA, hds]
                simp
              obtain ⟨q3, c3, rfl⟩ := form_of rx
              obtain ⟨dn, dv, di⟩ := d
              simp only at rx HA ⊢
              have hb5 : Below w3.heap.size w3 (w3.alloc (.cells #[.string dn, .slice q3 dv.length c3, .bool di] 34)) := (Below.refl _ w3).alloc (Nat.le_refl _) _
              have hR5 := hR.kept (grown_of_below' (below_next hbr3 hb5) none)
              have hbw5 := below_next hbw3 hb5
              have rx5 := (owns_base rx hbw.size).kept (grown_of_below' hb5 none) (no_block _)
              have hs5 := hbw5.size
              have HC := cells_new (w3.alloc (.cells #[.string dn, .slice q3 dv.length c3, .bool di] 34)) [.string dn, .slice q3 dv.length c3, .bool di] 34
              rw [World.size_alloc] at HC
              clear hA hds
              go_wp2_with (at_builtin; refine wpList_append_own _ rfl _ _ 26 rfl w.heap.size 34 i0 (.agg #[.string ⟨#[]⟩, .slice none 0 0, .bool false]) 3 48 Try.underlying26 hi hz0 hz1 hz2 rfl (by decide) _ _ _ rfl (hR5.row.alloc _) _ 1 1 [.string dn, .slice q3 dv.length c3, .bool di] rfl rfl HC (fun u hu => by simp at hu; rcases hu with rfl | rfl | rfl <;> rfl) (by unfold maxLen; omega) (by omega) (by rw [World.size_alloc]; omega) ?_; intro v7 w7 hown7 hgrow7 hnil7)
              have hR7 := hR5.push (q := (⟨dn, dv, di⟩, .slice q3 dv.length c3)) rx5 hgrow7 hown7
              have hB7 := (hbw5.alloc hs5 _).grown hgrow7 (by rw [World.size_alloc]; omega) (fun j e => (hR5.row.lt j e).1)
              go_wp2
              exact ⟨⟨E, qs ++ [((⟨dn, dv, di⟩ : Dc), Value.slice q3 dv.length c3)], _, rfl, rfl, by omega, by simp; omega, hR7, HA, hB7⟩, by simp [intOf]; omega⟩
    · have hki : ¬ (k : Int) < (ts.length : Int) := by omega
      obtain rfl : qs.map Prod.fst = A := by
        rw [List.drop_eq_nil_iff.2 (by omega), decls_nil, List.append_nil] at hA
        exact hA
      clear hA
      go_wp2
      go_ret
      exact ⟨_, rfl, ⟨qs, rfl, hR⟩, hb⟩

end Go.Proofs.Ytfbfgpgpccemkaa.Dc
