/- rules.Parse at every slice of tokens that is not too long. -/
import Derived.Test.YteihbpmmjlkkgaaRsRaw
import Derived.Deep.AppendLies
import Derived.Deep.RegionLaw
namespace Go.Proofs.Yteihbpmmjlkkgaa
open Go Go.RowKit Go.Shelf

theorem ints_new (W : World) (l : List Int) (t : TypeId) (hl : l.length ≤ 1000000) : IntsAt (W.heap.size + 1) (W.alloc (.cells (l.map (Value.int .i64)).toArray t)) (.slice (some ⟨W.heap.size, 0, none⟩) l.length l.length) l := by
  refine .inr ⟨W.heap.size, 0, l.length, rfl, Nat.le_refl _, by unfold maxLen; omega, by omega, fun j u hj => ?_⟩
  have := cells_new W (l.map (Value.int .i64)) t j (.int .i64 u) (by rw [List.getElem?_map, hj]; rfl)
  rwa [addr_add] at this
theorem BtsAt.some {n₀ : Nat} {X : World} {p : Option Addr} {n cap : Nat} {l : List Bt} (h : BtsAt n₀ X (.slice p n cap) l) (hk : 0 < l.length) : ∃ bk off, p = some ⟨bk, off, none⟩ ∧ l.length ≤ cap ∧ cap ≤ maxLen := by
  obtain ⟨bk, off, h1, _, h2, h3, _⟩ := h.get (List.getElem?_eq_getElem hk)
  exact ⟨bk, off, h1, h2, h3⟩
theorem below_next {w W W' : World} (h : Below w.heap.size w W) (hb : Below W.heap.size W W') : Below w.heap.size w W' := h.trans (hb.mono h.size)
theorem Stk_form {X : World} {b : Nat} {e : TypeId} {size : Nat} {v : Value} {m : Nat} {xs : List Value} (h : X.ownsRow b e size v m xs) : ∃ q c, v = .slice q m c := by
  rcases h.2 with ⟨rfl, h0⟩ | ⟨g, cap, cur, rfl, _⟩
  · exact ⟨none, 0, by rw [h0]⟩
  · exact ⟨_, _, rfl⟩
theorem upto_le' (p : Int → Bool) (ts : List Bt) : upto p (kds ts) ≤ ts.length := by
  have := upto_le p _ (kds ts) (Nat.le_refl _)
  rwa [kds_length] at this

set_option maxRecDepth 100000 in
set_option maxHeartbeats 4000000 in
theorem parse_any (v : Value) (ts : List Bt) (w : World) (hv : BtsAt w.heap.size w v ts) (hl : ts.length ≤ 100000) :
    Calls Try.prog 8 #[v] w fun e w' => ∃ v', e = .returned v' ∧ (∃ vs, RawsAt w.heap.size w' v' (rules ts) vs) ∧ Below w.heap.size w w' := by
  obtain ⟨i0, hi, hz0, hz1, hz2⟩ := info_parts infoRaw
  obtain ⟨p, cap, rfl⟩ := hv.len
  obtain ⟨A, hA⟩ : ∃ A, rules ts = A := ⟨_, rfl⟩
  rw [hA]
  go_enter Try.func8, Try.ntmps8
  go_wp2
  go_loopw [3, 4] (fun o x wr => ∃ (k : Nat) (done : List Rw) (v' : Value) (vs : List (Value × Value)), v' = o ∧ x = .int .i64 k ∧ k ≤ ts.length + 1 ∧ done.length ≤ k ∧ RawsAt w.heap.size wr v' done vs ∧ done ++ rules (ts.drop k) = A ∧ Below w.heap.size w wr) (fun _ x _ => ts.length + 1 - (intOf x).toNat)
  case atStart => exact ⟨0, [], _, [], rfl, rfl, by omega, by simp, RawsAt.nil _ _, by simpa using hA, Below.refl _ _⟩
  case round =>
    clear hA
    obtain ⟨k, done, v', vs, rfl, rfl, hk, hdl, hR, hA, hb⟩ := hrel
    by_cases hlt : k < ts.length
    · have hki : (k : Int) < (ts.length : Int) := by omega
      have hd : ts.drop k = ts[k] :: ts.drop (k + 1) := List.drop_eq_getElem_cons hlt
      obtain ⟨bk, off, rfl, hbk, hcap, hcm, hc, _⟩ := (hv.below hb).get (List.getElem?_eq_getElem hlt)
      have hvb := hv.below hb
      unfold maxLen at hcm
      by_cases h9 : ts[k].kind = 9
      · have HA : Hid (done ++ rules (ts.drop (k + 1)) = A) := by
          show _ = _
          rw [← hA, hd, rules_white h9]
        rw [h9] at hc
        clear hA hd h9 hvb
        go_wp2
        exact ⟨⟨k + 1, done, _, vs, rfl, by go_num, by omega, by omega, hR, HA, hb⟩, by simp [intOf]; omega⟩
      · by_cases h2 : ts[k].kind = 2
        · have hn := hb.size
          have hI := ints_new wr [12, 14] 3 (by simp)
          have hb1 : Below wr.heap.size wr (wr.alloc (.cells (([12, 14] : List Int).map (Value.int .i64)).toArray 3)) := (Below.refl _ wr).alloc (Nat.le_refl _) _
          have hs1 : (wr.alloc (.cells (([12, 14] : List Int).map (Value.int .i64)).toArray 3)).heap.size = wr.heap.size + 1 := World.size_alloc _ _
          have hv1 : BtsAt (wr.alloc (.cells (([12, 14] : List Int).map (Value.int .i64)).toArray 3)).heap.size _ (.slice (some ⟨bk, off, none⟩) ts.length cap) ts := (hvb.below (hb1.mono hn)).mono (by omega)
          have hup := callsIn_wide.1 (upTo_all 1 (Nat.le_refl _) (.slice (some ⟨bk, off, none⟩) ts.length cap) (.slice (some ⟨wr.heap.size, 0, none⟩) 2 2) ts [12, 14] (k + 1) _ hv1 (by rw [hs1]; exact hI) (by omega) (by omega) (by simp))
          have hle := upto_le' isStop (ts.drop (k + 1))
          rw [List.length_drop] at hle
          have hrl := run_le [] ((kds ts).drop (k + 1 + upto isStop (kds (ts.drop (k + 1)))))
          rw [List.length_drop, kds_length] at hrl
          have HA : Hid (done ++ rules (ts.drop (k + 1 + upto isStop (kds (ts.drop (k + 1))) + run [] ((kds ts).drop (k + 1 + upto isStop (kds (ts.drop (k + 1))))))) = A) := by
            show _ = _
            rw [← hA, hd, rules_at h2, List.drop_drop, kds_drop, List.drop_drop, ← kds_drop]
            simp only [kds_drop, Nat.add_assoc]
          rw [← kds_drop, show upto (fun x => ([12, 14] : List Int).contains x) (kds (ts.drop (k + 1))) = upto isStop (kds (ts.drop (k + 1))) from rfl] at hup
          rw [show (((k + 1 : Nat) : Int)) = (k : Int) + 1 by omega] at hup
          generalize upto isStop (kds (ts.drop (k + 1))) = m at *
          rw [h2] at hc
          clear hA hd h2 h9 hI
          go_wp2_with fail
          refine hup.mono ?_
          clear hup
          rintro e w2 ⟨rfl, hb2⟩
          have hb3 := hb1.trans (hb2.mono hb1.size)
          have hbw : Below w.heap.size w w2 := hb.trans (hb3.mono hn)
          have hv2 : BtsAt w2.heap.size w2 (.slice (some ⟨bk, off, none⟩) ts.length cap) ts := (hv.below hbw).mono hbw.size
          have hR2 := hR.kept (grown_of_below' hb3 none)
          by_cases hj : k + 1 + m < ts.length
          · have hsk := skip_in _ ts (k + 1 + m) w2 hv2 hj (by omega)
            generalize run [] ((kds ts).drop (k + 1 + m)) = q at *
            go_wp2_with fail
            refine hsk.mono ?_
            clear hsk
            rintro e w3 ⟨rfl, hb4⟩
            go_wp2
            exact ⟨⟨k + 1 + m + q, done, _, vs, rfl, rfl, by omega, by omega, hR2.kept (grown_of_below' hb4 none), HA, hbw.trans (hb4.mono hbw.size)⟩, by simp [intOf]; omega⟩
          · have hsk := skip_out 14 (.inl rfl) _ ts ((k + 1 + m : Nat) : Int) w2 hv2 (.inr (by omega))
            have hq : run [] ((kds ts).drop (k + 1 + m)) = 0 := by omega
            rw [hq, Nat.add_zero] at HA
            go_wp2_with fail
            refine hsk.mono ?_
            clear hsk
            rintro e w3 ⟨rfl, rfl⟩
            go_wp2
            exact ⟨⟨k + 1 + m, done, _, vs, rfl, rfl, by omega, by omega, hR2, HA, hbw⟩, by simp [intOf]; omega⟩
        · have hn := hb.size
          have hd0 : (ts.drop k).length = ts.length - k := List.length_drop
          have hm := upto_le' is14 (ts.drop k)
          have hn2 := upto_le' is15' (ts.drop (k + upto is14 (kds (ts.drop k)) + 1))
          rw [hd0] at hm
          rw [List.length_drop] at hn2
          have hA0 : upto is14 (kds (ts.drop k)) = ts.length - k → done = A := fun e => by
            rw [hd] at hA e hd0
            rw [rules_none h9 h2 (by rw [e, hd0]), List.append_nil] at hA
            exact hA
          have hA1 : upto is14 (kds (ts.drop k)) ≠ ts.length - k → (done ++ [((ts.drop k).take (upto is14 (kds (ts.drop k))), (ts.drop (k + upto is14 (kds (ts.drop k)) + 1)).take (upto is15' (kds (ts.drop (k + upto is14 (kds (ts.drop k)) + 1)))))]) ++ rules (ts.drop (k + upto is14 (kds (ts.drop k)) + 1 + upto is15' (kds (ts.drop (k + upto is14 (kds (ts.drop k)) + 1))) + 1)) = A := fun e => by
            have e1 : ts.drop (k + upto is14 (kds (ts.drop k)) + 1) = (ts.drop k).drop (upto is14 (kds (ts.drop k)) + 1) := by rw [List.drop_drop, Nat.add_assoc]
            have e3 : ∀ a N : Nat, ts.drop (k + a + 1 + N + 1) = (ts.drop k).drop (a + 1 + (N + 1)) := fun a N => by
              rw [List.drop_drop]
              congr 1
              omega
            rw [e1, e3, ← hA]
            rw [hd] at e hd0 ⊢
            rw [rules_one h9 h2 (by rw [hd0]; exact e)]
            simp
          have hI := ints_new wr [14] 3 (by simp)
          have hb1 : Below wr.heap.size wr (wr.alloc (.cells (([14] : List Int).map (Value.int .i64)).toArray 3)) := (Below.refl _ wr).alloc (Nat.le_refl _) _
          have hs1 : (wr.alloc (.cells (([14] : List Int).map (Value.int .i64)).toArray 3)).heap.size = wr.heap.size + 1 := World.size_alloc _ _
          have hv1 : BtsAt (wr.alloc (.cells (([14] : List Int).map (Value.int .i64)).toArray 3)).heap.size _ (.slice (some ⟨bk, off, none⟩) ts.length cap) ts := (hvb.below (hb1.mono hn)).mono (by omega)
          have hup := callsIn_wide.1 (upTo_all 1 (Nat.le_refl _) (.slice (some ⟨bk, off, none⟩) ts.length cap) (.slice (some ⟨wr.heap.size, 0, none⟩) 1 1) ts [14] k _ hv1 (by rw [hs1]; exact hI) (by omega) (by omega) (by simp))
          rw [← kds_drop, show upto (fun x => ([14] : List Int).contains x) (kds (ts.drop k)) = upto is14 (kds (ts.drop k)) from rfl] at hup
          generalize upto is14 (kds (ts.drop k)) = m at *
          have h9' : (ts[k].kind == 9) = false := by simpa using h9
          have h2' : (ts[k].kind == 2) = false := by simpa using h2
          generalize ts[k].kind = kx at *
          clear hA hd hI
          go_wp2_with fail
          refine hup.mono ?_
          clear hup
          rintro e w2 ⟨rfl, hb2⟩
          have hb3 := below_next hb1 hb2
          have hbw : Below w.heap.size w w2 := below_next hb hb3
          by_cases ho : k + m = ts.length
          · obtain rfl := hA0 (by omega)
            have hoi : ((k + m : Nat) : Int) = (ts.length : Int) := by omega
            have hR2 := hR.kept (grown_of_below' hb3 none)
            clear hA0 hA1
            go_wp2
            go_ret
            exact ⟨_, rfl, ⟨vs, hR2⟩, hbw⟩
          · have HA := hA1 (by omega)
            have hoi : ¬ ((k + m : Nat) : Int) = (ts.length : Int) := by omega
            have hob : (((k + m : Nat) : Int) == (ts.length : Int)) = false := by simpa using hoi
            have hI2 := ints_new w2 [15] 3 (by simp)
            have hb4 : Below w2.heap.size w2 (w2.alloc (.cells (([15] : List Int).map (Value.int .i64)).toArray 3)) := (Below.refl _ w2).alloc (Nat.le_refl _) _
            have hs4 : (w2.alloc (.cells (([15] : List Int).map (Value.int .i64)).toArray 3)).heap.size = w2.heap.size + 1 := World.size_alloc _ _
            have hb4w := below_next hbw hb4
            have hv4 : BtsAt (w2.alloc (.cells (([15] : List Int).map (Value.int .i64)).toArray 3)).heap.size _ (.slice (some ⟨bk, off, none⟩) ts.length cap) ts := (hv.below hb4w).mono hb4w.size
            have hup2 := callsIn_wide.1 (upTo_all 1 (Nat.le_refl _) (.slice (some ⟨bk, off, none⟩) ts.length cap) (.slice (some ⟨w2.heap.size, 0, none⟩) 1 1) ts [15] (k + m + 1) _ hv4 (by rw [hs4]; exact hI2) (by omega) (by omega) (by simp))
            rw [← kds_drop, show upto (fun x => ([15] : List Int).contains x) (kds (ts.drop (k + m + 1))) = upto is15' (kds (ts.drop (k + m + 1))) from rfl] at hup2
            rw [show (((k + m + 1 : Nat) : Int)) = ((k + m : Nat) : Int) + 1 by omega] at hup2
            generalize upto is15' (kds (ts.drop (k + m + 1))) = n at *
            generalize hO : k + m = O at *
            generalize hE : O + 1 + n = E at *
            have h_a : (k : Int) ≤ (O : Int) := by omega
            have h_b : (O : Int) ≤ (cap : Int) := by omega
            have h_c : (O : Int) + 1 ≤ (E : Int) := by omega
            have h_d : (E : Int) ≤ (cap : Int) := by omega
            have h_e : (E : Int) ≤ 9223372036854775806 := by omega
            have h_f : (O : Int) ≤ 200000 := by omega
            clear hA0 hA1 hI2
            go_wp2_with fail
            refine hup2.mono ?_
            clear hup2
            rintro e w5 ⟨rfl, hb5⟩
            have hb5r := below_next (below_next hb3 hb4) hb5
            have hb5w := below_next hb4w hb5
            have hR5 := hR.kept (grown_of_below' hb5r none)
            obtain ⟨l1, hl1⟩ : ∃ l1, (ts.drop k).take (O - k) = l1 := ⟨_, rfl⟩
            obtain ⟨l2, hl2⟩ : ∃ l2, (ts.drop (O + 1)).take (E - (O + 1)) = l2 := ⟨_, rfl⟩
            have hn1 : l1.length ≤ 1000000 := by rw [← hl1, List.length_take, List.length_drop]; omega
            have hn3 : l2.length ≤ 1000000 := by rw [← hl2, List.length_take, List.length_drop]; omega
            have HA2 : Hid ((done ++ [(l1, l2)]) ++ rules (ts.drop (E + 1)) = A) := by
              show _ = _
              rw [← HA, ← hl1, ← hl2, show O - k = m by omega, show E - (O + 1) = n by omega]
            clear HA
            have p1 : ∀ W, Below w.heap.size w W → BtsAt W.heap.size W (.slice (some ⟨bk, off + k * 5, none⟩) (O - k) (cap - k)) l1 := fun W hW => hl1 ▸ ((hv.below hW).mono hW.size).part (by omega) (by omega) (by unfold maxLen; omega) (fun e => by rw [e] at hlt; simp at hlt)
            have hck : ¬ cap = k := by omega
            have h_z : (0 : Int) ≤ (O : Int) + 1 := by omega
            have hwr : IntKind.i64.wrap ((O : Int) + 1) = ((O + 1 : Nat) : Int) := by rw [IntKind.wrap_i64]; omega
            have h_g : ((O + 1 : Nat) : Int) ≤ (E : Int) := by omega
            have hRW : ∀ W, Below wr.heap.size wr W → RawsAt w.heap.size W v' done vs := fun W hW => hR.kept (grown_of_below' hW none)
            obtain ⟨pp, hpp⟩ : ∃ pp : Option Addr, (if cap = O + 1 then some (⟨bk, off, none⟩ : Addr) else some ⟨bk, off + (O + 1) * 5, none⟩) = pp := ⟨_, rfl⟩
            have p2 : ∀ W, Below w.heap.size w W → BtsAt W.heap.size W (.slice pp (E - (O + 1)) (cap - (O + 1))) l2 := fun W hW => by
              rw [← hpp, ← hl2]
              by_cases hc2 : cap = O + 1
              · rw [if_pos hc2, show E - (O + 1) = 0 by omega, show cap - (O + 1) = 0 by omega]
                exact .inl ⟨by simp, .inr ⟨_, _, rfl, Nat.zero_le _⟩⟩
              · rw [if_neg hc2]
                exact ((hv.below hW).mono hW.size).part (by omega) (by omega) (by unfold maxLen; omega) (fun e => by rw [e] at hlt; simp at hlt)
            go_wp2_with fail
            go_region_law (first
              | (refine step_append_lies (w := World.alloc _ _) rfl _ _ 26 rfl w.heap.size 36 i0 (.agg #[.slice none 0 0, .slice none 0 0]) 2 48 Try.underlying26 hi hz0 hz1 hz2 rfl (by decide) v' _ _ rfl ((hRW _ (by assumption)).row.alloc _) _ 1 1 [_, _] rfl rfl (cells_new _ [_, _] _) (fun u hu => by simp at hu; rcases hu with rfl | rfl <;> rfl) (by decide) (by unfold maxLen; omega) (by omega) (by rw [World.size_alloc]; have := Below.size (by assumption : Below w.heap.size w _); omega) _ rfl ?_; intro g7 c7 w7 hown7 hgrow7 hat7 hlt7)
              | (go_simp; go_at_call 16; refine (copied_any _ _ _ (by first | exact p1 _ (by first | assumption | exact below_drew (by assumption)) | exact p2 _ (by first | assumption | exact below_drew (by assumption))) (by assumption)).mono ?_; rintro e wN ⟨vN, rfl, rN, bN⟩; have qN := below_next (w := w) (by first | assumption | exact below_drew (by assumption)) bN; have tN := below_next (w := wr) (by first | assumption | exact below_drew (by assumption)) bN; obtain ⟨pN, cN, rfl⟩ := Stk_form rN))
            rename_i wM bM qM tM pM cM rM
            have hsz := hbw.size
            have hsz5 := hb5w.size
            have hszM := qM.size
            have r1 := owns_base (rM.kept (grown_of_below' bN none) (by cases Value.ownBlock _ with | none => exact .inl rfl | some j => exact .inr (by simp))) (show w.heap.size ≤ _ from hsz5)
            have r2 := owns_base rN (show w.heap.size ≤ _ from hszM)
            have hR7 := (hRW _ tN).push (p := (_, _)) (r := (l1, l2)) r1 r2 hgrow7 hown7
            have hB7 := (qN.alloc qN.size _).grown hgrow7 (by rw [World.size_alloc]; have := qN.size; omega) (fun j e => ((hRW _ tN).row.lt j e).1)
            clear hat7 hgrow7 hown7 hRW p1 p2 hpp
            go_wp2
            exact ⟨⟨E + 1, done ++ [(l1, l2)], _, _, rfl, by go_num, by omega, by simp; omega, hR7, HA2, hB7⟩, by simp [intOf]; omega⟩
    · have hki : ¬ (k : Int) < (ts.length : Int) := by omega
      obtain rfl : done = A := by
        rw [List.drop_eq_nil_iff.2 (by omega), rules_nil, List.append_nil] at hA
        exact hA
      clear hA
      go_wp2
      go_ret
      exact ⟨_, rfl, ⟨vs, hR⟩, hb⟩

end Go.Proofs.Yteihbpmmjlkkgaa
