/- The document's own Sets at every slice of declarations, and its SameSets at two slices of one list. -/
import Derived.Test.YtghjpefkeobfnaaDoorVlSetsG
import Derived.Test.YtghjpefkeobfnaaDoorVlRefV
import Derived.Deep.RegionLaw
import Derived.Deep.AppendLies
namespace Go.Proofs.YtghjpefkeobfnaaDoor.Vl
open Go Go.RowKit

theorem SetsIn.drew {b : Nat} {X : World} {v : Value} {l : List Sv} (h : SetsIn b X v l) (n : Nat) : SetsIn b (X.drewN n) v l := h.keep (below_drewN X n)

set_option maxRecDepth 100000 in
set_option maxHeartbeats 2000000 in
/-- SameSets: yes, where both hold one list. -/
theorem sameSets_yes (v v' : Value) (l : List Sv) (b b' : Nat) (w : World) (hv : SetsIn b w v l) (hv' : SetsIn b' w v' l) (hl : l.length ≤ 1000) :
    Calls Tryd.prog 20 #[v, v'] w fun e w' => e = .returned (.bool true) ∧ ∃ n, w' = w.drewN n := by
  obtain ⟨p, cap, rfl⟩ := hv.form
  obtain ⟨p', cap', rfl⟩ := hv'.form
  go_enter Tryd.func20, Tryd.ntmps20
  go_wp2
  go_loopw [5] (fun i wr => ∃ k n : Nat, i = .int .i64 k ∧ k ≤ l.length ∧ wr = w.drewN n) (fun i _ => l.length - (intOf i).toNat)
  case atStart => exact ⟨0, 0, rfl, Nat.zero_le _, rfl⟩
  case round =>
    obtain ⟨k, n, rfl, hk, rfl⟩ := hrel
    by_cases hlt : k < l.length
    · obtain ⟨g, rfl, a0, a1, a2, a3⟩ := hv.get (List.getElem?_eq_getElem hlt)
      obtain ⟨g', rfl, b0, b1, b2, b3⟩ := hv'.get (List.getElem?_eq_getElem hlt)
      clear hv hv'
      generalize l[k] = t at *
      have hki : (k : Int) < (l.length : Int) := by omega
      go_wp2
      go_quiet (fail)
      go_wp2
      exact ⟨⟨k + 1, _, by go_num, by omega, rfl⟩, by simp [intOf]; omega⟩
    · have hki : ¬ (k : Int) < (l.length : Int) := by omega
      go_wp2
      go_ret
      exact ⟨rfl, n, rfl⟩

set_option maxRecDepth 100000 in
set_option maxHeartbeats 4000000 in
theorem refSets_any (v : Value) (ds : List Dl) (w : World) (hv : DlsAt w.heap.size w v ds) (ht : ∀ d ∈ ds, ∀ t ∈ d.val, t.text.size ≤ maxLen) (hl : ds.length ≤ 1000) :
    Calls Tryd.prog 22 #[v] w fun e w' => ∃ v', e = .returned v' ∧ SetsIn w.heap.size w' v' (setsV ds) ∧ Below w.heap.size w w' := by
  obtain ⟨i0, hi, hz0, hz1, hz2⟩ := info_parts infoSet
  obtain ⟨q, cap, rfl⟩ := hv.len
  have HT : Hid (∀ d ∈ ds, ∀ t ∈ d.val, t.text.size ≤ maxLen) := ht
  clear ht
  obtain ⟨A, hA⟩ : ∃ A, setsV ds = A := ⟨_, rfl⟩
  have hAl := setsV_len ds
  rw [hA] at hAl ⊢
  go_enter Tryd.func22, Tryd.ntmps22
  go_wp2
  go_loopw [3, 4] (fun o i wr => ∃ (k : Nat) (qs : List Sv) (v0 : Value), i = .int .i64 k ∧ o = v0 ∧ k ≤ ds.length ∧ qs.length ≤ k ∧ SetsIn w.heap.size wr v0 qs ∧ Hid (qs ++ setsV (ds.drop k) = A) ∧ Below w.heap.size w wr) (fun _ i _ => ds.length - (intOf i).toNat)
  case atStart => exact ⟨0, [], _, rfl, rfl, Nat.zero_le _, by simp, World.ownsRow_nil _ _ _ _, hA, Below.refl _ _⟩
  case round =>
    obtain ⟨k, qs, v0, rfl, rfl, hk, hqk, hR, HA, hbw⟩ := hrel
    clear hA
    have hvr := hv.next hbw
    obtain ⟨q0, c0, rfl⟩ := hR.form
    by_cases hlt : k < ds.length
    · have hki : (k : Int) < (ds.length : Int) := by omega
      have hdk : ds[k]? = some ds[k] := List.getElem?_eq_getElem hlt
      have htd := (show ∀ d ∈ ds, ∀ t ∈ d.val, t.text.size ≤ maxLen from HT) ds[k] (List.getElem_mem hlt)
      obtain ⟨bk, off, rfl, hbk, _, _, x0, x1, x2, hbt⟩ := hvr.get hdk
      have HA2 : qs ++ ((setOf ds[k]).toList ++ setsV (ds.drop (k + 1))) = A := by
        rw [← setsV_drop hdk]
        exact HA
      unfold setOf at HA2
      clear HA hdk
      generalize ds[k] = d at *
      obtain ⟨name, val, dv, imp⟩ := d
      simp only at htd x0 x1 x2 hbt HA2
      obtain ⟨qd, cd, rfl⟩ := hbt.len
      have hp := refProp_any name wr
      obtain ⟨pn, ok, hV⟩ : ∃ pn ok, propV name.data.toList = (pn, ok) := ⟨_, _, rfl⟩
      rw [hV] at hp HA2
      simp only at hp HA2
      clear hV hvr
      have hsr := hbw.size
      go_wp2_with fail
      refine hp.mono ?_
      clear hp
      rintro e w1 ⟨rfl, b1⟩
      replace x1 := (b1.cell (p := ⟨bk, off + k * 3 + 1, none⟩) hbk).trans x1
      replace x2 := (b1.cell (p := ⟨bk, off + k * 3 + 2, none⟩) hbk).trans x2
      have hbt1 := hbt.next b1
      have hR1 := hR.keep b1
      have hb1 := below_next hbw b1
      have hbk1 : bk < w1.heap.size := Nat.lt_of_lt_of_le hbk b1.size
      clear x0 hbt hR
      cases ok with
      | false =>
        have HA3 : Hid (qs ++ setsV (ds.drop (k + 1)) = A) := by unfold Hid; simpa using HA2
        clear HA2
        go_wp2
        exact ⟨⟨k + 1, qs, _, by go_num, rfl, by omega, by omega, hR1, HA3, hb1⟩, by simp [intOf]; omega⟩
      | true =>
        have hpa := refValue_any pn _ val _ hbt1 htd
        simp only [if_true] at HA2
        obtain ⟨v1, v2, v3, hV⟩ : ∃ v1 v2 v3, parseV pn val = (v1, v2, v3) := ⟨_, _, _, rfl⟩
        rw [hV] at hpa HA2
        simp only at HA2
        unfold ret at hpa
        simp only at hpa
        clear hV htd
        go_wp2_with fail
        refine hpa.mono ?_
        clear hpa
        rintro e w2 ⟨rfl, b2⟩
        have hR2 := hR1.keep b2
        have hb2 := below_next hb1 b2
        have bE : Below w2.heap.size w2 (w2.alloc (.cells #[.int .i64 v1, .int .i64 v2] 27)) := (Below.refl _ _).alloc (Nat.le_refl _) _
        have kE : Blk (w2.alloc (.cells #[.int .i64 v1, .int .i64 v2] 27)) w2.heap.size _ _ := Blk.new w2 27 [.int .i64 v1, .int .i64 v2]
        have hR3 := hR2.keep bE
        have hb3 := below_next hb2 bE
        replace x2 := (b2.cell (p := ⟨bk, off + k * 3 + 2, none⟩) hbk1).trans x2
        have hbk2 : bk < w2.heap.size := Nat.lt_of_lt_of_le hbk1 b2.size
        replace x2 := (bE.cell (p := ⟨bk, off + k * 3 + 2, none⟩) hbk2).trans x2
        clear hR1 hR2 hbt1 x1
        cases v3 with
        | false =>
          have HA3 : Hid (qs ++ setsV (ds.drop (k + 1)) = A) := by unfold Hid; simpa using HA2
          clear HA2 kE x2
          go_wp2
          exact ⟨⟨k + 1, qs, _, by go_num, rfl, by omega, by omega, hR3, HA3, hb3⟩, by simp [intOf]; omega⟩
        | true =>
          have HA3 : Hid ((qs ++ [(pn, v1, v2, imp)]) ++ setsV (ds.drop (k + 1)) = A) := by unfold Hid; simpa using HA2
          clear HA2
          obtain ⟨⟨z0, z1⟩, _⟩ := blk2 kE
          go_upto_region 9 with fail
          generalize w2.alloc (.cells #[.int .i64 v1, .int .i64 v2] 27) = w3 at *
          have hs3 := hb3.size
          have bO : Below w3.heap.size w3 (w3.alloc (.cells #[.int .i64 pn, .int .i64 v1, .int .i64 v2, .bool imp] 62)) := (Below.refl _ _).alloc (Nat.le_refl _) _
          have HC : ∀ j u, ([.int .i64 pn, .int .i64 v1, .int .i64 v2, .bool imp] : List Value)[j]? = some u → (w3.alloc (.cells #[.int .i64 pn, .int .i64 v1, .int .i64 v2, .bool imp] 62)).drew.cell? ((⟨w3.heap.size, 0, none⟩ : Addr).add j) = some u := cells_new w3 [.int .i64 pn, .int .i64 v1, .int .i64 v2, .bool imp] 62
          have hR4 : (w3.alloc (.cells #[.int .i64 pn, .int .i64 v1, .int .i64 v2, .bool imp] 62)).drew.ownsRow w.heap.size 62 4 (.slice q0 qs.length c0) qs.length (qs.flatMap svCells) := hR3.keep (below_drew bO)
          have hbO : w.heap.size ≤ (w3.alloc (.cells #[.int .i64 pn, .int .i64 v1, .int .i64 v2, .bool imp] 62)).drew.heap.size := by show _ ≤ (w3.alloc (.cells #[.int .i64 pn, .int .i64 v1, .int .i64 v2, .bool imp] 62)).heap.size; rw [World.size_alloc]; omega
          have H1 : ∀ u ∈ ([.int .i64 pn, .int .i64 v1, .int .i64 v2, .bool imp] : List Value), u.oneCell' = true := fun u hu => by simp at hu; rcases hu with rfl | rfl | rfl | rfl <;> rfl
          have m1 : qs.length + 1 ≤ maxLen := by unfold maxLen; omega
          have m2 : (qs.length + 1) * 32 ≤ 140737488355328 := by omega
          have HH : Hid (Below w.heap.size w (w3.alloc (.cells #[.int .i64 pn, .int .i64 v1, .int .i64 v2, .bool imp] 62)).drew) := below_drew (hb3.alloc hs3 _)
          go_region_law (refine step_append_lies (w := (w3.alloc (.cells #[.int .i64 pn, .int .i64 v1, .int .i64 v2, .bool imp] 62)).drew) rfl _ _ 41 rfl w.heap.size 62 i0 (.agg #[.int .i64 0, .int .i64 0, .int .i64 0, .bool false]) 4 32 Tryd.underlying41 hi hz0 hz1 hz2 rfl (by decide) (.slice q0 qs.length c0) _ _ rfl hR4 ⟨w3.heap.size, 0, none⟩ 1 1 [.int .i64 pn, .int .i64 v1, .int .i64 v2, .bool imp] rfl rfl HC H1 (by decide) m1 m2 hbO _ rfl ?_; intro g7 c7 w7 hown7 hgrow7 hat7 hlt7)
          all_goals
            have hR7 : SetsIn w.heap.size w7 (.slice (some ⟨g7, 0, none⟩) (qs.length + 1) c7) (qs ++ [(pn, v1, v2, imp)]) := by
              unfold SetsIn
              rw [List.length_append, List.flatMap_append]
              simpa [svCells] using hown7
            have hB7 := (show Below w.heap.size w _ from HH).grown hgrow7 hbO (fun j e => (World.ownsRow.lt hR4 j e).1)
            clear HC hR4 H1 HH hat7
            go_wp2
            exact ⟨⟨k + 1, qs ++ [(pn, v1, v2, imp)], _, by go_num, rfl, by omega, by simp; omega, hR7, HA3, hB7⟩, by simp [intOf]; omega⟩
    · have hki : ¬ (k : Int) < (ds.length : Int) := by omega
      obtain rfl : qs = A := by
        have := HA
        unfold Hid at this
        rw [List.drop_eq_nil_of_le (by omega)] at this
        simpa [setsV] using this
      clear HA
      go_wp2
      go_ret
      exact ⟨_, rfl, hR, hbw⟩

end Go.Proofs.YtghjpefkeobfnaaDoor.Vl
