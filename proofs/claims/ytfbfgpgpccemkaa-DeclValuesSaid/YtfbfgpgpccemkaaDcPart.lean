/- decl.partLast and decl.withoutMark, at every slice of tokens. -/
import Derived.Test.YtfbfgpgpccemkaaBsF
import Derived.Test.YtfbfgpgpccemkaaDcLow
import Derived.Deep.RegionHeld
namespace Go.Proofs.Ytfbfgpgpccemkaa.Dc
open Go Go.RowKit Go.Shelf

set_option maxRecDepth 100000 in
set_option maxHeartbeats 2000000 in
theorem partLast_any (v : Value) (l : List Bt) (w : World) (n₀ : Nat) (hn : n₀ ≤ w.heap.size) (hv : BtsAt n₀ w v l) :
    Calls Try.prog 48 #[v] w fun e w' => ((endW l = [] ∧ e = .returned (.tuple #[.slice none 0 0, .agg #[.int .i64 0, .string ⟨#[]⟩, .int .i64 0, .bool false, .int .i64 0]])) ∨ (∃ a t v', endW l = a ++ [t] ∧ e = .returned (.tuple #[v', .agg #[.int .i64 t.kind, .string t.text, .int .i64 t.n, .bool t.whole, .int .i64 t.c]]) ∧ BtsAt n₀ w' v' a)) ∧ Below w.heap.size w w' := by
  have t0 := Blk.new w 36 [.int .i64 0, .string ⟨#[]⟩, .int .i64 0, .bool false, .int .i64 0]
  have b0 : Below w.heap.size w (w.alloc (.cells #[.int .i64 0, .string ⟨#[]⟩, .int .i64 0, .bool false, .int .i64 0] 36)) := (Below.refl _ w).alloc (Nat.le_refl _) _
  have h1 := beforeWhite_any v l _ _ (hv.below (b0.mono hn))
  generalize endW l = A at *
  go_enter Try.func48, Try.ntmps48
  go_wp2_with fail
  refine h1.mono ?_
  clear h1
  rintro e w1 ⟨v1, rfl, hv1, rfl⟩
  replace t0 : Blk (w.alloc (.cells #[.int .i64 0, .string ⟨#[]⟩, .int .i64 0, .bool false, .int .i64 0] 36)) w.heap.size _ _ := t0
  generalize w.alloc (.cells #[.int .i64 0, .string ⟨#[]⟩, .int .i64 0, .bool false, .int .i64 0] 36) = W at *
  obtain ⟨⟨c0, c1, c2, c3, c4⟩, f0, f1, f2, f3, f4⟩ := blk5 t0
  have hB := t0.lt
  by_cases hA : A = []
  · subst hA
    obtain ⟨p, cap, rfl⟩ := hv1.empty
    go_wp2
    refine bodyPost_ret (results_tmp_struct rfl _ _ _ _ rfl (load_tok (blk_set5 t0 _ _ _ _ _))) rfl ?_
    exact ⟨by first | exact .inl ⟨rfl, rfl⟩ | rfl, below_grown b0 (grown_set5 _ _ _ _ _ _ _) (by omega) (Nat.le_refl _)⟩
  · obtain ⟨r, t, rfl⟩ := split_last hA
    obtain ⟨bk, off, cap, rfl, h1, h2, hb, ⟨x0, x1, x2, x3, x4⟩, hr⟩ := hv1.last
    unfold maxLen at h2
    have hpos : ¬ (r.length : Int) + 1 = 0 := by omega
    have hsub : IntKind.i64.wrap ((r.length : Int) + 1 - 1) = (r.length : Int) := by rw [IntKind.wrap_i64]; omega
    have hsub2 : IntKind.i64.wrap (r.length : Int) = (r.length : Int) := by rw [IntKind.wrap_i64]; omega
    have hlt3 : (r.length : Int) < (r.length : Int) + 1 := by omega
    have hr1 : (r.length : Int) ≤ (cap : Int) := by omega
    have hr2 : ¬ cap = 0 := by omega
    clear hA
    go_wp2
    go_region_law (fail)
    go_wp2
    refine bodyPost_ret (results_tmp_struct rfl _ _ w.heap.size _ rfl (load_tok (show Blk (set5 W w.heap.size (.int .i64 t.kind) (.string t.text) (.int .i64 t.n) (.bool t.whole) (.int .i64 t.c)).drew w.heap.size _ _ from blk_set5 t0 _ _ _ _ _))) rfl ?_
    have b5 := below_grown b0 (grown_set5 W w.heap.size (.int .i64 t.kind) (.string t.text) (.int .i64 t.n) (.bool t.whole) (.int .i64 t.c)) (by omega) (Nat.le_refl _)
    have b6 : Below w.heap.size w (set5 W w.heap.size (.int .i64 t.kind) (.string t.text) (.int .i64 t.n) (.bool t.whole) (.int .i64 t.c)).drew := below_drew b5
    have b7 : Below w.heap.size W (set5 W w.heap.size (.int .i64 t.kind) (.string t.text) (.int .i64 t.n) (.bool t.whole) (.int .i64 t.c)).drew := below_drew (below_grown (Below.refl _ _) (grown_set5 _ _ _ _ _ _ _) (by omega) (Nat.le_refl _))
    exact ⟨.inr ⟨r, t, _, rfl, rfl, hr.below (b7.mono hn)⟩, b6⟩

theorem str_ne {z : ByteArray} (h : z ≠ importantT) : (z.toList == [105, 109, 112, 111, 114, 116, 97, 110, 116]) = false := by
  rw [ByteArray.toList_eq, beq_eq_false_iff_ne]
  intro e
  exact h (ByteArray.ext (Array.toList_inj.1 e))
theorem low_eq (s : ByteArray) : (⟨(Lw.low s.data.toList).toArray⟩ : ByteArray) = lowT s := rfl
theorem lower_any (s : ByteArray) (w : World) (hs : s.size ≤ maxLen) : Calls Try.prog 31 #[.string s] w fun e w' => e = .returned (.string (lowT s)) ∧ Below w.heap.size w w' := Lw.lower_any s w hs
theorem refLower_any (s : ByteArray) (w : World) (hs : s.size ≤ maxLen) : Calls Try.prog 15 #[.string s] w fun e w' => e = .returned (.string (lowT s)) ∧ Below w.heap.size w w' := Lw.refLower_any s w hs

set_option maxRecDepth 100000 in
set_option maxHeartbeats 2000000 in
theorem withoutMark_any (v : Value) (l : List Bt) (w : World) (hv : BtsAt w.heap.size w v l) (ht : ∀ t ∈ l, t.text.size ≤ maxLen) :
    Calls Try.prog 29 #[v] w fun e w' => ∃ v', e = .returned (.tuple #[v', .bool (unmark l).2]) ∧ BtsAt w.heap.size w' v' (unmark l).1 ∧ Below w.heap.size w w' := by
  have h1 := partLast_any v l w _ (Nat.le_refl _) hv
  obtain ⟨U, hU⟩ : ∃ U, unmark l = U := ⟨_, rfl⟩
  rw [hU]
  go_enter Try.func29, Try.ntmps29
  go_wp2_with fail
  refine h1.mono ?_
  clear h1
  rintro e w1 ⟨⟨hA, rfl⟩ | ⟨a, t, v1, hA, rfl, hva⟩, b1⟩
  · obtain rfl : (l, false) = U := by rw [← hU]; simp [unmark, lastT_nil hA]
    have bX : Below w1.heap.size w1 (w1.alloc (.cells #[.int .i64 0, .string ⟨#[]⟩, .int .i64 0, .bool false, .int .i64 0] 36)) := (Below.refl _ w1).alloc (Nat.le_refl _) _
    have bwX := below_next b1 bX
    have hvX := hv.below bwX
    clear hU hA bX b1
    go_wp2
    go_ret2
    exact ⟨_, rfl, hvX, bwX⟩
  · have hta : t ∈ l := endW_mem (by rw [hA]; simp)
    have hsz := ht t hta
    have hau : ∀ u ∈ a, u ∈ l := fun u hu => endW_mem (by rw [hA]; simp [hu])
    have bX : Below w1.heap.size w1 (w1.alloc (.cells #[.int .i64 t.kind, .string t.text, .int .i64 t.n, .bool t.whole, .int .i64 t.c] 36)) := (Below.refl _ w1).alloc (Nat.le_refl _) _
    have hkX := Blk.new w1 36 [.int .i64 t.kind, .string t.text, .int .i64 t.n, .bool t.whole, .int .i64 t.c]
    have bwX := below_next b1 bX
    have hvX := hv.below bwX
    have hsX : (w1.alloc (.cells #[.int .i64 t.kind, .string t.text, .int .i64 t.n, .bool t.whole, .int .i64 t.c] 36)).heap.size = w1.heap.size + 1 := World.size_alloc _ _
    have hvaX := hva.below (bX.mono b1.size)
    have hs1 := b1.size
    by_cases hk : t.kind = 1
    · have hlow := fun W => lower_any t.text W hsz
      rw [hk] at bX hkX bwX hvX hsX hvaX
      by_cases hw : lowT t.text = importantT
      · have hM : isMarkWord t = true := by simp [isMarkWord, hk, hw]
        rw [hw] at hlow
        rw [hk]
        go_wp2_with fail
        refine (hlow _).mono ?_
        clear hlow
        rintro e w2 ⟨rfl, b2⟩
        have b02 := below_next bwX b2
        have hva2 := hvaX.below (b2.mono (by omega))
        have h2 := partLast_any v1 a w2 _ b02.size hva2
        clear bX bwX hvX hvaX hkX hsX hva
        unfold importantT
        go_wp2_with fail
        refine h2.mono ?_
        clear h2
        rintro e w3 ⟨⟨hA2, rfl⟩ | ⟨a2, t2, v2, hA2, rfl, hva3⟩, b3⟩
        · obtain rfl : (l, false) = U := by rw [← hU]; simp [unmark, lastT_some hA, lastT_nil hA2]
          have bY : Below w3.heap.size w3 (w3.alloc (.cells #[.int .i64 0, .string ⟨#[]⟩, .int .i64 0, .bool false, .int .i64 0] 36)) := (Below.refl _ w3).alloc (Nat.le_refl _) _
          have bwY := below_next (below_next b02 b3) bY
          have hvY := hv.below bwY
          clear hU hA hA2 bY b3 hva2 hM
          go_wp2
          go_ret2
          exact ⟨_, rfl, hvY, bwY⟩
        · have bY : Below w3.heap.size w3 (w3.alloc (.cells #[.int .i64 t2.kind, .string t2.text, .int .i64 t2.n, .bool t2.whole, .int .i64 t2.c] 36)) := (Below.refl _ w3).alloc (Nat.le_refl _) _
          have bw3 := below_next b02 b3
          have bwY := below_next bw3 bY
          have hvY := hv.below bwY
          have hvaY := hva3.below (bY.mono bw3.size)
          by_cases h10 : t2.kind = 10
          · rw [h10] at bY bwY hvY hvaY
            rw [h10]
            by_cases h33 : t2.c = 33
            · obtain rfl : (endW a2, true) = U := by rw [← hU]; simp [unmark, lastT_some hA, lastT_some hA2, hM, isMarkSign, h10, h33]
              rw [h33] at bY bwY hvY hvaY
              rw [h33]
              have h4 := fun W (h : BtsAt w.heap.size W v2 a2) => beforeWhite_any v2 a2 W w.heap.size h
              clear hU hA hA2 hM h10 h33
              go_wp2_with fail
              refine (h4 _ hvaY).mono ?_
              rintro e w4 ⟨v4, rfl, hv4, rfl⟩
              go_wp2
              go_ret2
              exact ⟨_, rfl, hv4, bwY⟩
            · obtain rfl : (l, false) = U := by rw [← hU]; simp [unmark, lastT_some hA, lastT_some hA2, hM, isMarkSign, h10, h33]
              have h33' : (t2.c != 33) = true := by simpa using h33
              clear hU hA hA2 hM h10
              go_wp2
              go_ret2
              exact ⟨_, rfl, hvY, bwY⟩
          · obtain rfl : (l, false) = U := by rw [← hU]; simp [unmark, lastT_some hA, lastT_some hA2, hM, isMarkSign, h10]
            have h10' : (t2.kind != 10) = true := by simpa using h10
            clear hU hA hA2 hM
            go_wp2
            go_ret2
            exact ⟨_, rfl, hvY, bwY⟩
      · have hM : isMarkWord t = false := by simp [isMarkWord, hw]
        obtain rfl : (l, false) = U := by rw [← hU]; simp [unmark, lastT_some hA, hM]
        have hw' : ((lowT t.text).toList == [105, 109, 112, 111, 114, 116, 97, 110, 116]) = false := str_ne hw
        rw [hk]
        generalize lowT t.text = z at *
        go_wp2_with fail
        refine (hlow _).mono ?_
        clear hlow
        rintro e w2 ⟨rfl, b2⟩
        have b02 := below_next bwX b2
        have hv2 := hv.below b02
        clear bX bwX hvX hvaX hkX hsX hva hU hA hw
        go_wp2
        go_ret2
        exact ⟨_, rfl, hv2, b02⟩
    · have hM : isMarkWord t = false := by simp [isMarkWord, hk]
      obtain rfl : (l, false) = U := by rw [← hU]; simp [unmark, lastT_some hA, hM]
      have hk' : (t.kind != 1) = true := by simpa using hk
      clear hU hA hM hk
      go_wp2
      go_ret2
      exact ⟨_, rfl, hvX, bwX⟩

end Go.Proofs.Ytfbfgpgpccemkaa.Dc
